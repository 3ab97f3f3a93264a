/-
  The walks of Value at three words.
-/
import Derived.Test.YthbllehncjeolaaValue
namespace Go.Proofs.Ythbllehncjeolaa
open Go.RowKit Go.GrainU

set_option maxHeartbeats 1000000 in
theorem value_avg (s : Grain.Sm) (w : World) (h : 1 ≤ s.c) (h0 : -9223372036854775808 ≤ s.t) (h1 : s.t ≤ 9223372036854775807) :
    Calls Try.prog 23 #[.string ⟨#[97, 118, 103]⟩, .agg #[.int .i64 s.c, .int .i64 s.t, .int .i64 s.mn, .int .i64 s.mx, .int .i64 s.f, .int .i64 s.l, .int .i64 s.r]] w fun e w' => e = .returned (.tuple #[.int .i64 (s.t.tdiv s.c), .bool true]) ∧ Below w.heap.size w w' := by
  have hq := wrap_i64_tdiv s.t s.c h0 h1 h
  have hz : (s.c == 0) = false := by simp; omega
  go_enter Try.func23, Try.ntmps23
  go_wp2
  exact bodyPost_ret (v := .tuple #[.int .i64 (s.t.tdiv s.c), .bool true]) (by simp [results, Try.results23, go_sem]) rfl ⟨rfl, by go_grown⟩

set_option maxHeartbeats 1000000 in
theorem value_first (s : Grain.Sm) (w : World) (h : 1 ≤ s.c) :
    Calls Try.prog 23 #[.string ⟨#[102, 105, 114, 115, 116]⟩, .agg #[.int .i64 s.c, .int .i64 s.t, .int .i64 s.mn, .int .i64 s.mx, .int .i64 s.f, .int .i64 s.l, .int .i64 s.r]] w fun e w' => e = .returned (.tuple #[.int .i64 s.f, .bool true]) ∧ Below w.heap.size w w' := by
  go_enter Try.func23, Try.ntmps23
  go_wp2
  exact bodyPost_ret (v := .tuple #[.int .i64 s.f, .bool true]) (by simp [results, Try.results23, go_sem]) rfl ⟨rfl, by go_grown⟩

set_option maxHeartbeats 1000000 in
theorem value_last (s : Grain.Sm) (w : World) (h : 1 ≤ s.c) :
    Calls Try.prog 23 #[.string ⟨#[108, 97, 115, 116]⟩, .agg #[.int .i64 s.c, .int .i64 s.t, .int .i64 s.mn, .int .i64 s.mx, .int .i64 s.f, .int .i64 s.l, .int .i64 s.r]] w fun e w' => e = .returned (.tuple #[.int .i64 s.l, .bool true]) ∧ Below w.heap.size w w' := by
  go_enter Try.func23, Try.ntmps23
  go_wp2
  exact bodyPost_ret (v := .tuple #[.int .i64 s.l, .bool true]) (by simp [results, Try.results23, go_sem]) rfl ⟨rfl, by go_grown⟩

end Go.Proofs.Ythbllehncjeolaa
