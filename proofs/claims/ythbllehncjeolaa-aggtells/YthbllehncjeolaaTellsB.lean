/-
  The words that AggTells asks for: the eight, and one more.
-/
import Derived.Test.YthbllehncjeolaaValueW
namespace Go.Proofs.Ythbllehncjeolaa
open Go.RowKit Go.GrainU

theorem Try.infoString : (Try.prog.info? 9).map (fun i => (i.zero, i.size, i.bytes)) = some (some (.string ⟨#[]⟩), 1, 16) := by kernel_rfl

def wsL (x : ByteArray) : List Value := [.string ⟨#[97, 118, 103]⟩, .string ⟨#[99, 111, 117, 110, 116]⟩, .string ⟨#[102, 105, 114, 115, 116]⟩, .string ⟨#[108, 97, 115, 116]⟩, .string ⟨#[109, 97, 120]⟩, .string ⟨#[109, 105, 110]⟩, .string ⟨#[114, 105, 115, 101]⟩, .string ⟨#[115, 117, 109]⟩] ++ [.string x]

theorem ws_at (x : ByteArray) (s : Grain.Sm) (k : Nat) (hk : k < 9) : ∃ y, (wsL x)[k]? = some (.string y) ∧ (k < 8 → (resw y s).2 = true) := by
  rcases k with _ | _ | _ | _ | _ | _ | _ | _ | _ | k
  · exact ⟨⟨#[97, 118, 103]⟩, rfl, fun _ => by simp [resw]⟩
  · exact ⟨⟨#[99, 111, 117, 110, 116]⟩, rfl, fun _ => by simp [resw]⟩
  · exact ⟨⟨#[102, 105, 114, 115, 116]⟩, rfl, fun _ => by simp [resw]⟩
  · exact ⟨⟨#[108, 97, 115, 116]⟩, rfl, fun _ => by simp [resw]⟩
  · exact ⟨⟨#[109, 97, 120]⟩, rfl, fun _ => by simp [resw]⟩
  · exact ⟨⟨#[109, 105, 110]⟩, rfl, fun _ => by simp [resw]⟩
  · exact ⟨⟨#[114, 105, 115, 101]⟩, rfl, fun _ => by simp [resw]⟩
  · exact ⟨⟨#[115, 117, 109]⟩, rfl, fun _ => by simp [resw]⟩
  · exact ⟨x, rfl, fun h => by omega⟩
  · omega

theorem value_q (s : Grain.Sm) (x : ByteArray) (q : Int) (z : Bool) (h : resa x s = (q, z)) (w : World) (t0 : -9223372036854775808 ≤ s.t) (t1 : s.t ≤ 9223372036854775807) :
    Calls Try.prog 23 #[.string x, .agg #[.int .i64 s.c, .int .i64 s.t, .int .i64 s.mn, .int .i64 s.mx, .int .i64 s.f, .int .i64 s.l, .int .i64 s.r]] w fun e w' => e = .returned (.tuple #[.int .i64 q, .bool z]) ∧ Below w.heap.size w w' := by
  have := value_all s x w t0 t1
  rw [h] at this
  exact this

theorem word_q (s : Grain.Sm) (x : ByteArray) (q : Int) (z : Bool) (h : resa x s = (q, z)) (w : World) (t0 : -9223372036854775808 ≤ s.t) (t1 : s.t ≤ 9223372036854775807) :
    Calls Try.prog 24 #[.string x, .agg #[.int .i64 s.c, .int .i64 s.t, .int .i64 s.mn, .int .i64 s.mx, .int .i64 s.f, .int .i64 s.l, .int .i64 s.r]] w fun e w' => e = .returned (.tuple #[.int .i64 q, .bool z]) ∧ Below w.heap.size w w' := by
  have := word_all s x w t0 t1
  rw [h] at this
  exact this

end Go.Proofs.Ythbllehncjeolaa
