/-
  The walk of AggJoined.
-/
import Derived.Test.YthbllehncjeolabAggAlive
namespace Go.Proofs.Ythbllehncjeolab
open Go.RowKit Go.GrainU

theorem below_step {W V w' : World} (hb : Below V.heap.size V w') (h : Below W.heap.size W V) : Below W.heap.size W w' := h.trans (hb.mono h.size)

theorem sum_new (w : World) (s : Grain.Sm) : SumAt (w.alloc (.cells #[.int .i64 s.c, .int .i64 s.t, .int .i64 s.mn, .int .i64 s.mx, .int .i64 s.f, .int .i64 s.l, .int .i64 s.r] 23)) w.heap.size s := heap_alloc_new w _

theorem SumAt.alloc {w : World} {B : Nat} {s : Grain.Sm} (h : SumAt w B s) (o : Obj) : SumAt (w.alloc o) B s := by
  unfold SumAt at h ⊢; rw [Below.heap_alloc _ _ _ (lt_of_block h)]; exact h

theorem three_sums (w : World) (a b c : Grain.Sm) : ∃ W, W = ((w.alloc (.cells #[.int .i64 a.c, .int .i64 a.t, .int .i64 a.mn, .int .i64 a.mx, .int .i64 a.f, .int .i64 a.l, .int .i64 a.r] 23)).alloc (.cells #[.int .i64 b.c, .int .i64 b.t, .int .i64 b.mn, .int .i64 b.mx, .int .i64 b.f, .int .i64 b.l, .int .i64 b.r] 23)).alloc (.cells #[.int .i64 c.c, .int .i64 c.t, .int .i64 c.mn, .int .i64 c.mx, .int .i64 c.f, .int .i64 c.l, .int .i64 c.r] 23) ∧
    SumAt W w.heap.size a ∧ SumAt W (w.heap.size + 1) b ∧ SumAt W (w.heap.size + 1 + 1) c ∧ Below w.heap.size w W := by
  refine ⟨_, rfl, ((sum_new w a).alloc _).alloc _, ?_, ?_, (((Below.refl _ _).alloc (Nat.le_refl _) _).alloc (by simp) _).alloc (by simp; omega) _⟩
  · have := (sum_new (w.alloc (.cells #[.int .i64 a.c, .int .i64 a.t, .int .i64 a.mn, .int .i64 a.mx, .int .i64 a.f, .int .i64 a.l, .int .i64 a.r] 23)) b).alloc (.cells #[.int .i64 c.c, .int .i64 c.t, .int .i64 c.mn, .int .i64 c.mx, .int .i64 c.f, .int .i64 c.l, .int .i64 c.r] 23)
    rw [show (w.alloc (.cells #[.int .i64 a.c, .int .i64 a.t, .int .i64 a.mn, .int .i64 a.mx, .int .i64 a.f, .int .i64 a.l, .int .i64 a.r] 23)).heap.size = w.heap.size + 1 from by simp] at this
    exact this
  · have := sum_new ((w.alloc (.cells #[.int .i64 a.c, .int .i64 a.t, .int .i64 a.mn, .int .i64 a.mx, .int .i64 a.f, .int .i64 a.l, .int .i64 a.r] 23)).alloc (.cells #[.int .i64 b.c, .int .i64 b.t, .int .i64 b.mn, .int .i64 b.mx, .int .i64 b.f, .int .i64 b.l, .int .i64 b.r] 23)) c
    rw [show ((w.alloc (.cells #[.int .i64 a.c, .int .i64 a.t, .int .i64 a.mn, .int .i64 a.mx, .int .i64 a.f, .int .i64 a.l, .int .i64 a.r] 23)).alloc (.cells #[.int .i64 b.c, .int .i64 b.t, .int .i64 b.mn, .int .i64 b.mx, .int .i64 b.f, .int .i64 b.l, .int .i64 b.r] 23)).heap.size = w.heap.size + 1 + 1 from by simp] at this
    exact this

set_option maxHeartbeats 1000000 in
theorem eql_sv (s : Grain.Sm) (w : World) : (binOp .eql 23 (sv s) (sv s)).run Try.prog w = .ok (.bool true) w := by
  simp [sv, go_sem]

set_option maxHeartbeats 1000000 in
theorem neq_sv (s : Grain.Sm) (w : World) : (binOp .neq 23 (sv s) (.agg #[.int .i64 s.c, .int .i64 s.t, .int .i64 s.mn, .int .i64 s.mx, .int .i64 s.f, .int .i64 s.l, .int .i64 s.r])).run Try.prog w = .ok (.bool false) w := by
  simp [sv, go_sem]

set_option maxHeartbeats 2000000 in
theorem joined_out (a b c : Grain.Sm) (w : World) (h : a.c < 0 ∨ b.c < 0 ∨ c.c < 0 ∨ 1099511627776 < a.c ∨ 1099511627776 < b.c ∨ 1099511627776 < c.c) :
    Calls Try.prog 3 #[sv a, sv b, sv c] w fun e w' => e = .returned (.bool true) ∧ Below w.heap.size w w' := by
  have h' : a.c < 0 ∨ (0 ≤ a.c ∧ b.c < 0) ∨ (0 ≤ a.c ∧ 0 ≤ b.c ∧ c.c < 0) ∨ (0 ≤ a.c ∧ 0 ≤ b.c ∧ 0 ≤ c.c ∧ 1099511627776 < a.c) ∨ (0 ≤ a.c ∧ 0 ≤ b.c ∧ 0 ≤ c.c ∧ a.c ≤ 1099511627776 ∧ 1099511627776 < b.c) ∨ (0 ≤ a.c ∧ 0 ≤ b.c ∧ 0 ≤ c.c ∧ a.c ≤ 1099511627776 ∧ b.c ≤ 1099511627776 ∧ 1099511627776 < c.c) := by omega
  clear h
  obtain ⟨W, hW, A, B, C, bel⟩ := three_sums w a b c
  have HW := hide hW
  clear hW
  simp only [sv]
  rcases h' with h1 | ⟨h1, h2⟩ | ⟨h1, h2, h3⟩ | ⟨h1, h2, h3, h4⟩ | ⟨h1, h2, h3, h4, h5⟩ | ⟨h1, h2, h3, h4, h5, h6⟩
  all_goals
    go_enter Try.func3, Try.ntmps3
    go_wp2_with fail
    rw [← HW.out]
    refine (alive_any _).mono ?_
    rintro e w1 ⟨rfl, hb1⟩
    obtain ⟨a0, _, _, _, _, _, _⟩ := (A.below hb1).cells
    obtain ⟨b0, _, _, _, _, _, _⟩ := (B.below hb1).cells
    obtain ⟨c0, _, _, _, _, _, _⟩ := (C.below hb1).cells
    have bel1 := bel.trans (hb1.mono bel.size)
    clear hb1 A B C
    go_wp2
    go_ret
    exact ⟨rfl, bel1⟩

end Go.Proofs.Ythbllehncjeolab
