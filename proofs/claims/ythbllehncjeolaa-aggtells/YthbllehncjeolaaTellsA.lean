/-
  The contracts that AggTells' walk calls by, with one letter for what two of them answer.
-/
import Derived.Test.YthbllehncjeolaaRefOf
import Derived.Test.YthbllehncjeolaaRefJoin
namespace Go.Proofs.Ythbllehncjeolaa
open Go.RowKit Go.GrainU

/-- the document's Of, whatever the samples -/
theorem rof_k (l : List (Int × Int)) (ao : Option Addr) (n cap : Nat) (w : World) (hs : Seg w ao (scells l)) (hn : n = l.length) (hL : n ≤ 1152921504606846975)
    (hv : ∀ j, j < n → -9223372036854775808 ≤ Grain.vl l j ∧ Grain.vl l j ≤ 9223372036854775807) (J : Grain.Sm) (hJ : J = Grain.of l) :
    Calls Try.prog 18 #[.slice ao n cap] w fun e w' => e = .returned (.agg #[.int .i64 J.c, .int .i64 J.t, .int .i64 J.mn, .int .i64 J.mx, .int .i64 J.f, .int .i64 J.l, .int .i64 J.r]) ∧ Below w.heap.size w w' := by
  subst hJ
  rcases Nat.eq_zero_or_pos n with h0 | h0
  · subst h0
    have e : Grain.of l = Grain.zero := by unfold Grain.of; rw [← hn]; rfl
    rw [e]
    exact rof_none ao cap w
  · obtain ⟨b, off, rfl, _⟩ := hs.sample (k := 0) (by omega)
    exact rof_some l b off n cap w hs hn h0 hL hv

theorem rjoin_k (a b : Grain.Sm) (w : World) (K : Grain.Sm) (hK : K = Grain.join a b) :
    Calls Try.prog 20 #[.agg #[.int .i64 a.c, .int .i64 a.t, .int .i64 a.mn, .int .i64 a.mx, .int .i64 a.f, .int .i64 a.l, .int .i64 a.r], .agg #[.int .i64 b.c, .int .i64 b.t, .int .i64 b.mn, .int .i64 b.mx, .int .i64 b.f, .int .i64 b.l, .int .i64 b.r]] w fun e w' => e = .returned (.agg #[.int .i64 K.c, .int .i64 K.t, .int .i64 K.mn, .int .i64 K.mx, .int .i64 K.f, .int .i64 K.l, .int .i64 K.r]) ∧ Below w.heap.size w w' := by
  subst hK
  exact rjoin_any a b w

theorem one_k (v : Int) (w : World) :
    Calls Try.prog 21 #[.int .i64 v] w fun e w' => e = .returned (.agg #[.int .i64 1, .int .i64 v, .int .i64 v, .int .i64 v, .int .i64 v, .int .i64 v, .int .i64 0]) ∧ Below w.heap.size w w' := one_any v w

theorem rone_k (v : Int) (H : Nat) (w : World) (hs : Seg w (some ⟨H, 0, none⟩) (scells [(0, v)])) (h0 : -9223372036854775808 ≤ v) (h1 : v ≤ 9223372036854775807) :
    Calls Try.prog 18 #[.slice (some ⟨H, 0, none⟩) 1 1] w fun e w' => e = .returned (.agg #[.int .i64 1, .int .i64 v, .int .i64 v, .int .i64 v, .int .i64 v, .int .i64 v, .int .i64 0]) ∧ Below w.heap.size w w' := by
  refine (rof_k [(0, v)] (some ⟨H, 0, none⟩) 1 1 w hs rfl (by decide) (fun j hj => ?_) (Grain.one v) ?_).mono fun e w' h => h
  · have : j = 0 := by omega
    subst this
    exact ⟨h0, h1⟩
  · rw [show Grain.of [(0, v)] = Grain.ofN [(0, v)] 1 from rfl, Grain.ofN, Grain.ofN, Grain.join_zero_left _ _ rfl]; rfl

theorem below_step {W V w' : World} (hb : Below V.heap.size V w') (h : Below W.heap.size W V) : Below W.heap.size W w' := h.trans (hb.mono h.size)

theorem sum_new (w : World) (s : Grain.Sm) : SumAt (w.alloc (.cells #[.int .i64 s.c, .int .i64 s.t, .int .i64 s.mn, .int .i64 s.mx, .int .i64 s.f, .int .i64 s.l, .int .i64 s.r] 40)) w.heap.size s := heap_alloc_new w _

theorem SumAt.alloc {w : World} {B : Nat} {s : Grain.Sm} (h : SumAt w B s) (o : Obj) : SumAt (w.alloc o) B s := by
  unfold SumAt at h ⊢; rw [Below.heap_alloc _ _ _ (lt_of_block h)]; exact h

theorem two_sums (w : World) (a b : Grain.Sm) : ∃ W, W = (w.alloc (.cells #[.int .i64 a.c, .int .i64 a.t, .int .i64 a.mn, .int .i64 a.mx, .int .i64 a.f, .int .i64 a.l, .int .i64 a.r] 40)).alloc (.cells #[.int .i64 b.c, .int .i64 b.t, .int .i64 b.mn, .int .i64 b.mx, .int .i64 b.f, .int .i64 b.l, .int .i64 b.r] 40) ∧ SumAt W w.heap.size a ∧ SumAt W (w.heap.size + 1) b ∧ Below w.heap.size w W := by
  refine ⟨_, rfl, (sum_new w a).alloc _, ?_, ((Below.refl _ _).alloc (Nat.le_refl _) _).alloc (by simp) _⟩
  have := sum_new (w.alloc (.cells #[.int .i64 a.c, .int .i64 a.t, .int .i64 a.mn, .int .i64 a.mx, .int .i64 a.f, .int .i64 a.l, .int .i64 a.r] 40)) b
  rw [show (w.alloc (.cells #[.int .i64 a.c, .int .i64 a.t, .int .i64 a.mn, .int .i64 a.mx, .int .i64 a.f, .int .i64 a.l, .int .i64 a.r] 40)).heap.size = w.heap.size + 1 from by simp] at this
  exact this

theorem below_alloc' {U V : World} (h : Below U.heap.size U V) (o : Obj) : Below U.heap.size U (V.alloc o) := h.alloc h.size o

end Go.Proofs.Ythbllehncjeolaa
