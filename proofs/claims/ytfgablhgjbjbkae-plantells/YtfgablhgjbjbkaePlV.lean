/-
  The walk of plan's Covers.
-/
import Derived.Test.YtfgablhgjbjbkaePlB
namespace Go.Proofs.Ytfgablhgjbjbkae
open Go.RowKit Go.GrainU

set_option maxRecDepth 20000 in
set_option maxHeartbeats 2000000 in
theorem covers_any (s : Grain.Shf) (v0 v1 v2 v3 : Value) (l : List Grain.Pt) (ao : Option Addr) (n c : Nat) (f t : Int) (b : Bool) (w : World) (hs : Seg w ao (pcells l)) (hn : n = l.length) (hL : n ≤ 1000000000000000) (hb : b = Grain.cvr s l f t) :
    Calls Try.prog 28 #[.agg #[v0, v1, v2, v3, .int .i64 s.rf, .int .i64 s.ff, .int .i64 s.ft, .int .i64 s.cf, .int .i64 s.ct], .slice ao n c, .int .i64 f, .int .i64 t] w fun e w' => e = .returned (.bool b) ∧ Below w.heap.size w w' := by
  have HB := hide (hb.trans (Grain.cvr_iff s l f t))
  have HN := hide hn
  clear hb hn
  obtain ⟨V, hV⟩ : ∃ V, V = w.alloc (.cells #[v0, v1, v2, v3, .int .i64 s.rf, .int .i64 s.ff, .int .i64 s.ft, .int .i64 s.cf, .int .i64 s.ct] 44) := ⟨_, rfl⟩
  have bel : Below w.heap.size w V := by rw [hV]; exact (Below.refl _ _).alloc (Nat.le_refl _) _
  have hsV := hs.below bel
  have HV := hide hV
  clear hV
  rcases Nat.eq_zero_or_pos n with h0 | h0
  · subst h0
    have e : b = decide (f = t) := by rw [HB.out, if_pos HN.out.symm]
    subst e
    clear HB
    go_enter Try.func28, Try.ntmps28
    go_wp2
    go_ret
    rw [← HV.out]
    exact ⟨ret_bool (by rw [Bool.eq_iff_iff]; simp), bel⟩
  · obtain ⟨m, rfl⟩ : ∃ m, n = m + 1 := ⟨n - 1, by omega⟩
    have hm : m < l.length := by have := HN.out; omega
    obtain ⟨bb, off, rfl, hbl, hcell⟩ := seg_part hs hm
    obtain ⟨A, hA⟩ : ∃ A, A = (Grain.pt l 0).f := ⟨_, rfl⟩
    obtain ⟨B, hB⟩ : ∃ B, B = (Grain.pt l m).t := ⟨_, rfl⟩
    have e : b = (decide (A = f) && (decide (B = t) && Grain.fol s l)) := by
      rw [HB.out, if_neg (by have := HN.out; omega), hA, hB, show l.length - 1 = m by have := HN.out; omega]
    obtain ⟨b', hb'⟩ : ∃ b', b' = Grain.fol s l := ⟨_, rfl⟩
    have z1 : w.cell? ⟨bb, off + 1, none⟩ = some (.int .i64 A) := by
      rw [hA]
      have := (hcell 0 (by omega)).2.1
      simpa using this
    have z2 : w.cell? ⟨bb, off + m * 3 + 2, none⟩ = some (.int .i64 B) := by rw [hB]; exact (hcell m hm).2.2
    have hw1 : IntKind.i64.wrap ((m : Int) + 1 - 1) = (m : Int) := by rw [IntKind.wrap_i64]; omega
    have hw2 : IntKind.i64.wrap (m : Int) = (m : Int) := by rw [IntKind.wrap_i64]; omega
    have h3 : (((m + 1 : Nat) : Int) == 0) = false := by simp; omega
    have h4 : (((m : Int) + 1) == 0) = false := by simp; omega
    rw [← hb'] at e
    have HB' := hide hb'
    have HE := hide e
    clear hA hB hb' e HB hcell hm h0
    by_cases e1 : A = f
    · by_cases e2 : B = t
      · have e : b = b' := by rw [HE.out]; simp [e1, e2]
        subst e
        have g1 : (A == f) = true := by simp [e1]
        have g2 : (B == t) = true := by simp [e2]
        clear HE
        subst e1 e2
        go_enter Try.func28, Try.ntmps28
        go_wp2_with fail
        rw [← HV.out]
        refine (follow_any s v0 v1 v2 v3 l _ (m + 1) c b V hsV HN.out hL HB'.out).mono ?_
        rintro e w1 ⟨rfl, hb1⟩
        go_wp2
        go_ret
        exact ⟨rfl, below_pl hb1 bel⟩
      · have e : b = false := by rw [HE.out]; simp [e2]
        subst e
        have g1 : (A == f) = true := by simp [e1]
        have g2 : (B == t) = false := by simp [e2]
        clear HE
        subst e1
        go_enter Try.func28, Try.ntmps28
        go_wp2
        go_ret
        rw [← HV.out]
        exact ⟨rfl, bel⟩
    · have e : b = false := by rw [HE.out]; simp [e1]
      subst e
      have g1 : (A == f) = false := by simp [e1]
      clear HE
      go_enter Try.func28, Try.ntmps28
      go_wp2
      go_ret
      rw [← HV.out]
      exact ⟨rfl, bel⟩

end Go.Proofs.Ytfgablhgjbjbkae
