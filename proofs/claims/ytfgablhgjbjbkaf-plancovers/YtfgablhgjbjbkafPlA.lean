/-
  The walks of plan's isWhole and mayRead.
-/
import Derived.Test.YtfgablhgjbjbkafPlU
import Derived.Test.YtfgablhgjbjbkafRollPut
import Derived.Test.YtfgablhgjbjbkafShA
namespace Go.Proofs.Ytfgablhgjbjbkaf
open Go.RowKit Go.GrainU

theorem below_pl {W V w' : World} (hb : Below V.heap.size V w') (h : Below W.heap.size W V) : Below W.heap.size W w' := h.trans (hb.mono h.size)

theorem nine9 {w : World} {B : Nat} {x0 x1 x2 x3 x4 x5 x6 x7 x8 : Value} {t : TypeId} (h : w.heap[B]? = some (.cells #[x0, x1, x2, x3, x4, x5, x6, x7, x8] t (0, 0))) :
    w.cell? ⟨B, 0, none⟩ = some x0 ∧ w.cell? ⟨B, 1, none⟩ = some x1 ∧ w.cell? ⟨B, 2, none⟩ = some x2 ∧ w.cell? ⟨B, 3, none⟩ = some x3 ∧ w.cell? ⟨B, 4, none⟩ = some x4 ∧ w.cell? ⟨B, 5, none⟩ = some x5 ∧ w.cell? ⟨B, 6, none⟩ = some x6 ∧ w.cell? ⟨B, 7, none⟩ = some x7 ∧ w.cell? ⟨B, 8, none⟩ = some x8 := by
  refine ⟨?_, ?_, ?_, ?_, ?_, ?_, ?_, ?_, ?_⟩ <;> (rw [cell_of_row w B _ _ t (0, 0) h]; rfl)

theorem three3 {w : World} {B : Nat} {x0 x1 x2 : Value} {t : TypeId} (h : w.heap[B]? = some (.cells #[x0, x1, x2] t (0, 0))) :
    w.cell? ⟨B, 0, none⟩ = some x0 ∧ w.cell? ⟨B, 1, none⟩ = some x1 ∧ w.cell? ⟨B, 2, none⟩ = some x2 := by
  refine ⟨?_, ?_, ?_⟩ <;> (rw [cell_of_row w B _ _ t (0, 0) h]; rfl)

set_option maxHeartbeats 1000000 in
theorem whole_any (k f t st : Int) (b : Bool) (w : World) (hk : k = 1 ∧ st = 10 ∨ k = 2 ∧ st = 60) (hb : b = decide (f % st = 0 ∧ t % st = 0)) :
    Calls Try.prog 41 #[.agg #[.int .i64 k, .int .i64 f, .int .i64 t]] w fun e w' => e = .returned (.bool b) ∧ Below w.heap.size w w' := by
  have H1 := hide (tmod_emod f st)
  have H2 := hide (tmod_emod t st)
  have HB := hide hb
  clear hb
  have bel : Below w.heap.size w (w.alloc (.cells #[.int .i64 k, .int .i64 f, .int .i64 t] 34)) := (Below.refl _ _).alloc (Nat.le_refl _) _
  rcases hk with ⟨rfl, rfl⟩ | ⟨rfl, rfl⟩
  all_goals
    go_enter Try.func41, Try.ntmps41
    go_wp2_with fail
    refine (step_any _ _).mono ?_
    rintro e w1 ⟨rfl, rfl⟩
    simp only [stepOf]
    go_wp2
    all_goals
      go_ret
      refine ⟨ret_bool ?_, bel⟩
      have h1 := H1.out
      have h2 := H2.out
      rw [HB.out]
      clear H1 H2 HB
      rw [Bool.eq_iff_iff]
      simp
      omega

set_option maxHeartbeats 2000000 in
theorem may_any (s : Grain.Shf) (v0 v1 v2 v3 : Value) (p : Grain.Pt) (b : Bool) (w : World) (hb : b = Grain.may s p) :
    Calls Try.prog 18 #[.agg #[v0, v1, v2, v3, .int .i64 s.rf, .int .i64 s.ff, .int .i64 s.ft, .int .i64 s.cf, .int .i64 s.ct], .agg #[.int .i64 p.k, .int .i64 p.f, .int .i64 p.t]] w fun e w' => e = .returned (.bool b) ∧ Below w.heap.size w w' := by
  obtain ⟨se, ra, fi, co, rf, ff, ft, cf, ct⟩ := s
  obtain ⟨k, f, t⟩ := p
  have HB := hide hb
  clear hb
  obtain ⟨V, hV⟩ : ∃ V, V = (w.alloc (.cells #[v0, v1, v2, v3, .int .i64 rf, .int .i64 ff, .int .i64 ft, .int .i64 cf, .int .i64 ct] 27)).alloc (.cells #[.int .i64 k, .int .i64 f, .int .i64 t] 34) := ⟨_, rfl⟩
  have bel : Below w.heap.size w V := by rw [hV]; exact ((Below.refl _ _).alloc (Nat.le_refl _) _).alloc (by simp) _
  have S0 : V.heap[w.heap.size]? = some (.cells #[v0, v1, v2, v3, .int .i64 rf, .int .i64 ff, .int .i64 ft, .int .i64 cf, .int .i64 ct] 27 (0, 0)) := by
    rw [hV, Below.heap_alloc _ _ _ (by simp)]; exact heap_alloc_new w _
  have P0 : V.heap[w.heap.size + 1]? = some (.cells #[.int .i64 k, .int .i64 f, .int .i64 t] 34 (0, 0)) := by
    rw [hV]; have := heap_alloc_new (w.alloc (.cells #[v0, v1, v2, v3, .int .i64 rf, .int .i64 ff, .int .i64 ft, .int .i64 cf, .int .i64 ct] 27)) (.cells #[.int .i64 k, .int .i64 f, .int .i64 t] 34); rwa [World.size_alloc] at this
  have HV := hide hV
  clear hV
  by_cases hft : t ≤ f
  · have e : b = false := by rw [HB.out]; simp [Grain.may, hft]
    subst e
    clear HB
    go_enter Try.func18, Try.ntmps18
    go_wp2
    go_ret
    rw [← HV.out]
    exact ⟨rfl, bel⟩
  · have hlt : f < t := by omega
    clear hft
    by_cases k0 : k = 0
    · subst k0
      go_enter Try.func18, Try.ntmps18
      go_wp2
      all_goals
        go_ret
        refine ⟨ret_bool ?_, by rw [← HV.out]; exact bel⟩
        rw [HB.out]
        clear HB HV bel S0 P0
        rw [Bool.eq_iff_iff]
        simp [Grain.may]
        omega
    · by_cases k1 : k = 1
      · subst k1
        obtain ⟨b', hb'⟩ : ∃ b', b' = decide (f % 10 = 0 ∧ t % 10 = 0) := ⟨_, rfl⟩
        have HB' := hide hb'
        clear hb'
        go_enter Try.func18, Try.ntmps18
        go_wp2_with fail
        rw [← HV.out]
        refine (whole_any 1 f t 10 b' _ (.inl ⟨rfl, rfl⟩) HB'.out).mono ?_
        rintro e w1 ⟨rfl, hb1⟩
        have bel1 : Below w.heap.size w w1 := bel.trans (hb1.mono bel.size)
        obtain ⟨c0, c1, c2, c3, c4, c5, c6, c7, c8⟩ := nine9 (below_block hb1 S0)
        obtain ⟨d0, d1, d2⟩ := three3 (below_block hb1 P0)
        clear HV bel S0 P0 hb1
        go_wp2
        all_goals
          go_ret
          refine ⟨ret_bool ?_, bel1⟩
          have hb2 := HB'.out
          rw [HB.out]
          clear HB HB' bel1 c0 c1 c2 c3 c4 c5 c6 c7 c8 d0 d1 d2
          rw [Bool.eq_iff_iff]
          simp_all [Grain.may]
          try omega
      · by_cases k2 : k = 2
        · subst k2
          obtain ⟨b', hb'⟩ : ∃ b', b' = decide (f % 60 = 0 ∧ t % 60 = 0) := ⟨_, rfl⟩
          have HB' := hide hb'
          clear hb'
          go_enter Try.func18, Try.ntmps18
          go_wp2_with fail
          rw [← HV.out]
          refine (whole_any 2 f t 60 b' _ (.inr ⟨rfl, rfl⟩) HB'.out).mono ?_
          rintro e w1 ⟨rfl, hb1⟩
          have bel1 : Below w.heap.size w w1 := bel.trans (hb1.mono bel.size)
          obtain ⟨c0, c1, c2, c3, c4, c5, c6, c7, c8⟩ := nine9 (below_block hb1 S0)
          obtain ⟨d0, d1, d2⟩ := three3 (below_block hb1 P0)
          clear HV bel S0 P0 hb1
          go_wp2
          all_goals
            go_ret
            refine ⟨ret_bool ?_, bel1⟩
            have hb2 := HB'.out
            rw [HB.out]
            clear HB HB' bel1 c0 c1 c2 c3 c4 c5 c6 c7 c8 d0 d1 d2
            rw [Bool.eq_iff_iff]
            simp_all [Grain.may]
            try omega
        · have e : b = false := by rw [HB.out]; simp [Grain.may, k0, k1, k2]
          subst e
          have e0 : (k == 0) = false := by simpa using k0
          have e1 : (k == 1) = false := by simpa using k1
          have e2 : (k == 2) = false := by simpa using k2
          clear HB k0 k1 k2
          go_enter Try.func18, Try.ntmps18
          go_wp2
          go_ret
          rw [← HV.out]
          exact ⟨rfl, bel⟩

end Go.Proofs.Ytfgablhgjbjbkaf
