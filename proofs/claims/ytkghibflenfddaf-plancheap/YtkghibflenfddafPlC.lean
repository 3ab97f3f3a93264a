/-
  The walk of plan's next.
-/
import Derived.Test.YtkghibflenfddafPlB
namespace Go.Proofs.Ytkghibflenfddaf
open Go.RowKit Go.GrainU

def pv (p : Grain.Pt) : Value := .agg #[.int .i64 p.k, .int .i64 p.f, .int .i64 p.t]

theorem three_thaw {w : World} {B : Nat} {x0 x1 x2 : Value} {t : TypeId} (h : w.heap[B]? = some (.cells #[x0, x1, x2] t (0, 0))) :
    w.frozen? ⟨B, 0, none⟩ = false ∧ w.frozen? ⟨B, 1, none⟩ = false ∧ w.frozen? ⟨B, 2, none⟩ = false := by
  simp [World.frozen?, h]

theorem below_set3 {w W : World} {A C : Nat} (bel : Below A w W) (hC : A ≤ C) (u0 u1 u2 : Value) : Below A w (((W.setCell ⟨C, 0, none⟩ u0).setCell ⟨C, 1, none⟩ u1).setCell ⟨C, 2, none⟩ u2) :=
  ((bel.setCell hC u0).setCell hC u1).setCell hC u2

set_option maxRecDepth 20000 in
set_option maxHeartbeats 4000000 in
theorem next_any (s : Grain.Shf) (v0 v1 v2 v3 : Value) (a t : Int) (p : Grain.Pt) (w : World) (ha : 0 ≤ a) (hat : a < t) (ht : t ≤ 1000000) (hp : p = Grain.nxt s a t) :
    Calls Try.prog 17 #[.agg #[v0, v1, v2, v3, .int .i64 s.rf, .int .i64 s.ff, .int .i64 s.ft, .int .i64 s.cf, .int .i64 s.ct], .int .i64 a, .int .i64 t] w fun e w' => e = .returned (.agg #[.int .i64 p.k, .int .i64 p.f, .int .i64 p.t]) ∧ Below w.heap.size w w' := by
  have HP := hide hp
  clear hp
  obtain ⟨X, hX⟩ : ∃ X, X = w.heap.size := ⟨_, rfl⟩
  obtain ⟨V, hV⟩ : ∃ V, V = (w.alloc (.cells #[v0, v1, v2, v3, .int .i64 s.rf, .int .i64 s.ff, .int .i64 s.ft, .int .i64 s.cf, .int .i64 s.ct] 27)).alloc (.cells #[.int .i64 0, .int .i64 0, .int .i64 0] 34) := ⟨_, rfl⟩
  have bel : Below X w V := by rw [hV, hX]; exact ((Below.refl _ _).alloc (Nat.le_refl _) _).alloc (by simp) _
  have S0 : V.heap[X]? = some (sbl v0 v1 v2 v3 s) := by rw [hV, hX, Below.heap_alloc _ _ _ (by simp)]; exact heap_alloc_new w _
  have Z0 : V.heap[X + 1]? = some (.cells #[.int .i64 0, .int .i64 0, .int .i64 0] 34 (0, 0)) := by
    rw [hV, hX]; have := heap_alloc_new (w.alloc (.cells #[v0, v1, v2, v3, .int .i64 s.rf, .int .i64 s.ff, .int .i64 s.ft, .int .i64 s.cf, .int .i64 s.ct] 27)) (.cells #[.int .i64 0, .int .i64 0, .int .i64 0] 34); rwa [World.size_alloc] at this
  have hXV : X ≤ V.heap.size := by rw [hX]; exact bel.size
  have HV := hide hV
  have HX := hide hX
  clear hV hX
  have hi0 : ∀ w, Sem.run Try.prog (Instr.index 85 (Value.agg #[.int .i64 2, .int .i64 1]) (.int .i64 0)) w = .ok (.int .i64 2) w := fun w => by
    simp [Instr.index, run_underlying Try.underlying85, asIntOf, go_sem]
  have hi1 : ∀ w, Sem.run Try.prog (Instr.index 85 (Value.agg #[.int .i64 2, .int .i64 1]) (.int .i64 1)) w = .ok (.int .i64 1) w := fun w => by
    simp [Instr.index, run_underlying Try.underlying85, asIntOf, go_sem]
  go_enter Try.func17, Try.ntmps17
  go_wp2
  rw [← HV.out, ← HX.out]
  go_loopw [11] (fun i wr => Below V.heap.size V wr ∧ (i = .int .i64 0 ∨ i = .int .i64 1 ∧ Hid (¬ (a + 60 ≤ t ∧ Grain.may s ⟨2, a, a + 60⟩ = true)) ∨ i = .int .i64 2 ∧ Hid (¬ (a + 60 ≤ t ∧ Grain.may s ⟨2, a, a + 60⟩ = true) ∧ ¬ (a + 10 ≤ t ∧ Grain.may s ⟨1, a, a + 10⟩ = true)))) (fun i _ => 2 - (intOf i).toNat)
  case atStart => exact ⟨Below.refl _ _, .inl rfl⟩
  case round =>
    obtain ⟨belr, hcase⟩ := hrel
    have S1 := below_block belr S0
    have Z1 := below_block belr Z0
    obtain ⟨x0, x1, x2, x3, x4, x5, x6, x7, x8⟩ := nine9 S1
    have Xl : X < wr.heap.size := lt_of_block S1
    have Xl1 : X + 1 < wr.heap.size := lt_of_block Z1
    rcases hcase with rfl | ⟨rfl, HA⟩ | ⟨rfl, HA⟩
    · obtain ⟨W, hW⟩ : ∃ W, W = wr.alloc (.cells #[.int .i64 2, .int .i64 a, .int .i64 (a + 60)] 34) := ⟨_, rfl⟩
      have hbW : Below wr.heap.size wr W := by rw [hW]; exact (Below.refl _ _).alloc (Nat.le_refl _) _
      have belW : Below V.heap.size V W := belr.trans (hbW.mono belr.size)
      have P0 : W.heap[wr.heap.size]? = some (.cells #[.int .i64 2, .int .i64 a, .int .i64 (a + 60)] 34 (0, 0)) := by rw [hW]; exact heap_alloc_new wr _
      have S2 := below_block hbW S1
      have Z2 := below_block hbW Z1
      have HW := hide hW
      clear hW
      by_cases hc : a + 60 ≤ t
      · obtain ⟨m, hm⟩ : ∃ m, m = Grain.may s ⟨2, a, a + 60⟩ := ⟨_, rfl⟩
        have HM := hide hm
        clear hm
        go_wp2_with fail
        refine (step_any _ _).mono ?_
        rintro e w1 ⟨rfl, rfl⟩
        simp only [stepOf]
        go_wp2_with fail
        rw [← HW.out]
        refine (may_any s v0 v1 v2 v3 ⟨2, a, a + 60⟩ m _ HM.out).mono ?_
        rintro e w1 ⟨rfl, hb1⟩
        have bel1 : Below V.heap.size V w1 := below_pl hb1 belW
        have P1 := below_block hb1 P0
        have Z3 := below_block hb1 Z2
        clear x0 x1 x2 x3 x4 x5 x6 x7 x8 hb1
        cases m
        · have HN : Hid (¬ (a + 60 ≤ t ∧ Grain.may s ⟨2, a, a + 60⟩ = true)) := by intro h; rw [← HM.out] at h; exact absurd h.2 (by decide)
          go_wp2
          go_roundw
          case rel => exact ⟨bel1, .inr (.inl ⟨rfl, HN⟩)⟩
          case measure => simp [intOf]
        · have e : p = ⟨2, a, a + 60⟩ := by
            rw [HP.out, Grain.nxt, if_pos ⟨hc, HM.out.symm⟩]
          subst e
          clear HP
          obtain ⟨y0, y1, y2⟩ := three3 P1
          obtain ⟨z0, z1, z2⟩ := three3 Z3
          obtain ⟨f0, f1, f2⟩ := three_thaw Z3
          go_wp2
          exact bodyPost_ret (v := .agg #[.int .i64 2, .int .i64 a, .int .i64 (a + 60)]) (by simp [results, Try.results17, go_sem, z0, z1, z2]) rfl ⟨rfl, by rw [← HX.out]; exact below_set3 (bel.trans (bel1.mono hXV)) (Nat.le_succ _) _ _ _⟩
      · have HN : Hid (¬ (a + 60 ≤ t ∧ Grain.may s ⟨2, a, a + 60⟩ = true)) := fun h => hc h.1
        obtain ⟨y0, y1, y2⟩ := three3 P0
        go_wp2_with fail
        refine (step_any _ _).mono ?_
        rintro e w1 ⟨rfl, rfl⟩
        simp only [stepOf]
        go_wp2_with fail
        rw [← HW.out]
        go_roundw
        case rel => exact ⟨belW, .inr (.inl ⟨rfl, HN⟩)⟩
        case measure => simp [intOf]
    · obtain ⟨W, hW⟩ : ∃ W, W = wr.alloc (.cells #[.int .i64 1, .int .i64 a, .int .i64 (a + 10)] 34) := ⟨_, rfl⟩
      have hbW : Below wr.heap.size wr W := by rw [hW]; exact (Below.refl _ _).alloc (Nat.le_refl _) _
      have belW : Below V.heap.size V W := belr.trans (hbW.mono belr.size)
      have P0 : W.heap[wr.heap.size]? = some (.cells #[.int .i64 1, .int .i64 a, .int .i64 (a + 10)] 34 (0, 0)) := by rw [hW]; exact heap_alloc_new wr _
      have S2 := below_block hbW S1
      have Z2 := below_block hbW Z1
      have HW := hide hW
      clear hW
      by_cases hc : a + 10 ≤ t
      · obtain ⟨m, hm⟩ : ∃ m, m = Grain.may s ⟨1, a, a + 10⟩ := ⟨_, rfl⟩
        have HM := hide hm
        clear hm
        go_wp2_with fail
        refine (step_any _ _).mono ?_
        rintro e w1 ⟨rfl, rfl⟩
        simp only [stepOf]
        go_wp2_with fail
        rw [← HW.out]
        refine (may_any s v0 v1 v2 v3 ⟨1, a, a + 10⟩ m _ HM.out).mono ?_
        rintro e w1 ⟨rfl, hb1⟩
        have bel1 : Below V.heap.size V w1 := below_pl hb1 belW
        have P1 := below_block hb1 P0
        have Z3 := below_block hb1 Z2
        clear x0 x1 x2 x3 x4 x5 x6 x7 x8 hb1
        cases m
        · have HN : Hid (¬ (a + 10 ≤ t ∧ Grain.may s ⟨1, a, a + 10⟩ = true)) := by intro h; rw [← HM.out] at h; exact absurd h.2 (by decide)
          go_wp2
          go_roundw
          case rel => exact ⟨bel1, .inr (.inr ⟨rfl, ⟨HA.out, HN.out⟩⟩)⟩
          case measure => simp [intOf]
        · have e : p = ⟨1, a, a + 10⟩ := by
            rw [HP.out, Grain.nxt, if_neg HA.out, if_pos ⟨hc, HM.out.symm⟩]
          subst e
          clear HP
          obtain ⟨y0, y1, y2⟩ := three3 P1
          obtain ⟨z0, z1, z2⟩ := three3 Z3
          obtain ⟨f0, f1, f2⟩ := three_thaw Z3
          go_wp2
          exact bodyPost_ret (v := .agg #[.int .i64 1, .int .i64 a, .int .i64 (a + 10)]) (by simp [results, Try.results17, go_sem, z0, z1, z2]) rfl ⟨rfl, by rw [← HX.out]; exact below_set3 (bel.trans (bel1.mono hXV)) (Nat.le_succ _) _ _ _⟩
      · have HN : Hid (¬ (a + 10 ≤ t ∧ Grain.may s ⟨1, a, a + 10⟩ = true)) := fun h => hc h.1
        obtain ⟨y0, y1, y2⟩ := three3 P0
        go_wp2_with fail
        refine (step_any _ _).mono ?_
        rintro e w1 ⟨rfl, rfl⟩
        simp only [stepOf]
        go_wp2_with fail
        rw [← HW.out]
        go_roundw
        case rel => exact ⟨belW, .inr (.inr ⟨rfl, ⟨HA.out, HN.out⟩⟩)⟩
        case measure => simp [intOf]
    · obtain ⟨z0, z1, z2⟩ := three3 Z1
      obtain ⟨f0, f1, f2⟩ := three_thaw Z1
      by_cases hf : s.ft ≤ a
      · have e : p = ⟨0, a, t⟩ := by rw [HP.out, Grain.nxt, if_neg HA.out.1, if_neg HA.out.2, if_pos hf]
        subst e
        clear HP
        go_wp2
        exact bodyPost_ret (v := .agg #[.int .i64 0, .int .i64 a, .int .i64 t]) (by simp [results, Try.results17, go_sem, z0, z1, z2]) rfl ⟨rfl, by rw [← HX.out]; exact below_set3 (bel.trans (belr.mono hXV)) (Nat.le_succ _) _ _ _⟩
      · by_cases hm : a - a % 10 + 10 < t
        · have e : p = ⟨0, a, a - a % 10 + 10⟩ := by rw [HP.out, Grain.nxt, if_neg HA.out.1, if_neg HA.out.2, if_neg hf, show min t (a - a % 10 + 10) = a - a % 10 + 10 by omega]
          subst e
          clear HP
          go_wp2
          exact bodyPost_ret (v := .agg #[.int .i64 0, .int .i64 a, .int .i64 (a - a % 10 + 10)]) (by simp [results, Try.results17, go_sem, z0, z1, z2]) rfl ⟨rfl, by rw [← HX.out]; exact below_set3 (bel.trans (belr.mono hXV)) (Nat.le_succ _) _ _ _⟩
        · have e : p = ⟨0, a, t⟩ := by rw [HP.out, Grain.nxt, if_neg HA.out.1, if_neg HA.out.2, if_neg hf, show min t (a - a % 10 + 10) = t by omega]
          subst e
          clear HP
          go_wp2
          exact bodyPost_ret (v := .agg #[.int .i64 0, .int .i64 a, .int .i64 t]) (by simp [results, Try.results17, go_sem, z0, z1, z2]) rfl ⟨rfl, by rw [← HX.out]; exact below_set3 (bel.trans (belr.mono hXV)) (Nat.le_succ _) _ _ _⟩

end Go.Proofs.Ytkghibflenfddaf
