import Derived.Test.YtoldmigappbjcaaGreatDoorL17
import Derived.Test.YtoldmigappbjcaaGreatDoorL20
import Derived.Test.YtoldmigappbjcaaGreatDoorL25
import Derived.Test.YtoldmigappbjcaaGreatDoorL28
import Derived.Test.YtoldmigappbjcaaGreatDoorL39
namespace Go.Proofs.YtoldmigappbjcaaGreatDoor
open Go.RowKit Go.GrainU
theorem three_thaw {w : World} {B : Nat} {x0 x1 x2 : Value} {t : TypeId} (h : w.heap[B]? = some (.cells #[x0, x1, x2] t (0, 0))) :
  w.frozen? ⟨B, 0, none⟩ = false ∧ w.frozen? ⟨B, 1, none⟩ = false ∧ w.frozen? ⟨B, 2, none⟩ = false := by
 simp [World.frozen?, h]
theorem below_set3 {w W : World} {A C : Nat} (bel : Below A w W) (hC : A ≤ C) (u0 u1 u2 : Value) : Below A w (((W.setCell ⟨C, 0, none⟩ u0).setCell ⟨C, 1, none⟩ u1).setCell ⟨C, 2, none⟩ u2) :=
 ((bel.setCell hC u0).setCell hC u1).setCell hC u2
set_option maxRecDepth 20000 in
set_option maxHeartbeats 4000000 in
theorem buckets2_any (s : Grain.Shf) (v0 v1 v2 v3 : Value) (a t : Int) (p : Grain.Pt) (w : World) (ha : 0 ≤ a) (hat : a ≤ 1000000) (h0 : 0 ≤ t) (ht : t ≤ 1000000) (hc0 : 0 ≤ s.cf) (hc1 : s.cf ≤ 1000000) (hc2 : 0 ≤ s.ct) (hc3 : s.ct ≤ 1000000) (hp : p = Grain.bks 2 s.cf s.ct 60 a t) :
  Calls Tryz.prog 210 #[.agg #[v0, v1, v2, v3, .int .i64 s.rf, .int .i64 s.ff, .int .i64 s.ft, .int .i64 s.cf, .int .i64 s.ct], .int .i64 2, .int .i64 a, .int .i64 t] w fun e w' => e = .returned (.agg #[.int .i64 p.k, .int .i64 p.f, .int .i64 p.t]) ∧ Below w.heap.size w w' := by
 have HP := hide hp
 clear hp
 obtain ⟨X, hX⟩ : ∃ X, X = w.heap.size := ⟨_, rfl⟩
 obtain ⟨V, hV⟩ : ∃ V, V = (w.alloc (.cells #[v0, v1, v2, v3, .int .i64 s.rf, .int .i64 s.ff, .int .i64 s.ft, .int .i64 s.cf, .int .i64 s.ct] 59)).alloc (.cells #[.int .i64 0, .int .i64 0, .int .i64 0] 235) := ⟨_, rfl⟩
 have bel : Below w.heap.size w V := by rw [hV]; exact ((Below.refl _ _).alloc (Nat.le_refl _) _).alloc (by simp) _
 have S0 : V.heap[X]? = some (sbl v0 v1 v2 v3 s) := by rw [hV, hX, Below.heap_alloc _ _ _ (by simp)]; exact heap_alloc_new w _
 have Z0 : V.heap[X + 1]? = some (.cells #[.int .i64 0, .int .i64 0, .int .i64 0] 235 (0, 0)) := by
  rw [hV, hX]; have := heap_alloc_new (w.alloc (.cells #[v0, v1, v2, v3, .int .i64 s.rf, .int .i64 s.ff, .int .i64 s.ft, .int .i64 s.cf, .int .i64 s.ct] 59)) (.cells #[.int .i64 0, .int .i64 0, .int .i64 0] 235); rwa [World.size_alloc] at this
 have HV := hide hV
 have HX := hide hX
 obtain ⟨x0, x1, x2, x3, x4, x5, x6, x7, x8⟩ := nine9 S0
 obtain ⟨z0, z1, z2⟩ := three3 Z0
 obtain ⟨f0, f1, f2⟩ := three_thaw Z0
 clear hV hX
 go_enter Tryz.func210, Tryz.ntmps210
 go_wp2_with fail
 rw [← HV.out, ← HX.out]
 go_quiet (fail)
 go_wp2_with fail
 go_quiet (fail)
 go_wp2_with fail
 refine (step_any _ _).mono ?_
 rintro e w1 ⟨rfl, rfl⟩
 simp only [stepOf]
 go_wp2_with fail
 go_region
 all_goals go_wp2_with fail
 all_goals
  first
   | (have e1 : max a s.cf = a := (by omega); have e2 : min t s.ct = t := (by omega); have e : p = ⟨2, (a + 60 - 1) / 60 * 60, t / 60 * 60⟩ := (by rw [HP.out]; unfold Grain.bks; rw [e1, e2]); subst e; exact bodyPost_ret (v := .agg #[.int .i64 2, .int .i64 ((a + 60 - 1) / 60 * 60), .int .i64 (t / 60 * 60)]) (by simp [results, Tryz.results210, go_sem, z0, z1, z2]) rfl ⟨rfl, below_set3 (below_drewN bel _) (by have := HX.out; omega) _ _ _⟩)
   | (have e1 : max a s.cf = a := (by omega); have e2 : min t s.ct = s.ct := (by omega); have e : p = ⟨2, (a + 60 - 1) / 60 * 60, s.ct / 60 * 60⟩ := (by rw [HP.out]; unfold Grain.bks; rw [e1, e2]); subst e; exact bodyPost_ret (v := .agg #[.int .i64 2, .int .i64 ((a + 60 - 1) / 60 * 60), .int .i64 (s.ct / 60 * 60)]) (by simp [results, Tryz.results210, go_sem, z0, z1, z2]) rfl ⟨rfl, below_set3 (below_drewN bel _) (by have := HX.out; omega) _ _ _⟩)
   | (have e1 : max a s.cf = s.cf := (by omega); have e2 : min t s.ct = t := (by omega); have e : p = ⟨2, (s.cf + 60 - 1) / 60 * 60, t / 60 * 60⟩ := (by rw [HP.out]; unfold Grain.bks; rw [e1, e2]); subst e; exact bodyPost_ret (v := .agg #[.int .i64 2, .int .i64 ((s.cf + 60 - 1) / 60 * 60), .int .i64 (t / 60 * 60)]) (by simp [results, Tryz.results210, go_sem, z0, z1, z2]) rfl ⟨rfl, below_set3 (below_drewN bel _) (by have := HX.out; omega) _ _ _⟩)
   | (have e1 : max a s.cf = s.cf := (by omega); have e2 : min t s.ct = s.ct := (by omega); have e : p = ⟨2, (s.cf + 60 - 1) / 60 * 60, s.ct / 60 * 60⟩ := (by rw [HP.out]; unfold Grain.bks; rw [e1, e2]); subst e; exact bodyPost_ret (v := .agg #[.int .i64 2, .int .i64 ((s.cf + 60 - 1) / 60 * 60), .int .i64 (s.ct / 60 * 60)]) (by simp [results, Tryz.results210, go_sem, z0, z1, z2]) rfl ⟨rfl, below_set3 (below_drewN bel _) (by have := HX.out; omega) _ _ _⟩)
set_option maxRecDepth 20000 in
set_option maxHeartbeats 4000000 in
theorem buckets1_any (s : Grain.Shf) (v0 v1 v2 v3 : Value) (a t : Int) (p : Grain.Pt) (w : World) (ha : 0 ≤ a) (hat : a ≤ 1000000) (h0 : 0 ≤ t) (ht : t ≤ 1000000) (hc0 : 0 ≤ s.ff) (hc1 : s.ff ≤ 1000000) (hc2 : 0 ≤ s.ft) (hc3 : s.ft ≤ 1000000) (hp : p = Grain.bks 1 s.ff s.ft 10 a t) :
  Calls Tryz.prog 210 #[.agg #[v0, v1, v2, v3, .int .i64 s.rf, .int .i64 s.ff, .int .i64 s.ft, .int .i64 s.cf, .int .i64 s.ct], .int .i64 1, .int .i64 a, .int .i64 t] w fun e w' => e = .returned (.agg #[.int .i64 p.k, .int .i64 p.f, .int .i64 p.t]) ∧ Below w.heap.size w w' := by
 have HP := hide hp
 clear hp
 obtain ⟨X, hX⟩ : ∃ X, X = w.heap.size := ⟨_, rfl⟩
 obtain ⟨V, hV⟩ : ∃ V, V = (w.alloc (.cells #[v0, v1, v2, v3, .int .i64 s.rf, .int .i64 s.ff, .int .i64 s.ft, .int .i64 s.cf, .int .i64 s.ct] 59)).alloc (.cells #[.int .i64 0, .int .i64 0, .int .i64 0] 235) := ⟨_, rfl⟩
 have bel : Below w.heap.size w V := by rw [hV]; exact ((Below.refl _ _).alloc (Nat.le_refl _) _).alloc (by simp) _
 have S0 : V.heap[X]? = some (sbl v0 v1 v2 v3 s) := by rw [hV, hX, Below.heap_alloc _ _ _ (by simp)]; exact heap_alloc_new w _
 have Z0 : V.heap[X + 1]? = some (.cells #[.int .i64 0, .int .i64 0, .int .i64 0] 235 (0, 0)) := by
  rw [hV, hX]; have := heap_alloc_new (w.alloc (.cells #[v0, v1, v2, v3, .int .i64 s.rf, .int .i64 s.ff, .int .i64 s.ft, .int .i64 s.cf, .int .i64 s.ct] 59)) (.cells #[.int .i64 0, .int .i64 0, .int .i64 0] 235); rwa [World.size_alloc] at this
 have HV := hide hV
 have HX := hide hX
 obtain ⟨x0, x1, x2, x3, x4, x5, x6, x7, x8⟩ := nine9 S0
 obtain ⟨z0, z1, z2⟩ := three3 Z0
 obtain ⟨f0, f1, f2⟩ := three_thaw Z0
 clear hV hX
 go_enter Tryz.func210, Tryz.ntmps210
 go_wp2_with fail
 rw [← HV.out, ← HX.out]
 go_quiet (fail)
 go_wp2_with fail
 refine (step_any _ _).mono ?_
 rintro e w1 ⟨rfl, rfl⟩
 simp only [stepOf]
 go_wp2_with fail
 go_region
 all_goals go_wp2_with fail
 all_goals
  first
   | (have e1 : max a s.ff = a := (by omega); have e2 : min t s.ft = t := (by omega); have e : p = ⟨1, (a + 10 - 1) / 10 * 10, t / 10 * 10⟩ := (by rw [HP.out]; unfold Grain.bks; rw [e1, e2]); subst e; exact bodyPost_ret (v := .agg #[.int .i64 1, .int .i64 ((a + 10 - 1) / 10 * 10), .int .i64 (t / 10 * 10)]) (by simp [results, Tryz.results210, go_sem, z0, z1, z2]) rfl ⟨rfl, below_set3 (below_drewN bel _) (by have := HX.out; omega) _ _ _⟩)
   | (have e1 : max a s.ff = a := (by omega); have e2 : min t s.ft = s.ft := (by omega); have e : p = ⟨1, (a + 10 - 1) / 10 * 10, s.ft / 10 * 10⟩ := (by rw [HP.out]; unfold Grain.bks; rw [e1, e2]); subst e; exact bodyPost_ret (v := .agg #[.int .i64 1, .int .i64 ((a + 10 - 1) / 10 * 10), .int .i64 (s.ft / 10 * 10)]) (by simp [results, Tryz.results210, go_sem, z0, z1, z2]) rfl ⟨rfl, below_set3 (below_drewN bel _) (by have := HX.out; omega) _ _ _⟩)
   | (have e1 : max a s.ff = s.ff := (by omega); have e2 : min t s.ft = t := (by omega); have e : p = ⟨1, (s.ff + 10 - 1) / 10 * 10, t / 10 * 10⟩ := (by rw [HP.out]; unfold Grain.bks; rw [e1, e2]); subst e; exact bodyPost_ret (v := .agg #[.int .i64 1, .int .i64 ((s.ff + 10 - 1) / 10 * 10), .int .i64 (t / 10 * 10)]) (by simp [results, Tryz.results210, go_sem, z0, z1, z2]) rfl ⟨rfl, below_set3 (below_drewN bel _) (by have := HX.out; omega) _ _ _⟩)
   | (have e1 : max a s.ff = s.ff := (by omega); have e2 : min t s.ft = s.ft := (by omega); have e : p = ⟨1, (s.ff + 10 - 1) / 10 * 10, s.ft / 10 * 10⟩ := (by rw [HP.out]; unfold Grain.bks; rw [e1, e2]); subst e; exact bodyPost_ret (v := .agg #[.int .i64 1, .int .i64 ((s.ff + 10 - 1) / 10 * 10), .int .i64 (s.ft / 10 * 10)]) (by simp [results, Tryz.results210, go_sem, z0, z1, z2]) rfl ⟨rfl, below_set3 (below_drewN bel _) (by have := HX.out; omega) _ _ _⟩)
set_option maxRecDepth 20000 in
set_option maxHeartbeats 4000000 in
theorem next_any (s : Grain.Shf) (v0 v1 v2 v3 : Value) (a t : Int) (p : Grain.Pt) (w : World) (sr : Grain.SR s) (ha : 0 ≤ a) (hat : a < t) (ht : t ≤ 1000000) (hp : p = Grain.nxr s a t) :
  Calls Tryz.prog 180 #[.agg #[v0, v1, v2, v3, .int .i64 s.rf, .int .i64 s.ff, .int .i64 s.ft, .int .i64 s.cf, .int .i64 s.ct], .int .i64 a, .int .i64 t] w fun e w' => e = .returned (.agg #[.int .i64 p.k, .int .i64 p.f, .int .i64 p.t]) ∧ Below w.heap.size w w' := by
 have HP := hide hp
 obtain ⟨sf1, sf2, sf3, sf4, sf5⟩ := sr.fsp
 obtain ⟨sc1, sc2, sc3, sc4, sc5⟩ := sr.csp
 clear hp sr
 obtain ⟨X, hX⟩ : ∃ X, X = w.heap.size := ⟨_, rfl⟩
 obtain ⟨V, hV⟩ : ∃ V, V = (w.alloc (.cells #[v0, v1, v2, v3, .int .i64 s.rf, .int .i64 s.ff, .int .i64 s.ft, .int .i64 s.cf, .int .i64 s.ct] 59)).alloc (.cells #[.int .i64 0, .int .i64 0, .int .i64 0] 235) := ⟨_, rfl⟩
 have bel : Below X w V := by rw [hV, hX]; exact ((Below.refl _ _).alloc (Nat.le_refl _) _).alloc (by simp) _
 have S0 : V.heap[X]? = some (sbl v0 v1 v2 v3 s) := by rw [hV, hX, Below.heap_alloc _ _ _ (by simp)]; exact heap_alloc_new w _
 have Z0 : V.heap[X + 1]? = some (.cells #[.int .i64 0, .int .i64 0, .int .i64 0] 235 (0, 0)) := by
  rw [hV, hX]; have := heap_alloc_new (w.alloc (.cells #[v0, v1, v2, v3, .int .i64 s.rf, .int .i64 s.ff, .int .i64 s.ft, .int .i64 s.cf, .int .i64 s.ct] 59)) (.cells #[.int .i64 0, .int .i64 0, .int .i64 0] 235); rwa [World.size_alloc] at this
 have hXV : X ≤ V.heap.size := by rw [hX]; exact bel.size
 have HV := hide hV
 have HX := hide hX
 clear hV hX
 have hi0 : ∀ w, Sem.run Tryz.prog (Instr.index 262 (Value.agg #[.int .i64 2, .int .i64 1]) (.int .i64 0)) w = .ok (.int .i64 2) w := fun w => by
  simp [Instr.index, run_underlying Tryz.underlying262, asIntOf, go_sem]
 have hi1 : ∀ w, Sem.run Tryz.prog (Instr.index 262 (Value.agg #[.int .i64 2, .int .i64 1]) (.int .i64 1)) w = .ok (.int .i64 1) w := fun w => by
  simp [Instr.index, run_underlying Tryz.underlying262, asIntOf, go_sem]
 go_enter Tryz.func180, Tryz.ntmps180
 go_wp2
 rw [← HV.out, ← HX.out]
 go_loopw [2, 11] (fun b i wr => Below V.heap.size V wr ∧ (i = .int .i64 0 ∧ b = .int .i64 t ∨ i = .int .i64 1 ∧ (∃ e : Int, b = .int .i64 e ∧ a < e ∧ e ≤ 1000000 ∧ Hid (p = Grain.nx2 s a e)) ∨ i = .int .i64 2 ∧ ∃ e : Int, b = .int .i64 e ∧ Hid (p = ⟨0, a, e⟩))) (fun _ i _ => 2 - (intOf i).toNat)
 case atStart => exact ⟨Below.refl _ _, .inl ⟨rfl, rfl⟩⟩
 case round =>
  obtain ⟨belr, hcase⟩ := hrel
  have S1 := below_block belr S0
  have Z1 := below_block belr Z0
  obtain ⟨x0, x1, x2, x3, x4, x5, x6, x7, x8⟩ := nine9 S1
  have Xl : X < wr.heap.size := lt_of_block S1
  have Xl1 : X + 1 < wr.heap.size := lt_of_block Z1
  rcases hcase with ⟨rfl, rfl⟩ | ⟨rfl, e, rfl, he1, he2, HE⟩ | ⟨rfl, e, rfl, HE⟩
  ·obtain ⟨c, hc⟩ : ∃ c, c = Grain.bks 2 s.cf s.ct 60 a t := ⟨_, rfl⟩
   have hcb : a ≤ c.f ∧ (c.f < c.t → c.t ≤ t) := by rw [hc]; unfold Grain.bks; simp only; omega
   have HCALL := hide (buckets2_any s v0 v1 v2 v3 a t c wr ha (by omega) (by omega) ht (by omega) (by omega) (by omega) (by omega) hc)
   have HCC := hide hc
   clear hc
   go_wp2_with fail
   refine HCALL.out.mono ?_
   rintro q w1 ⟨rfl, hb1⟩
   obtain ⟨W, hW⟩ : ∃ W, W = w1.alloc (.cells #[.int .i64 c.k, .int .i64 c.f, .int .i64 c.t] 235) := ⟨_, rfl⟩
   have hbW : Below w1.heap.size w1 W := by rw [hW]; exact (Below.refl _ _).alloc (Nat.le_refl _) _
   have belW : Below V.heap.size V W := below_pl hbW (below_pl hb1 belr)
   have P0 : W.heap[w1.heap.size]? = some (.cells #[.int .i64 c.k, .int .i64 c.f, .int .i64 c.t] 235 (0, 0)) := by rw [hW]; exact heap_alloc_new w1 _
   have Z2 := below_block belW Z0
   have P0' := P0
   rw [hW] at P0'
   have Z2' := Z2
   rw [hW] at Z2'
   obtain ⟨y0, y1, y2⟩ := three3 P0'
   obtain ⟨z0, z1, z2⟩ := three3 Z2'
   obtain ⟨f0, f1, f2⟩ := three_thaw Z2'
   have HW := hide hW
   clear hW x0 x1 x2 x3 x4 x5 x6 x7 x8 hb1 hbW P0' Z2' HCALL
   by_cases h1 : c.t ≤ c.f
   ·have HN : Hid (p = Grain.nx2 s a t) := by show _ = _; rw [HP.out]; unfold Grain.nxr; rw [← HCC.out, if_pos h1]
    go_wp2_with fail
    go_roundw
    case rel => rw [← HW.out]; exact ⟨belW, .inr (.inl ⟨rfl, t, rfl, hat, ht, HN⟩)⟩
    case measure => simp [intOf]
   ·by_cases h2 : c.f = a
    ·have hpe : p = c := by rw [HP.out]; unfold Grain.nxr; rw [← HCC.out, if_neg h1, if_pos h2]
     have e2 : (c.f == a) = true := by rw [h2]; simp
     have HPC := hide hpe
     have HA := hide h2
     have HFIN : Hid (Below w.heap.size w (((W.setCell ⟨X + 1, 0, none⟩ (.int .i64 c.k)).setCell ⟨X + 1, 1, none⟩ (.int .i64 c.f)).setCell ⟨X + 1, 2, none⟩ (.int .i64 c.t))) := by rw [← HX.out]; exact below_set3 (bel.trans (belW.mono hXV)) (Nat.le_succ _) _ _ _
     rw [HW.out] at HFIN
     clear h2 hpe
     go_wp2
     exact bodyPost_ret (v := .agg #[.int .i64 c.k, .int .i64 c.f, .int .i64 c.t]) (by simp [results, Tryz.results180, go_sem, z0, z1, z2]) rfl ⟨by rw [HPC.out], HFIN.out⟩
    ·have e2 : (c.f == a) = false := by simpa using h2
     have HN : Hid (p = Grain.nx2 s a c.f) := by show _ = _; rw [HP.out]; unfold Grain.nxr; rw [← HCC.out, if_neg h1, if_neg h2]
     have hlt : a < c.f := by omega
     have hle : c.f ≤ 1000000 := by have := hcb.2 (by omega); omega
     clear h2
     go_wp2_with fail
     go_roundw
     case rel => rw [← HW.out]; exact ⟨belW, .inr (.inl ⟨rfl, c.f, rfl, hlt, hle, HN⟩)⟩
     case measure => simp [intOf]
  ·obtain ⟨c, hc⟩ : ∃ c, c = Grain.bks 1 s.ff s.ft 10 a e := ⟨_, rfl⟩
   have hcb : a ≤ c.f ∧ (c.f < c.t → c.t ≤ e) := by rw [hc]; unfold Grain.bks; simp only; omega
   have HCALL := hide (buckets1_any s v0 v1 v2 v3 a e c wr ha (by omega) (by omega) he2 (by omega) (by omega) (by omega) (by omega) hc)
   have HCC := hide hc
   clear hc
   go_wp2_with fail
   refine HCALL.out.mono ?_
   rintro q w1 ⟨rfl, hb1⟩
   obtain ⟨W, hW⟩ : ∃ W, W = w1.alloc (.cells #[.int .i64 c.k, .int .i64 c.f, .int .i64 c.t] 235) := ⟨_, rfl⟩
   have hbW : Below w1.heap.size w1 W := by rw [hW]; exact (Below.refl _ _).alloc (Nat.le_refl _) _
   have belW : Below V.heap.size V W := below_pl hbW (below_pl hb1 belr)
   have P0 : W.heap[w1.heap.size]? = some (.cells #[.int .i64 c.k, .int .i64 c.f, .int .i64 c.t] 235 (0, 0)) := by rw [hW]; exact heap_alloc_new w1 _
   have Z2 := below_block belW Z0
   have P0' := P0
   rw [hW] at P0'
   have Z2' := Z2
   rw [hW] at Z2'
   obtain ⟨y0, y1, y2⟩ := three3 P0'
   obtain ⟨z0, z1, z2⟩ := three3 Z2'
   obtain ⟨f0, f1, f2⟩ := three_thaw Z2'
   have HW := hide hW
   clear hW x0 x1 x2 x3 x4 x5 x6 x7 x8 hb1 hbW P0' Z2' HCALL
   by_cases h1 : c.t ≤ c.f
   ·have HN : Hid (p = ⟨0, a, e⟩) := by show _ = _; rw [HE.out]; unfold Grain.nx2; rw [← HCC.out, if_pos h1]
    go_wp2_with fail
    go_roundw
    case rel => rw [← HW.out]; exact ⟨belW, .inr (.inr ⟨rfl, e, rfl, HN⟩)⟩
    case measure => simp [intOf]
   ·by_cases h2 : c.f = a
    ·have hpe : p = c := by rw [HE.out]; unfold Grain.nx2; rw [← HCC.out, if_neg h1, if_pos h2]
     have e2 : (c.f == a) = true := by rw [h2]; simp
     have HPC := hide hpe
     have HA := hide h2
     have HFIN : Hid (Below w.heap.size w (((W.setCell ⟨X + 1, 0, none⟩ (.int .i64 c.k)).setCell ⟨X + 1, 1, none⟩ (.int .i64 c.f)).setCell ⟨X + 1, 2, none⟩ (.int .i64 c.t))) := by rw [← HX.out]; exact below_set3 (bel.trans (belW.mono hXV)) (Nat.le_succ _) _ _ _
     rw [HW.out] at HFIN
     clear h2 hpe
     go_wp2
     exact bodyPost_ret (v := .agg #[.int .i64 c.k, .int .i64 c.f, .int .i64 c.t]) (by simp [results, Tryz.results180, go_sem, z0, z1, z2]) rfl ⟨by rw [HPC.out], HFIN.out⟩
    ·have e2 : (c.f == a) = false := by simpa using h2
     have HN : Hid (p = ⟨0, a, c.f⟩) := by show _ = _; rw [HE.out]; unfold Grain.nx2; rw [← HCC.out, if_neg h1, if_neg h2]
     clear h2
     go_wp2_with fail
     go_roundw
     case rel => rw [← HW.out]; exact ⟨belW, .inr (.inr ⟨rfl, c.f, rfl, HN⟩)⟩
     case measure => simp [intOf]
  ·have hpe := HE.out
   subst hpe
   obtain ⟨z0, z1, z2⟩ := three3 Z1
   obtain ⟨f0, f1, f2⟩ := three_thaw Z1
   clear HE HP
   go_wp2
   exact bodyPost_ret (v := .agg #[.int .i64 0, .int .i64 a, .int .i64 e]) (by simp [results, Tryz.results180, go_sem, z0, z1, z2]) rfl ⟨rfl, by rw [← HX.out]; exact below_set3 (bel.trans (belr.mono hXV)) (Nat.le_succ _) _ _ _⟩
open Go.RowKit Go.GrainU
set_option maxRecDepth 20000 in
set_option maxHeartbeats 4000000 in
theorem choose_any (x : ShT) (f t : Int) (r : List Grain.Pt × Int) (w : World) (hx : ShIn w x) (hr : r = Grain.choose x.s f t) :
  Calls Tryz.prog 142 #[x.v, .int .i64 f, .int .i64 t] w fun e w' => ∃ (co : Option Addr) (m d : Nat), e = .returned (.tuple #[.slice co m d, .int .i64 r.2]) ∧ w'.ownsRow w.heap.size 235 3 (.slice co m d) m (pcells r.1) ∧ m ≤ 1000000 ∧ Below w.heap.size w w' := by
 have HR := hide hr
 clear hr
 obtain ⟨X, hX⟩ : ∃ X, X = w.heap.size := ⟨_, rfl⟩
 obtain ⟨V, hV⟩ : ∃ V, V = w.alloc (so x) := ⟨_, rfl⟩
 have bel : Below w.heap.size w V := by rw [hV]; exact (Below.refl _ _).alloc (Nat.le_refl _) _
 have S0 : V.heap[X]? = some (so x) := by rw [hV, hX]; exact heap_alloc_new w _
 have hxV := hx.below bel
 have HV : Hid (V = w.alloc (.cells #[.slice x.a0 x.s.se.length x.c0, .slice x.a1 x.s.ra.length x.c1, .slice x.a2 x.s.fi.length x.c2, .slice x.a3 x.s.co.length x.c3, .int .i64 x.s.rf, .int .i64 x.s.ff, .int .i64 x.s.ft, .int .i64 x.s.cf, .int .i64 x.s.ct] 59)) := hV
 have HX := hide hX
 have Hv : Hid (x.v = .agg #[.slice x.a0 x.s.se.length x.c0, .slice x.a1 x.s.ra.length x.c1, .slice x.a2 x.s.fi.length x.c2, .slice x.a3 x.s.co.length x.c3, .int .i64 x.s.rf, .int .i64 x.s.ff, .int .i64 x.s.ft, .int .i64 x.s.cf, .int .i64 x.s.ct]) := rfl
 obtain ⟨E, hE⟩ : ∃ E, E = Grain.swrong x.s := ⟨_, rfl⟩
 have HE := hide hE
 have hXV : X < V.heap.size := lt_of_block S0
 clear hV hX hE hx
 rw [Hv.out]
 go_enter Tryz.func142, Tryz.ntmps142
 go_wp2_with fail
 rw [← HV.out, ← Hv.out]
 refine (swrong_any x V hxV).mono ?_
 rintro e w1 ⟨rfl, hb1⟩
 rw [← HE.out]
 have bel1 : Below w.heap.size w w1 := below_pl hb1 bel
 have S1 := below_block hb1 S0
 by_cases hw : E = 0
 ·subst hw
  by_cases h1 : f < 0
  ·have e : r = ([], 3) := by rw [HR.out, Grain.choose, if_neg (by simp [← HE.out]), if_pos (.inl h1)]
   subst e
   go_wp2
   exact bodyPost_ret (v := .tuple #[.slice none 0 0, .int .i64 3]) (by simp [results, Tryz.results142, go_sem]) rfl ⟨none, 0, 0, rfl, World.ownsRow_nil _ _ _ _, by omega, bel1⟩
  ·by_cases h2 : t < f
   ·have e : r = ([], 3) := by rw [HR.out, Grain.choose, if_neg (by simp [← HE.out]), if_pos (.inr (.inl h2))]
    subst e
    go_wp2
    exact bodyPost_ret (v := .tuple #[.slice none 0 0, .int .i64 3]) (by simp [results, Tryz.results142, go_sem]) rfl ⟨none, 0, 0, rfl, World.ownsRow_nil _ _ _ _, by omega, bel1⟩
   ·by_cases h3 : 1000000 < t
    ·have e : r = ([], 3) := by rw [HR.out, Grain.choose, if_neg (by simp [← HE.out]), if_pos (.inr (.inr h3))]
     subst e
     go_wp2
     exact bodyPost_ret (v := .tuple #[.slice none 0 0, .int .i64 3]) (by simp [results, Tryz.results142, go_sem]) rfl ⟨none, 0, 0, rfl, World.ownsRow_nil _ _ _ _, by omega, bel1⟩
    ·have HC : Hid (r = Grain.chr x.s t (t - f).toNat f []) := by
      show _ = _
      rw [HR.out, Grain.choose, if_neg (by simp [← HE.out]), if_neg (by omega), Grain.choose_runs HE.out.symm (by omega) (by omega) _ (Nat.le_refl _)]
     have HSR := hide ((Grain.sr_iff x.s).1 HE.out.symm)
     obtain ⟨i0, hi, hz0, hz1, hz2⟩ := info_parts Tryz.infoPart
     have f0 : 0 ≤ f := by omega
     have ft : f ≤ t := by omega
     have t1 : t ≤ 1000000 := by omega
     clear h1 h2 h3 HR
     go_wp2
     rw [← HX.out]
     go_loopw [9, 10] (fun s9 s10 wr => ∃ (co : Option Addr) (m d fuel : Nat) (a : Int) (out : List Grain.Pt), s9 = .slice co m d ∧ s10 = .int .i64 a ∧ wr.ownsRow w1.heap.size 235 3 (.slice co m d) m (pcells out) ∧ Below w1.heap.size w1 wr ∧ Hid (r = Grain.chr x.s t fuel a out) ∧ (t - a).toNat ≤ fuel ∧ 0 ≤ a ∧ a ≤ t ∧ m + fuel ≤ 1000000) (fun _ s10 _ => (t - intOf s10).toNat)
     case atStart => exact ⟨none, 0, 0, (t - f).toNat, f, [], rfl, rfl, World.ownsRow_nil _ _ _ _, Below.refl _ _, HC, Nat.le_refl _, f0, ft, by omega⟩
     case round =>
      obtain ⟨co, m, d, fuel, a, out, rfl, rfl, own, belr, HC2, hfu, ha0, hat, hmf⟩ := hrel
      have S2 := below_block belr S1
      have hsz := belr.size
      by_cases hlt : a < t
      ·obtain ⟨fu, rfl⟩ : ∃ k, fuel = k + 1 := ⟨fuel - 1, by omega⟩
       obtain ⟨p, hp⟩ : ∃ p, p = Grain.nxr x.s a t := ⟨_, rfl⟩
       have hpf : p.f = a := by rw [hp]; exact (Grain.nxr_ft HSR.out hlt).1
       have hpt : p.t ≤ t := by rw [hp]; exact (Grain.nxr_ft HSR.out hlt).2.1
       obtain ⟨b, hb⟩ : ∃ b, b = Grain.may x.s p := ⟨_, rfl⟩
       have HC3 : Hid (r = if b = true then Grain.chr x.s t fu p.t (out ++ [p]) else ([], 10)) := by
        show _ = _
        rw [HC2.out, Grain.chr, if_pos hlt, hb, hp]
       have HP := hide hp
       have HB := hide hb
       have HPF := hide hpf
       obtain ⟨x0, x1, x2, x3, x4, x5, x6, x7, x8⟩ := nine_cells S2
       have Xl : X < wr.heap.size := lt_of_block S2
       clear hp hb HC2 hpf
       go_wp2_with fail
       refine (next_any x.s _ _ _ _ a t p wr HSR.out ha0 hlt t1 HP.out).mono ?_
       rintro e w2 ⟨rfl, hb2⟩
       obtain ⟨W, hW⟩ : ∃ W, W = w2.alloc (.cells #[.int .i64 p.k, .int .i64 p.f, .int .i64 p.t] 235) := ⟨_, rfl⟩
       have hbW : Below w2.heap.size w2 W := by rw [hW]; exact (Below.refl _ _).alloc (Nat.le_refl _) _
       have P0 : W.heap[w2.heap.size]? = some (.cells #[.int .i64 p.k, .int .i64 p.f, .int .i64 p.t] 235 (0, 0)) := by rw [hW]; exact heap_alloc_new w2 _
       have S3 := below_block hb2 S2
       have S4 := below_block hbW S3
       have hlow : ∀ g, (Value.slice co m d).ownBlock = some g → g < w2.heap.size := fun g hg => Nat.lt_of_lt_of_le (own.lt g hg).2 hb2.size
       have HLow := hide hlow
       have own4 := own_below (own_below own hb2) hbW
       have bel4 : Below w1.heap.size w1 W := below_pl hbW (below_pl hb2 belr)
       have HW := hide hW
       clear hW x0 x1 x2 x3 x4 x5 x6 x7 x8 own belr
       obtain ⟨x0, x1, x2, x3, x4, x5, x6, x7, x8⟩ := nine_cells S3
       have Xl2 : X < w2.heap.size := lt_of_block S3
       clear hb2 hbW
       go_wp2_with fail
       rw [← HW.out]
       refine (may_any x.s _ _ _ _ p b W HB.out).mono ?_
       rintro e w3 ⟨rfl, hb3⟩
       have own5 := own_below own4 hb3
       have bel5 : Below w1.heap.size w1 w3 := below_pl hb3 bel4
       have P1 := below_block hb3 P0
       obtain ⟨y0, y1, y2⟩ := three3 P1
       clear x0 x1 x2 x3 x4 x5 x6 x7 x8 hb3 own4 bel4 HW
       cases b
       ·have e : r = ([], 10) := by rw [HC3.out]; rfl
        subst e
        clear HC3
        go_wp2
        exact bodyPost_ret (v := .tuple #[.slice none 0 0, .int .i64 10]) (by simp [results, Tryz.results142, go_sem]) rfl ⟨none, 0, 0, rfl, World.ownsRow_nil _ _ _ _, by omega, below_pl bel5 bel1⟩
       ·have hlt2 : a < p.t := by have := Grain.may_lt HB.out.symm; rw [HPF.out] at this; exact this
        have HC4 : Hid (r = Grain.chr x.s t fu p.t (out ++ [p])) := by show _ = _; rw [HC3.out]; rfl
        have hsz5 := bel5.size
        have hown := own5.lt
        clear HC3
        have own5a := own5.alloc (.cells #[.int .i64 p.k, .int .i64 p.f, .int .i64 p.t] 235)
        go_wp2_with (at_builtin; refine wpList_append_lies _ rfl _ _ 197 rfl w1.heap.size 235 i0 (.agg #[.int .i64 0, .int .i64 0, .int .i64 0]) 3 24 Tryz.underlying197 hi hz0 hz1 hz2 rfl (by decide) _ _ _ rfl own5a ⟨w3.heap.size, 0, none⟩ 1 1 (ptc p) rfl rfl (World.news_of_block (cs := #[.int .i64 p.k, .int .i64 p.f, .int .i64 p.t]) (t := 235) (fr := (0, 0)) (heap_alloc_new w3 _)) (by simp [ptc, Value.oneCell']) (by decide) (by unfold maxLen; omega) (by omega) (by simp; omega) (w3.heap.size + 1) (by simp) ?_)
        intro g d' w4 own6' gr6 hat6 hlt6
        have own6 : w4.ownsRow w1.heap.size 235 3 (.slice (some ⟨g, 0, none⟩) (m + 1) d') (m + 1) (pcells (out ++ [p])) := by rw [pcells_snoc]; exact own6'
        have bel6 : Below w1.heap.size w1 w4 := (bel5.alloc hsz5 _).grown gr6 (by simp; omega) (fun j hj => (hown j hj).1)
        have P2 : w4.heap[w2.heap.size]? = some (.cells #[.int .i64 p.k, .int .i64 p.f, .int .i64 p.t] 235 (0, 0)) := by
         have hlP := lt_of_block P1
         rw [gr6.block _ (by simp; omega) (fun hh => ?_), Below.heap_alloc _ _ _ hlP]
         ·exact P1
         ·have := HLow.out _ hh.symm; omega
        obtain ⟨z0, z1, z2⟩ := three3 P2
        clear y0 y1 y2 P2 P1 P0 gr6 own5 own5a own6' hat6 hlt6 bel5 hown HLow hlow
        go_wp2
        go_roundw
        case rel => exact ⟨_, m + 1, d', fu, p.t, _, rfl, rfl, own6, bel6, HC4, by omega, by omega, hpt, by omega⟩
        case measure => simp [intOf]; omega
      ·have e : r = (out, 0) := by rw [HC2.out, Grain.chr_end hlt]
       subst e
       clear HC2
       go_wp2
       exact bodyPost_ret (v := .tuple #[.slice co m d, .int .i64 0]) (by simp [results, Tryz.results142, go_sem]) rfl ⟨co, m, d, rfl, own_down own bel1.size, by omega, below_pl belr bel1⟩
 ·have e : r = ([], E) := by rw [HR.out, Grain.choose, ← HE.out, if_pos hw]
  subst e
  have hne : (E != 0) = true := by simpa using hw
  go_wp2
  exact bodyPost_ret (v := .tuple #[.slice none 0 0, .int .i64 E]) (by simp [results, Tryz.results142, go_sem]) rfl ⟨none, 0, 0, rfl, World.ownsRow_nil _ _ _ _, by omega, bel1⟩
end Go.Proofs.YtoldmigappbjcaaGreatDoor
