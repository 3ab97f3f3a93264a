import Derived.Deep.RegionWith
import Derived.Test.YtoldmigappbjcaaGreatDoorL25
import Derived.Test.YtoldmigappbjcaaGreatDoorL27
namespace Go.Proofs.YtoldmigappbjcaaGreatDoor
open Go.RowKit Go.GrainU
def sbl (v0 v1 v2 v3 : Value) (s : Grain.Shf) : Obj := .cells #[v0, v1, v2, v3, .int .i64 s.rf, .int .i64 s.ff, .int .i64 s.ft, .int .i64 s.cf, .int .i64 s.ct] 59
set_option maxHeartbeats 4000000 in
theorem follow_any (s : Grain.Shf) (v0 v1 v2 v3 : Value) (l : List Grain.Pt) (ao : Option Addr) (n c : Nat) (b : Bool) (w : World) (hs : Seg w ao (pcells l)) (hn : n = l.length) (hL : n ≤ 1000000000000000) (hb : b = Grain.fol s l) :
  Calls Tryz.prog 182 #[.agg #[v0, v1, v2, v3, .int .i64 s.rf, .int .i64 s.ff, .int .i64 s.ft, .int .i64 s.cf, .int .i64 s.ct], .slice ao n c] w fun e w' => e = .returned (.bool b) ∧ Below w.heap.size w w' := by
 have HN := hide hn
 have HB := hide hb
 clear hn hb
 obtain ⟨X, hX⟩ : ∃ X, X = w.heap.size := ⟨_, rfl⟩
 obtain ⟨V, hV⟩ : ∃ V, V = w.alloc (.cells #[v0, v1, v2, v3, .int .i64 s.rf, .int .i64 s.ff, .int .i64 s.ft, .int .i64 s.cf, .int .i64 s.ct] 59) := ⟨_, rfl⟩
 have bel : Below X w V := by rw [hV, hX]; exact (Below.refl _ _).alloc (Nat.le_refl _) _
 have S0 : V.heap[X]? = some (sbl v0 v1 v2 v3 s) := by rw [hV, hX]; exact heap_alloc_new w _
 have hXV : X ≤ V.heap.size := by rw [hX]; exact bel.size
 have hsV := hs.below (by rw [← hX]; exact bel)
 have HV := hide hV
 have HX := hide hX
 clear hV hX hs
 go_enter Tryz.func182, Tryz.ntmps182
 go_wp2
 rw [← HV.out, ← HX.out]
 go_loopw [9] (fun i wr => ∃ k : Nat, k ≤ n ∧ i = .int .i64 k ∧ Hid (∀ j, j < k → Grain.okp s l j = true) ∧ Below V.heap.size V wr) (fun i _ => n - (intOf i).toNat)
 case atStart => exact ⟨0, Nat.zero_le _, rfl, (fun j hj => absurd hj (Nat.not_lt_zero _) : ∀ j, j < 0 → Grain.okp s l j = true), Below.refl _ _⟩
 case round =>
  obtain ⟨k, hk, rfl, HO, belr⟩ := hrel
  by_cases hlt : k < n
  ·have hkl : k < l.length := by rw [← HN.out]; exact hlt
   obtain ⟨bb, off, rfl, hbl, hcell⟩ := seg_part hsV hkl
   obtain ⟨P, hP⟩ : ∃ P, P = Grain.pt l k := ⟨_, rfl⟩
   have q := (hcell k hkl).below belr hbl
   rw [← hP] at q
   obtain ⟨c0, c1, c2⟩ := q
   obtain ⟨W, hW⟩ : ∃ W, W = wr.alloc (.cells #[.int .i64 P.k, .int .i64 P.f, .int .i64 P.t] 235) := ⟨_, rfl⟩
   have hbW : Below wr.heap.size wr W := by rw [hW]; exact (Below.refl _ _).alloc (Nat.le_refl _) _
   have belW : Below V.heap.size V W := belr.trans (hbW.mono belr.size)
   have P0 : W.heap[wr.heap.size]? = some (.cells #[.int .i64 P.k, .int .i64 P.f, .int .i64 P.t] 235 (0, 0)) := by rw [hW]; exact heap_alloc_new wr _
   have S1 := below_block belW S0
   obtain ⟨x0, x1, x2, x3, x4, x5, x6, x7, x8⟩ := nine9 S1
   obtain ⟨y0, y1, y2⟩ := three3 P0
   have Xl : X < W.heap.size := lt_of_block S1
   have Yl : wr.heap.size < W.heap.size := lt_of_block P0
   have HW := hide hW
   have HP := hide hP
   clear hW hP
   obtain ⟨m, hm⟩ : ∃ m, m = Grain.may s P := ⟨_, rfl⟩
   have HM := hide hm
   clear hm
   go_wp2_with fail
   rw [← HW.out]
   clear c0 c1 c2
   cases m
   ·have e : b = false := by
     rw [HB.out, Bool.eq_false_iff]
     intro h
     have := (Grain.fol_iff s l).1 h k hkl
     simp [Grain.okp, ← HP.out, ← HM.out] at this
    subst e
    clear HB HO HP hcell
    have HS : Hid (∀ w', Below W.heap.size W w' → w'.cell? ⟨X, 0, none⟩ = some v0 ∧ w'.cell? ⟨X, 1, none⟩ = some v1 ∧ w'.cell? ⟨X, 2, none⟩ = some v2 ∧ w'.cell? ⟨X, 3, none⟩ = some v3 ∧ w'.cell? ⟨X, 4, none⟩ = some (.int .i64 s.rf) ∧ w'.cell? ⟨X, 5, none⟩ = some (.int .i64 s.ff) ∧ w'.cell? ⟨X, 6, none⟩ = some (.int .i64 s.ft) ∧ w'.cell? ⟨X, 7, none⟩ = some (.int .i64 s.cf) ∧ w'.cell? ⟨X, 8, none⟩ = some (.int .i64 s.ct) ∧ w'.cell? ⟨wr.heap.size, 0, none⟩ = some (.int .i64 P.k) ∧ w'.cell? ⟨wr.heap.size, 1, none⟩ = some (.int .i64 P.f) ∧ w'.cell? ⟨wr.heap.size, 2, none⟩ = some (.int .i64 P.t)) := fun w' hb' => ⟨(hb'.cell (by exact Xl)).trans x0, (hb'.cell (by exact Xl)).trans x1, (hb'.cell (by exact Xl)).trans x2, (hb'.cell (by exact Xl)).trans x3, (hb'.cell (by exact Xl)).trans x4, (hb'.cell (by exact Xl)).trans x5, (hb'.cell (by exact Xl)).trans x6, (hb'.cell (by exact Xl)).trans x7, (hb'.cell (by exact Xl)).trans x8, (hb'.cell (by exact Yl)).trans y0, (hb'.cell (by exact Yl)).trans y1, (hb'.cell (by exact Yl)).trans y2⟩
    have R1 : Below W.heap.size W W.drew := below_drewN (Below.refl _ _) 1
    clear x0 x1 x2 x3 x4 x5 x6 x7 x8 y0 y1 y2
    obtain ⟨x0, x1, x2, x3, x4, x5, x6, x7, x8, y0, y1, y2⟩ := HS.out _ R1
    refine wp_region_any (by kernel_rfl) ?_
    try (change wpAny _ _ _ _ _ _ _ (World.drew _))
    refine wpAny_ready (rs := [0, 1]) (by kernel_rfl) (by simp) ?_
    refine AllReady.cons rfl (fun K hK => ?_) (AllReady.cons rfl (fun K hK => ?_) AllReady.nil)
    ·go_simp
     refine hK _ _ ?_
     clear hK K
     refine wpAny_ready (rs := [1]) (by kernel_rfl) (by simp) ?_
     refine AllReady.cons rfl (fun K hK => ?_) AllReady.nil
     go_simp
     refine hK _ _ ?_
     clear hK K
     clear x0 x1 x2 x3 x4 x5 x6 x7 x8 y0 y1 y2
     refine wpAny_ready (rs := [2]) (by kernel_rfl) (by simp) ?_
     refine AllReady.cons rfl (fun K hK => ?_) AllReady.nil
     go_simp
     go_wp2_with (first | (go_at_call 181; refine (may_any s v0 v1 v2 v3 P false _ HM.out).mono ?_; rintro e w1 ⟨rfl, hb1⟩; have R2 := below_pl hb1 R1; obtain ⟨x0, x1, x2, x3, x4, x5, x6, x7, x8, y0, y1, y2⟩ := HS.out _ R2; clear hb1))
     refine wpAny_ready (rs := [3]) (by kernel_rfl) (by simp) ?_
     refine AllReady.cons rfl (fun K hK => ?_) AllReady.nil
     go_simp
     refine hK _ _ ?_
     clear hK K
     refine wpAny_ready (rs := [4]) (by kernel_rfl) (by simp) ?_
     refine AllReady.cons rfl (fun K hK => ?_) AllReady.nil
     go_simp
     refine hK _ _ ?_
     clear hK K
     refine wpAny_skips (by kernel_rfl) (fun _ _ _ _ h => h) [(5, 19), (6, 20), (7, 21), (8, 22), (9, 23), (10, 24), (11, 25), (12, 26), (13, 27), (14, 28), (15, 29), (16, 30), (17, 31)] 1 14 _ _ _ rfl (by kernel_rfl) ?_
     simp only [skipAct, skipSet]
     refine wpAny_ready (rs := [18]) (by kernel_rfl) (by simp) ?_
     refine AllReady.cons rfl (fun K hK => ?_) AllReady.nil
     go_simp
     refine hK _ _ ?_
     clear hK K
     refine wpAny_done (by kernel_rfl) ?_ _
     go_wp2
     go_ret
     exact ⟨rfl, by rw [← HX.out]; exact bel.trans ((below_pl R2 belW).mono hXV)⟩
    ·go_simp
     refine hK _ _ ?_
     clear hK K
     refine wpAny_ready (rs := [0]) (by kernel_rfl) (by simp) ?_
     refine AllReady.cons rfl (fun K hK => ?_) AllReady.nil
     go_simp
     refine hK _ _ ?_
     clear hK K
     clear x0 x1 x2 x3 x4 x5 x6 x7 x8 y0 y1 y2
     refine wpAny_ready (rs := [2]) (by kernel_rfl) (by simp) ?_
     refine AllReady.cons rfl (fun K hK => ?_) AllReady.nil
     go_simp
     go_wp2_with (first | (go_at_call 181; refine (may_any s v0 v1 v2 v3 P false _ HM.out).mono ?_; rintro e w1 ⟨rfl, hb1⟩; have R2 := below_pl hb1 R1; obtain ⟨x0, x1, x2, x3, x4, x5, x6, x7, x8, y0, y1, y2⟩ := HS.out _ R2; clear hb1))
     refine wpAny_ready (rs := [3]) (by kernel_rfl) (by simp) ?_
     refine AllReady.cons rfl (fun K hK => ?_) AllReady.nil
     go_simp
     refine hK _ _ ?_
     clear hK K
     refine wpAny_ready (rs := [4]) (by kernel_rfl) (by simp) ?_
     refine AllReady.cons rfl (fun K hK => ?_) AllReady.nil
     go_simp
     refine hK _ _ ?_
     clear hK K
     refine wpAny_skips (by kernel_rfl) (fun _ _ _ _ h => h) [(5, 19), (6, 20), (7, 21), (8, 22), (9, 23), (10, 24), (11, 25), (12, 26), (13, 27), (14, 28), (15, 29), (16, 30), (17, 31)] 1 14 _ _ _ rfl (by kernel_rfl) ?_
     simp only [skipAct, skipSet]
     refine wpAny_ready (rs := [18]) (by kernel_rfl) (by simp) ?_
     refine AllReady.cons rfl (fun K hK => ?_) AllReady.nil
     go_simp
     refine hK _ _ ?_
     clear hK K
     refine wpAny_done (by kernel_rfl) ?_ _
     go_wp2
     go_ret
     exact ⟨rfl, by rw [← HX.out]; exact bel.trans ((below_pl R2 belW).mono hXV)⟩
   ·rcases Nat.eq_zero_or_pos k with hk0 | hk0
    ·subst hk0
     have OK : Hid (∀ j, j < 0 + 1 → Grain.okp s l j = true) := by
      intro j hj
      obtain rfl : j = 0 := by omega
      simp [Grain.okp, ← HP.out, ← HM.out]
     clear HO HP hcell
     have HS : Hid (∀ w', Below W.heap.size W w' → w'.cell? ⟨X, 0, none⟩ = some v0 ∧ w'.cell? ⟨X, 1, none⟩ = some v1 ∧ w'.cell? ⟨X, 2, none⟩ = some v2 ∧ w'.cell? ⟨X, 3, none⟩ = some v3 ∧ w'.cell? ⟨X, 4, none⟩ = some (.int .i64 s.rf) ∧ w'.cell? ⟨X, 5, none⟩ = some (.int .i64 s.ff) ∧ w'.cell? ⟨X, 6, none⟩ = some (.int .i64 s.ft) ∧ w'.cell? ⟨X, 7, none⟩ = some (.int .i64 s.cf) ∧ w'.cell? ⟨X, 8, none⟩ = some (.int .i64 s.ct) ∧ w'.cell? ⟨wr.heap.size, 0, none⟩ = some (.int .i64 P.k) ∧ w'.cell? ⟨wr.heap.size, 1, none⟩ = some (.int .i64 P.f) ∧ w'.cell? ⟨wr.heap.size, 2, none⟩ = some (.int .i64 P.t)) := fun w' hb' => ⟨(hb'.cell (by exact Xl)).trans x0, (hb'.cell (by exact Xl)).trans x1, (hb'.cell (by exact Xl)).trans x2, (hb'.cell (by exact Xl)).trans x3, (hb'.cell (by exact Xl)).trans x4, (hb'.cell (by exact Xl)).trans x5, (hb'.cell (by exact Xl)).trans x6, (hb'.cell (by exact Xl)).trans x7, (hb'.cell (by exact Xl)).trans x8, (hb'.cell (by exact Yl)).trans y0, (hb'.cell (by exact Yl)).trans y1, (hb'.cell (by exact Yl)).trans y2⟩
     have R1 : Below W.heap.size W W.drew := below_drewN (Below.refl _ _) 1
     clear x0 x1 x2 x3 x4 x5 x6 x7 x8 y0 y1 y2
     obtain ⟨x0, x1, x2, x3, x4, x5, x6, x7, x8, y0, y1, y2⟩ := HS.out _ R1
     refine wp_region_any (by kernel_rfl) ?_
     try (change wpAny _ _ _ _ _ _ _ (World.drew _))
     refine wpAny_ready (rs := [0, 1]) (by kernel_rfl) (by simp) ?_
     refine AllReady.cons rfl (fun K hK => ?_) (AllReady.cons rfl (fun K hK => ?_) AllReady.nil)
     ·go_simp
      refine hK _ _ ?_
      clear hK K
      refine wpAny_ready (rs := [1]) (by kernel_rfl) (by simp) ?_
      refine AllReady.cons rfl (fun K hK => ?_) AllReady.nil
      go_simp
      refine hK _ _ ?_
      clear hK K
      clear x0 x1 x2 x3 x4 x5 x6 x7 x8 y0 y1 y2
      refine wpAny_ready (rs := [2]) (by kernel_rfl) (by simp) ?_
      refine AllReady.cons rfl (fun K hK => ?_) AllReady.nil
      go_simp
      go_wp2_with (first | (go_at_call 181; refine (may_any s v0 v1 v2 v3 P true _ HM.out).mono ?_; rintro e w1 ⟨rfl, hb1⟩; have R2 := below_pl hb1 R1; obtain ⟨x0, x1, x2, x3, x4, x5, x6, x7, x8, y0, y1, y2⟩ := HS.out _ R2; clear hb1))
      refine wpAny_ready (rs := [3]) (by kernel_rfl) (by simp) ?_
      refine AllReady.cons rfl (fun K hK => ?_) AllReady.nil
      go_simp
      refine hK _ _ ?_
      clear hK K
      refine wpAny_ready (rs := [4]) (by kernel_rfl) (by simp) ?_
      refine AllReady.cons rfl (fun K hK => ?_) AllReady.nil
      go_simp
      refine hK _ _ ?_
      clear hK K
      refine wpAny_ready (rs := [5]) (by kernel_rfl) (by simp) ?_
      refine AllReady.cons rfl (fun K hK => ?_) AllReady.nil
      go_simp
      refine hK _ _ ?_
      clear hK K
      refine wpAny_ready (rs := [6]) (by kernel_rfl) (by simp) ?_
      refine AllReady.cons rfl (fun K hK => ?_) AllReady.nil
      go_simp
      refine hK _ _ ?_
      clear hK K
      refine wpAny_ready (rs := [7]) (by kernel_rfl) (by simp) ?_
      refine AllReady.cons rfl (fun K hK => ?_) AllReady.nil
      go_simp
      refine hK _ _ ?_
      clear hK K
      refine wpAny_skips (by kernel_rfl) (fun _ _ _ _ h => h) [(8, 22), (9, 23), (10, 24), (11, 25), (12, 26), (13, 27), (14, 28), (15, 29), (16, 30)] 2 11 _ _ _ rfl (by kernel_rfl) ?_
      simp only [skipAct, skipSet]
      refine wpAny_ready (rs := [17]) (by kernel_rfl) (by simp) ?_
      refine AllReady.cons rfl (fun K hK => ?_) AllReady.nil
      go_simp
      refine hK _ _ ?_
      clear hK K
      refine wpAny_ready (rs := [18]) (by kernel_rfl) (by simp) ?_
      refine AllReady.cons rfl (fun K hK => ?_) AllReady.nil
      go_simp
      refine hK _ _ ?_
      clear hK K
      refine wpAny_done (by kernel_rfl) ?_ _
      go_wp2
      go_roundw
      case rel => exact ⟨0 + 1, by omega, by go_num, OK, below_pl R2 belW⟩
      case measure => simp [intOf]; omega
     ·go_simp
      refine hK _ _ ?_
      clear hK K
      refine wpAny_ready (rs := [0]) (by kernel_rfl) (by simp) ?_
      refine AllReady.cons rfl (fun K hK => ?_) AllReady.nil
      go_simp
      refine hK _ _ ?_
      clear hK K
      clear x0 x1 x2 x3 x4 x5 x6 x7 x8 y0 y1 y2
      refine wpAny_ready (rs := [2]) (by kernel_rfl) (by simp) ?_
      refine AllReady.cons rfl (fun K hK => ?_) AllReady.nil
      go_simp
      go_wp2_with (first | (go_at_call 181; refine (may_any s v0 v1 v2 v3 P true _ HM.out).mono ?_; rintro e w1 ⟨rfl, hb1⟩; have R2 := below_pl hb1 R1; obtain ⟨x0, x1, x2, x3, x4, x5, x6, x7, x8, y0, y1, y2⟩ := HS.out _ R2; clear hb1))
      refine wpAny_ready (rs := [3]) (by kernel_rfl) (by simp) ?_
      refine AllReady.cons rfl (fun K hK => ?_) AllReady.nil
      go_simp
      refine hK _ _ ?_
      clear hK K
      refine wpAny_ready (rs := [4]) (by kernel_rfl) (by simp) ?_
      refine AllReady.cons rfl (fun K hK => ?_) AllReady.nil
      go_simp
      refine hK _ _ ?_
      clear hK K
      refine wpAny_ready (rs := [5]) (by kernel_rfl) (by simp) ?_
      refine AllReady.cons rfl (fun K hK => ?_) AllReady.nil
      go_simp
      refine hK _ _ ?_
      clear hK K
      refine wpAny_ready (rs := [6]) (by kernel_rfl) (by simp) ?_
      refine AllReady.cons rfl (fun K hK => ?_) AllReady.nil
      go_simp
      refine hK _ _ ?_
      clear hK K
      refine wpAny_ready (rs := [7]) (by kernel_rfl) (by simp) ?_
      refine AllReady.cons rfl (fun K hK => ?_) AllReady.nil
      go_simp
      refine hK _ _ ?_
      clear hK K
      refine wpAny_skips (by kernel_rfl) (fun _ _ _ _ h => h) [(8, 22), (9, 23), (10, 24), (11, 25), (12, 26), (13, 27), (14, 28), (15, 29), (16, 30)] 2 11 _ _ _ rfl (by kernel_rfl) ?_
      simp only [skipAct, skipSet]
      refine wpAny_ready (rs := [17]) (by kernel_rfl) (by simp) ?_
      refine AllReady.cons rfl (fun K hK => ?_) AllReady.nil
      go_simp
      refine hK _ _ ?_
      clear hK K
      refine wpAny_ready (rs := [18]) (by kernel_rfl) (by simp) ?_
      refine AllReady.cons rfl (fun K hK => ?_) AllReady.nil
      go_simp
      refine hK _ _ ?_
      clear hK K
      refine wpAny_done (by kernel_rfl) ?_ _
      go_wp2
      go_roundw
      case rel => exact ⟨0 + 1, by omega, by go_num, OK, below_pl R2 belW⟩
      case measure => simp [intOf]; omega
    ·obtain ⟨j, rfl⟩ : ∃ j, k = j + 1 := ⟨k - 1, by omega⟩
     have hg : decide ((0 : Int) < ((j + 1 : Nat) : Int)) = true := by simp
     have hg' : decide ((0 : Int) < (j : Int) + 1) = true := by simp
     obtain ⟨M, hM⟩ : ∃ M, M = (Grain.pt l j).t := ⟨_, rfl⟩
     have z2' : W.cell? ⟨bb, off + j * 3 + 2, none⟩ = some (.int .i64 M) := by
      rw [hM]; exact ((hcell j (by omega)).below belW hbl).2.2
     have Bl : bb < W.heap.size := Nat.lt_of_lt_of_le hbl belW.size
     by_cases he : M = P.f
     ·have OK : Hid (∀ i, i < j + 1 + 1 → Grain.okp s l i = true) := by
       intro i hi
       rcases Nat.lt_or_ge i (j + 1) with h | h
       ·exact HO.out i h
       ·obtain rfl : i = j + 1 := by omega
        simp [Grain.okp, ← HP.out, ← HM.out, ← hM, he]
      have en : (M != P.f) = false := by simp [he]
      clear HO HP hcell hM he
      have HS : Hid (∀ w', Below W.heap.size W w' → w'.cell? ⟨X, 0, none⟩ = some v0 ∧ w'.cell? ⟨X, 1, none⟩ = some v1 ∧ w'.cell? ⟨X, 2, none⟩ = some v2 ∧ w'.cell? ⟨X, 3, none⟩ = some v3 ∧ w'.cell? ⟨X, 4, none⟩ = some (.int .i64 s.rf) ∧ w'.cell? ⟨X, 5, none⟩ = some (.int .i64 s.ff) ∧ w'.cell? ⟨X, 6, none⟩ = some (.int .i64 s.ft) ∧ w'.cell? ⟨X, 7, none⟩ = some (.int .i64 s.cf) ∧ w'.cell? ⟨X, 8, none⟩ = some (.int .i64 s.ct) ∧ w'.cell? ⟨wr.heap.size, 0, none⟩ = some (.int .i64 P.k) ∧ w'.cell? ⟨wr.heap.size, 1, none⟩ = some (.int .i64 P.f) ∧ w'.cell? ⟨wr.heap.size, 2, none⟩ = some (.int .i64 P.t) ∧ w'.cell? ⟨bb, off + j * 3 + 2, none⟩ = some (.int .i64 M)) := fun w' hb' => ⟨(hb'.cell (by exact Xl)).trans x0, (hb'.cell (by exact Xl)).trans x1, (hb'.cell (by exact Xl)).trans x2, (hb'.cell (by exact Xl)).trans x3, (hb'.cell (by exact Xl)).trans x4, (hb'.cell (by exact Xl)).trans x5, (hb'.cell (by exact Xl)).trans x6, (hb'.cell (by exact Xl)).trans x7, (hb'.cell (by exact Xl)).trans x8, (hb'.cell (by exact Yl)).trans y0, (hb'.cell (by exact Yl)).trans y1, (hb'.cell (by exact Yl)).trans y2, (hb'.cell (by exact Bl)).trans z2'⟩
      have R1 : Below W.heap.size W W.drew := below_drewN (Below.refl _ _) 1
      have hw1 : IntKind.i64.wrap ((j : Int) + 1 - 1) = (j : Int) := by rw [IntKind.wrap_i64]; omega
      have hw2 : IntKind.i64.wrap (j : Int) = (j : Int) := by rw [IntKind.wrap_i64]; omega
      have hj : (j : Int) < (n : Int) := by omega
      clear x0 x1 x2 x3 x4 x5 x6 x7 x8 y0 y1 y2
      obtain ⟨x0, x1, x2, x3, x4, x5, x6, x7, x8, y0, y1, y2, z2'⟩ := HS.out _ R1
      refine wp_region_any (by kernel_rfl) ?_
      try (change wpAny _ _ _ _ _ _ _ (World.drew _))
      refine wpAny_ready (rs := [0, 1]) (by kernel_rfl) (by simp) ?_
      refine AllReady.cons rfl (fun K hK => ?_) (AllReady.cons rfl (fun K hK => ?_) AllReady.nil)
      ·go_simp
       refine hK _ _ ?_
       clear hK K
       refine wpAny_ready (rs := [1]) (by kernel_rfl) (by simp) ?_
       refine AllReady.cons rfl (fun K hK => ?_) AllReady.nil
       go_simp
       refine hK _ _ ?_
       clear hK K
       clear x0 x1 x2 x3 x4 x5 x6 x7 x8 y0 y1 y2 z2'
       refine wpAny_ready (rs := [2]) (by kernel_rfl) (by simp) ?_
       refine AllReady.cons rfl (fun K hK => ?_) AllReady.nil
       go_simp
       go_wp2_with (first | (go_at_call 181; refine (may_any s v0 v1 v2 v3 P true _ HM.out).mono ?_; rintro e w1 ⟨rfl, hb1⟩; have R2 := below_pl hb1 R1; obtain ⟨x0, x1, x2, x3, x4, x5, x6, x7, x8, y0, y1, y2, z2'⟩ := HS.out _ R2; clear hb1))
       refine wpAny_ready (rs := [3]) (by kernel_rfl) (by simp) ?_
       refine AllReady.cons rfl (fun K hK => ?_) AllReady.nil
       go_simp
       refine hK _ _ ?_
       clear hK K
       refine wpAny_ready (rs := [4]) (by kernel_rfl) (by simp) ?_
       refine AllReady.cons rfl (fun K hK => ?_) AllReady.nil
       go_simp
       refine hK _ _ ?_
       clear hK K
       refine wpAny_ready (rs := [5]) (by kernel_rfl) (by simp) ?_
       refine AllReady.cons rfl (fun K hK => ?_) AllReady.nil
       go_simp
       refine hK _ _ ?_
       clear hK K
       refine wpAny_ready (rs := [6]) (by kernel_rfl) (by simp) ?_
       refine AllReady.cons rfl (fun K hK => ?_) AllReady.nil
       go_simp
       refine hK _ _ ?_
       clear hK K
       refine wpAny_ready (rs := [7]) (by kernel_rfl) (by simp) ?_
       refine AllReady.cons rfl (fun K hK => ?_) AllReady.nil
       go_simp
       refine hK _ _ ?_
       clear hK K
       refine wpAny_take (i := 8) (v := .slice (some ⟨bb, off, none⟩) n c) rfl (by kernel_rfl) (by kernel_rfl) (by kernel_rfl) (fun _ _ _ h => h) (Or.inl ⟨by kernel_rfl, fun w => by go_simp⟩) ?_
       refine wpAny_take (i := 9) (v := .int .i64 ((j + 1 : Nat) : Int)) rfl (by kernel_rfl) (by kernel_rfl) (by kernel_rfl) (fun _ _ _ h => h) (Or.inl ⟨by kernel_rfl, fun w => by go_simp⟩) ?_
       refine wpAny_take (i := 10) (v := .int .i64 (j : Nat)) rfl (by kernel_rfl) (by kernel_rfl) (by kernel_rfl) (fun _ _ _ h => h) (Or.inl ⟨by kernel_rfl, fun w => by go_simp⟩) ?_
       refine wpAny_take (i := 11) (v := .pointer (some ⟨bb, off + j * 3, none⟩)) rfl (by kernel_rfl) (by kernel_rfl) (by kernel_rfl) (fun _ _ _ h => h) (Or.inl ⟨by kernel_rfl, fun w => by go_simp⟩) ?_
       refine wpAny_take (i := 12) (v := .pointer (some ⟨bb, off + j * 3 + 2, none⟩)) rfl (by kernel_rfl) (by kernel_rfl) (by kernel_rfl) (fun _ _ _ h => h) (Or.inl ⟨by kernel_rfl, fun w => by go_simp⟩) ?_
       refine wpAny_take (i := 14) (v := .pointer (some ⟨wr.heap.size, 1, none⟩)) rfl (by kernel_rfl) (by kernel_rfl) (by kernel_rfl) (fun _ _ _ h => h) (Or.inl ⟨by kernel_rfl, fun w => by go_simp⟩) ?_
       refine wpAny_ready (rs := [13, 15]) (by kernel_rfl) (by simp) ?_
       refine AllReady.cons rfl (fun K hK => ?_) (AllReady.cons rfl (fun K hK => ?_) AllReady.nil)
       ·go_simp
        refine hK _ _ ?_
        clear hK K
        refine wpAny_ready (rs := [15]) (by kernel_rfl) (by simp) ?_
        refine AllReady.cons rfl (fun K hK => ?_) AllReady.nil
        go_simp
        refine hK _ _ ?_
        clear hK K
        refine wpAny_ready (rs := [16]) (by kernel_rfl) (by simp) ?_
        refine AllReady.cons rfl (fun K hK => ?_) AllReady.nil
        go_simp
        refine hK _ _ ?_
        clear hK K
        refine wpAny_ready (rs := [17]) (by kernel_rfl) (by simp) ?_
        refine AllReady.cons rfl (fun K hK => ?_) AllReady.nil
        go_simp
        refine hK _ _ ?_
        clear hK K
        refine wpAny_ready (rs := [18]) (by kernel_rfl) (by simp) ?_
        refine AllReady.cons rfl (fun K hK => ?_) AllReady.nil
        go_simp
        refine hK _ _ ?_
        clear hK K
        refine wpAny_done (by kernel_rfl) ?_ _
        go_wp2
        go_roundw
        case rel => exact ⟨j + 1 + 1, by omega, by go_num, OK, below_pl R2 belW⟩
        case measure => simp [intOf]; omega
       ·go_simp
        refine hK _ _ ?_
        clear hK K
        refine wpAny_ready (rs := [13]) (by kernel_rfl) (by simp) ?_
        refine AllReady.cons rfl (fun K hK => ?_) AllReady.nil
        go_simp
        refine hK _ _ ?_
        clear hK K
        refine wpAny_ready (rs := [16]) (by kernel_rfl) (by simp) ?_
        refine AllReady.cons rfl (fun K hK => ?_) AllReady.nil
        go_simp
        refine hK _ _ ?_
        clear hK K
        refine wpAny_ready (rs := [17]) (by kernel_rfl) (by simp) ?_
        refine AllReady.cons rfl (fun K hK => ?_) AllReady.nil
        go_simp
        refine hK _ _ ?_
        clear hK K
        refine wpAny_ready (rs := [18]) (by kernel_rfl) (by simp) ?_
        refine AllReady.cons rfl (fun K hK => ?_) AllReady.nil
        go_simp
        refine hK _ _ ?_
        clear hK K
        refine wpAny_done (by kernel_rfl) ?_ _
        go_wp2
        go_roundw
        case rel => exact ⟨j + 1 + 1, by omega, by go_num, OK, below_pl R2 belW⟩
        case measure => simp [intOf]; omega
      ·go_simp
       refine hK _ _ ?_
       clear hK K
       refine wpAny_ready (rs := [0]) (by kernel_rfl) (by simp) ?_
       refine AllReady.cons rfl (fun K hK => ?_) AllReady.nil
       go_simp
       refine hK _ _ ?_
       clear hK K
       clear x0 x1 x2 x3 x4 x5 x6 x7 x8 y0 y1 y2 z2'
       refine wpAny_ready (rs := [2]) (by kernel_rfl) (by simp) ?_
       refine AllReady.cons rfl (fun K hK => ?_) AllReady.nil
       go_simp
       go_wp2_with (first | (go_at_call 181; refine (may_any s v0 v1 v2 v3 P true _ HM.out).mono ?_; rintro e w1 ⟨rfl, hb1⟩; have R2 := below_pl hb1 R1; obtain ⟨x0, x1, x2, x3, x4, x5, x6, x7, x8, y0, y1, y2, z2'⟩ := HS.out _ R2; clear hb1))
       refine wpAny_ready (rs := [3]) (by kernel_rfl) (by simp) ?_
       refine AllReady.cons rfl (fun K hK => ?_) AllReady.nil
       go_simp
       refine hK _ _ ?_
       clear hK K
       refine wpAny_ready (rs := [4]) (by kernel_rfl) (by simp) ?_
       refine AllReady.cons rfl (fun K hK => ?_) AllReady.nil
       go_simp
       refine hK _ _ ?_
       clear hK K
       refine wpAny_ready (rs := [5]) (by kernel_rfl) (by simp) ?_
       refine AllReady.cons rfl (fun K hK => ?_) AllReady.nil
       go_simp
       refine hK _ _ ?_
       clear hK K
       refine wpAny_ready (rs := [6]) (by kernel_rfl) (by simp) ?_
       refine AllReady.cons rfl (fun K hK => ?_) AllReady.nil
       go_simp
       refine hK _ _ ?_
       clear hK K
       refine wpAny_ready (rs := [7]) (by kernel_rfl) (by simp) ?_
       refine AllReady.cons rfl (fun K hK => ?_) AllReady.nil
       go_simp
       refine hK _ _ ?_
       clear hK K
       refine wpAny_take (i := 8) (v := .slice (some ⟨bb, off, none⟩) n c) rfl (by kernel_rfl) (by kernel_rfl) (by kernel_rfl) (fun _ _ _ h => h) (Or.inl ⟨by kernel_rfl, fun w => by go_simp⟩) ?_
       refine wpAny_take (i := 9) (v := .int .i64 ((j + 1 : Nat) : Int)) rfl (by kernel_rfl) (by kernel_rfl) (by kernel_rfl) (fun _ _ _ h => h) (Or.inl ⟨by kernel_rfl, fun w => by go_simp⟩) ?_
       refine wpAny_take (i := 10) (v := .int .i64 (j : Nat)) rfl (by kernel_rfl) (by kernel_rfl) (by kernel_rfl) (fun _ _ _ h => h) (Or.inl ⟨by kernel_rfl, fun w => by go_simp⟩) ?_
       refine wpAny_take (i := 11) (v := .pointer (some ⟨bb, off + j * 3, none⟩)) rfl (by kernel_rfl) (by kernel_rfl) (by kernel_rfl) (fun _ _ _ h => h) (Or.inl ⟨by kernel_rfl, fun w => by go_simp⟩) ?_
       refine wpAny_take (i := 12) (v := .pointer (some ⟨bb, off + j * 3 + 2, none⟩)) rfl (by kernel_rfl) (by kernel_rfl) (by kernel_rfl) (fun _ _ _ h => h) (Or.inl ⟨by kernel_rfl, fun w => by go_simp⟩) ?_
       refine wpAny_take (i := 14) (v := .pointer (some ⟨wr.heap.size, 1, none⟩)) rfl (by kernel_rfl) (by kernel_rfl) (by kernel_rfl) (fun _ _ _ h => h) (Or.inl ⟨by kernel_rfl, fun w => by go_simp⟩) ?_
       refine wpAny_ready (rs := [13, 15]) (by kernel_rfl) (by simp) ?_
       refine AllReady.cons rfl (fun K hK => ?_) (AllReady.cons rfl (fun K hK => ?_) AllReady.nil)
       ·go_simp
        refine hK _ _ ?_
        clear hK K
        refine wpAny_ready (rs := [15]) (by kernel_rfl) (by simp) ?_
        refine AllReady.cons rfl (fun K hK => ?_) AllReady.nil
        go_simp
        refine hK _ _ ?_
        clear hK K
        refine wpAny_ready (rs := [16]) (by kernel_rfl) (by simp) ?_
        refine AllReady.cons rfl (fun K hK => ?_) AllReady.nil
        go_simp
        refine hK _ _ ?_
        clear hK K
        refine wpAny_ready (rs := [17]) (by kernel_rfl) (by simp) ?_
        refine AllReady.cons rfl (fun K hK => ?_) AllReady.nil
        go_simp
        refine hK _ _ ?_
        clear hK K
        refine wpAny_ready (rs := [18]) (by kernel_rfl) (by simp) ?_
        refine AllReady.cons rfl (fun K hK => ?_) AllReady.nil
        go_simp
        refine hK _ _ ?_
        clear hK K
        refine wpAny_done (by kernel_rfl) ?_ _
        go_wp2
        go_roundw
        case rel => exact ⟨j + 1 + 1, by omega, by go_num, OK, below_pl R2 belW⟩
        case measure => simp [intOf]; omega
       ·go_simp
        refine hK _ _ ?_
        clear hK K
        refine wpAny_ready (rs := [13]) (by kernel_rfl) (by simp) ?_
        refine AllReady.cons rfl (fun K hK => ?_) AllReady.nil
        go_simp
        refine hK _ _ ?_
        clear hK K
        refine wpAny_ready (rs := [16]) (by kernel_rfl) (by simp) ?_
        refine AllReady.cons rfl (fun K hK => ?_) AllReady.nil
        go_simp
        refine hK _ _ ?_
        clear hK K
        refine wpAny_ready (rs := [17]) (by kernel_rfl) (by simp) ?_
        refine AllReady.cons rfl (fun K hK => ?_) AllReady.nil
        go_simp
        refine hK _ _ ?_
        clear hK K
        refine wpAny_ready (rs := [18]) (by kernel_rfl) (by simp) ?_
        refine AllReady.cons rfl (fun K hK => ?_) AllReady.nil
        go_simp
        refine hK _ _ ?_
        clear hK K
        refine wpAny_done (by kernel_rfl) ?_ _
        go_wp2
        go_roundw
        case rel => exact ⟨j + 1 + 1, by omega, by go_num, OK, below_pl R2 belW⟩
        case measure => simp [intOf]; omega
     ·have e : b = false := by
       rw [HB.out, Bool.eq_false_iff]
       intro h
       have := (Grain.fol_iff s l).1 h (j + 1) hkl
       simp [Grain.okp, ← HP.out, ← HM.out, ← hM, he] at this
      subst e
      have en : (M != P.f) = true := by simp [he]
      clear HB HO HP hcell hM he
      have HS : Hid (∀ w', Below W.heap.size W w' → w'.cell? ⟨X, 0, none⟩ = some v0 ∧ w'.cell? ⟨X, 1, none⟩ = some v1 ∧ w'.cell? ⟨X, 2, none⟩ = some v2 ∧ w'.cell? ⟨X, 3, none⟩ = some v3 ∧ w'.cell? ⟨X, 4, none⟩ = some (.int .i64 s.rf) ∧ w'.cell? ⟨X, 5, none⟩ = some (.int .i64 s.ff) ∧ w'.cell? ⟨X, 6, none⟩ = some (.int .i64 s.ft) ∧ w'.cell? ⟨X, 7, none⟩ = some (.int .i64 s.cf) ∧ w'.cell? ⟨X, 8, none⟩ = some (.int .i64 s.ct) ∧ w'.cell? ⟨wr.heap.size, 0, none⟩ = some (.int .i64 P.k) ∧ w'.cell? ⟨wr.heap.size, 1, none⟩ = some (.int .i64 P.f) ∧ w'.cell? ⟨wr.heap.size, 2, none⟩ = some (.int .i64 P.t) ∧ w'.cell? ⟨bb, off + j * 3 + 2, none⟩ = some (.int .i64 M)) := fun w' hb' => ⟨(hb'.cell (by exact Xl)).trans x0, (hb'.cell (by exact Xl)).trans x1, (hb'.cell (by exact Xl)).trans x2, (hb'.cell (by exact Xl)).trans x3, (hb'.cell (by exact Xl)).trans x4, (hb'.cell (by exact Xl)).trans x5, (hb'.cell (by exact Xl)).trans x6, (hb'.cell (by exact Xl)).trans x7, (hb'.cell (by exact Xl)).trans x8, (hb'.cell (by exact Yl)).trans y0, (hb'.cell (by exact Yl)).trans y1, (hb'.cell (by exact Yl)).trans y2, (hb'.cell (by exact Bl)).trans z2'⟩
      have R1 : Below W.heap.size W W.drew := below_drewN (Below.refl _ _) 1
      have hw1 : IntKind.i64.wrap ((j : Int) + 1 - 1) = (j : Int) := by rw [IntKind.wrap_i64]; omega
      have hw2 : IntKind.i64.wrap (j : Int) = (j : Int) := by rw [IntKind.wrap_i64]; omega
      have hj : (j : Int) < (n : Int) := by omega
      clear x0 x1 x2 x3 x4 x5 x6 x7 x8 y0 y1 y2
      obtain ⟨x0, x1, x2, x3, x4, x5, x6, x7, x8, y0, y1, y2, z2'⟩ := HS.out _ R1
      refine wp_region_any (by kernel_rfl) ?_
      try (change wpAny _ _ _ _ _ _ _ (World.drew _))
      refine wpAny_ready (rs := [0, 1]) (by kernel_rfl) (by simp) ?_
      refine AllReady.cons rfl (fun K hK => ?_) (AllReady.cons rfl (fun K hK => ?_) AllReady.nil)
      ·go_simp
       refine hK _ _ ?_
       clear hK K
       refine wpAny_ready (rs := [1]) (by kernel_rfl) (by simp) ?_
       refine AllReady.cons rfl (fun K hK => ?_) AllReady.nil
       go_simp
       refine hK _ _ ?_
       clear hK K
       clear x0 x1 x2 x3 x4 x5 x6 x7 x8 y0 y1 y2 z2'
       refine wpAny_ready (rs := [2]) (by kernel_rfl) (by simp) ?_
       refine AllReady.cons rfl (fun K hK => ?_) AllReady.nil
       go_simp
       go_wp2_with (first | (go_at_call 181; refine (may_any s v0 v1 v2 v3 P true _ HM.out).mono ?_; rintro e w1 ⟨rfl, hb1⟩; have R2 := below_pl hb1 R1; obtain ⟨x0, x1, x2, x3, x4, x5, x6, x7, x8, y0, y1, y2, z2'⟩ := HS.out _ R2; clear hb1))
       refine wpAny_ready (rs := [3]) (by kernel_rfl) (by simp) ?_
       refine AllReady.cons rfl (fun K hK => ?_) AllReady.nil
       go_simp
       refine hK _ _ ?_
       clear hK K
       refine wpAny_ready (rs := [4]) (by kernel_rfl) (by simp) ?_
       refine AllReady.cons rfl (fun K hK => ?_) AllReady.nil
       go_simp
       refine hK _ _ ?_
       clear hK K
       refine wpAny_ready (rs := [5]) (by kernel_rfl) (by simp) ?_
       refine AllReady.cons rfl (fun K hK => ?_) AllReady.nil
       go_simp
       refine hK _ _ ?_
       clear hK K
       refine wpAny_ready (rs := [6]) (by kernel_rfl) (by simp) ?_
       refine AllReady.cons rfl (fun K hK => ?_) AllReady.nil
       go_simp
       refine hK _ _ ?_
       clear hK K
       refine wpAny_ready (rs := [7]) (by kernel_rfl) (by simp) ?_
       refine AllReady.cons rfl (fun K hK => ?_) AllReady.nil
       go_simp
       refine hK _ _ ?_
       clear hK K
       refine wpAny_take (i := 8) (v := .slice (some ⟨bb, off, none⟩) n c) rfl (by kernel_rfl) (by kernel_rfl) (by kernel_rfl) (fun _ _ _ h => h) (Or.inl ⟨by kernel_rfl, fun w => by go_simp⟩) ?_
       refine wpAny_take (i := 9) (v := .int .i64 ((j + 1 : Nat) : Int)) rfl (by kernel_rfl) (by kernel_rfl) (by kernel_rfl) (fun _ _ _ h => h) (Or.inl ⟨by kernel_rfl, fun w => by go_simp⟩) ?_
       refine wpAny_take (i := 10) (v := .int .i64 (j : Nat)) rfl (by kernel_rfl) (by kernel_rfl) (by kernel_rfl) (fun _ _ _ h => h) (Or.inl ⟨by kernel_rfl, fun w => by go_simp⟩) ?_
       refine wpAny_take (i := 11) (v := .pointer (some ⟨bb, off + j * 3, none⟩)) rfl (by kernel_rfl) (by kernel_rfl) (by kernel_rfl) (fun _ _ _ h => h) (Or.inl ⟨by kernel_rfl, fun w => by go_simp⟩) ?_
       refine wpAny_take (i := 12) (v := .pointer (some ⟨bb, off + j * 3 + 2, none⟩)) rfl (by kernel_rfl) (by kernel_rfl) (by kernel_rfl) (fun _ _ _ h => h) (Or.inl ⟨by kernel_rfl, fun w => by go_simp⟩) ?_
       refine wpAny_take (i := 14) (v := .pointer (some ⟨wr.heap.size, 1, none⟩)) rfl (by kernel_rfl) (by kernel_rfl) (by kernel_rfl) (fun _ _ _ h => h) (Or.inl ⟨by kernel_rfl, fun w => by go_simp⟩) ?_
       refine wpAny_ready (rs := [13, 15]) (by kernel_rfl) (by simp) ?_
       refine AllReady.cons rfl (fun K hK => ?_) (AllReady.cons rfl (fun K hK => ?_) AllReady.nil)
       ·go_simp
        refine hK _ _ ?_
        clear hK K
        refine wpAny_ready (rs := [15]) (by kernel_rfl) (by simp) ?_
        refine AllReady.cons rfl (fun K hK => ?_) AllReady.nil
        go_simp
        refine hK _ _ ?_
        clear hK K
        refine wpAny_ready (rs := [16]) (by kernel_rfl) (by simp) ?_
        refine AllReady.cons rfl (fun K hK => ?_) AllReady.nil
        go_simp
        refine hK _ _ ?_
        clear hK K
        refine wpAny_ready (rs := [17]) (by kernel_rfl) (by simp) ?_
        refine AllReady.cons rfl (fun K hK => ?_) AllReady.nil
        go_simp
        refine hK _ _ ?_
        clear hK K
        refine wpAny_ready (rs := [18]) (by kernel_rfl) (by simp) ?_
        refine AllReady.cons rfl (fun K hK => ?_) AllReady.nil
        go_simp
        refine hK _ _ ?_
        clear hK K
        refine wpAny_done (by kernel_rfl) ?_ _
        go_wp2
        go_ret
        exact ⟨rfl, by rw [← HX.out]; exact bel.trans ((below_pl R2 belW).mono hXV)⟩
       ·go_simp
        refine hK _ _ ?_
        clear hK K
        refine wpAny_ready (rs := [13]) (by kernel_rfl) (by simp) ?_
        refine AllReady.cons rfl (fun K hK => ?_) AllReady.nil
        go_simp
        refine hK _ _ ?_
        clear hK K
        refine wpAny_ready (rs := [16]) (by kernel_rfl) (by simp) ?_
        refine AllReady.cons rfl (fun K hK => ?_) AllReady.nil
        go_simp
        refine hK _ _ ?_
        clear hK K
        refine wpAny_ready (rs := [17]) (by kernel_rfl) (by simp) ?_
        refine AllReady.cons rfl (fun K hK => ?_) AllReady.nil
        go_simp
        refine hK _ _ ?_
        clear hK K
        refine wpAny_ready (rs := [18]) (by kernel_rfl) (by simp) ?_
        refine AllReady.cons rfl (fun K hK => ?_) AllReady.nil
        go_simp
        refine hK _ _ ?_
        clear hK K
        refine wpAny_done (by kernel_rfl) ?_ _
        go_wp2
        go_ret
        exact ⟨rfl, by rw [← HX.out]; exact bel.trans ((below_pl R2 belW).mono hXV)⟩
      ·go_simp
       refine hK _ _ ?_
       clear hK K
       refine wpAny_ready (rs := [0]) (by kernel_rfl) (by simp) ?_
       refine AllReady.cons rfl (fun K hK => ?_) AllReady.nil
       go_simp
       refine hK _ _ ?_
       clear hK K
       clear x0 x1 x2 x3 x4 x5 x6 x7 x8 y0 y1 y2 z2'
       refine wpAny_ready (rs := [2]) (by kernel_rfl) (by simp) ?_
       refine AllReady.cons rfl (fun K hK => ?_) AllReady.nil
       go_simp
       go_wp2_with (first | (go_at_call 181; refine (may_any s v0 v1 v2 v3 P true _ HM.out).mono ?_; rintro e w1 ⟨rfl, hb1⟩; have R2 := below_pl hb1 R1; obtain ⟨x0, x1, x2, x3, x4, x5, x6, x7, x8, y0, y1, y2, z2'⟩ := HS.out _ R2; clear hb1))
       refine wpAny_ready (rs := [3]) (by kernel_rfl) (by simp) ?_
       refine AllReady.cons rfl (fun K hK => ?_) AllReady.nil
       go_simp
       refine hK _ _ ?_
       clear hK K
       refine wpAny_ready (rs := [4]) (by kernel_rfl) (by simp) ?_
       refine AllReady.cons rfl (fun K hK => ?_) AllReady.nil
       go_simp
       refine hK _ _ ?_
       clear hK K
       refine wpAny_ready (rs := [5]) (by kernel_rfl) (by simp) ?_
       refine AllReady.cons rfl (fun K hK => ?_) AllReady.nil
       go_simp
       refine hK _ _ ?_
       clear hK K
       refine wpAny_ready (rs := [6]) (by kernel_rfl) (by simp) ?_
       refine AllReady.cons rfl (fun K hK => ?_) AllReady.nil
       go_simp
       refine hK _ _ ?_
       clear hK K
       refine wpAny_ready (rs := [7]) (by kernel_rfl) (by simp) ?_
       refine AllReady.cons rfl (fun K hK => ?_) AllReady.nil
       go_simp
       refine hK _ _ ?_
       clear hK K
       refine wpAny_take (i := 8) (v := .slice (some ⟨bb, off, none⟩) n c) rfl (by kernel_rfl) (by kernel_rfl) (by kernel_rfl) (fun _ _ _ h => h) (Or.inl ⟨by kernel_rfl, fun w => by go_simp⟩) ?_
       refine wpAny_take (i := 9) (v := .int .i64 ((j + 1 : Nat) : Int)) rfl (by kernel_rfl) (by kernel_rfl) (by kernel_rfl) (fun _ _ _ h => h) (Or.inl ⟨by kernel_rfl, fun w => by go_simp⟩) ?_
       refine wpAny_take (i := 10) (v := .int .i64 (j : Nat)) rfl (by kernel_rfl) (by kernel_rfl) (by kernel_rfl) (fun _ _ _ h => h) (Or.inl ⟨by kernel_rfl, fun w => by go_simp⟩) ?_
       refine wpAny_take (i := 11) (v := .pointer (some ⟨bb, off + j * 3, none⟩)) rfl (by kernel_rfl) (by kernel_rfl) (by kernel_rfl) (fun _ _ _ h => h) (Or.inl ⟨by kernel_rfl, fun w => by go_simp⟩) ?_
       refine wpAny_take (i := 12) (v := .pointer (some ⟨bb, off + j * 3 + 2, none⟩)) rfl (by kernel_rfl) (by kernel_rfl) (by kernel_rfl) (fun _ _ _ h => h) (Or.inl ⟨by kernel_rfl, fun w => by go_simp⟩) ?_
       refine wpAny_take (i := 14) (v := .pointer (some ⟨wr.heap.size, 1, none⟩)) rfl (by kernel_rfl) (by kernel_rfl) (by kernel_rfl) (fun _ _ _ h => h) (Or.inl ⟨by kernel_rfl, fun w => by go_simp⟩) ?_
       refine wpAny_ready (rs := [13, 15]) (by kernel_rfl) (by simp) ?_
       refine AllReady.cons rfl (fun K hK => ?_) (AllReady.cons rfl (fun K hK => ?_) AllReady.nil)
       ·go_simp
        refine hK _ _ ?_
        clear hK K
        refine wpAny_ready (rs := [15]) (by kernel_rfl) (by simp) ?_
        refine AllReady.cons rfl (fun K hK => ?_) AllReady.nil
        go_simp
        refine hK _ _ ?_
        clear hK K
        refine wpAny_ready (rs := [16]) (by kernel_rfl) (by simp) ?_
        refine AllReady.cons rfl (fun K hK => ?_) AllReady.nil
        go_simp
        refine hK _ _ ?_
        clear hK K
        refine wpAny_ready (rs := [17]) (by kernel_rfl) (by simp) ?_
        refine AllReady.cons rfl (fun K hK => ?_) AllReady.nil
        go_simp
        refine hK _ _ ?_
        clear hK K
        refine wpAny_ready (rs := [18]) (by kernel_rfl) (by simp) ?_
        refine AllReady.cons rfl (fun K hK => ?_) AllReady.nil
        go_simp
        refine hK _ _ ?_
        clear hK K
        refine wpAny_done (by kernel_rfl) ?_ _
        go_wp2
        go_ret
        exact ⟨rfl, by rw [← HX.out]; exact bel.trans ((below_pl R2 belW).mono hXV)⟩
       ·go_simp
        refine hK _ _ ?_
        clear hK K
        refine wpAny_ready (rs := [13]) (by kernel_rfl) (by simp) ?_
        refine AllReady.cons rfl (fun K hK => ?_) AllReady.nil
        go_simp
        refine hK _ _ ?_
        clear hK K
        refine wpAny_ready (rs := [16]) (by kernel_rfl) (by simp) ?_
        refine AllReady.cons rfl (fun K hK => ?_) AllReady.nil
        go_simp
        refine hK _ _ ?_
        clear hK K
        refine wpAny_ready (rs := [17]) (by kernel_rfl) (by simp) ?_
        refine AllReady.cons rfl (fun K hK => ?_) AllReady.nil
        go_simp
        refine hK _ _ ?_
        clear hK K
        refine wpAny_ready (rs := [18]) (by kernel_rfl) (by simp) ?_
        refine AllReady.cons rfl (fun K hK => ?_) AllReady.nil
        go_simp
        refine hK _ _ ?_
        clear hK K
        refine wpAny_done (by kernel_rfl) ?_ _
        go_wp2
        go_ret
        exact ⟨rfl, by rw [← HX.out]; exact bel.trans ((below_pl R2 belW).mono hXV)⟩
  ·have e : b = true := by
    rw [HB.out, Grain.fol_iff]
    intro i hi
    exact HO.out i (by have := HN.out; omega)
   subst e
   go_wp2
   go_ret
   exact ⟨rfl, by rw [← HX.out]; exact bel.trans (belr.mono hXV)⟩
end Go.Proofs.YtoldmigappbjcaaGreatDoor
