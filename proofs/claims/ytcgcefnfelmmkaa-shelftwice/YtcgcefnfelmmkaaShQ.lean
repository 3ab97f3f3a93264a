/-
  The walk of ShelfTwice.
-/
import Derived.Test.YtcgcefnfelmmkaaShN
namespace Go.Proofs.Ytcgcefnfelmmkaa
open Go.RowKit Go.GrainU

set_option maxHeartbeats 4000000 in
theorem stwice_any (x : ShT) (tier tt : Int) (w : World) (hx : ShIn w x) :
    Calls Try.prog 5 #[x.v, .int .i64 tier, .int .i64 tt] w fun e w' => e = .returned (.bool true) ∧ Below w.heap.size w w' := by
  obtain ⟨X, hX⟩ : ∃ X, X = w.heap.size := ⟨_, rfl⟩
  obtain ⟨V, hV⟩ : ∃ V, V = w.alloc (so x) := ⟨_, rfl⟩
  have bel : Below w.heap.size w V := by rw [hV]; exact (Below.refl _ _).alloc (Nat.le_refl _) _
  have B0 : V.heap[X]? = some (so x) := by rw [hV, hX]; exact heap_alloc_new w _
  have inx := hx.below bel
  have HV : Hid (V = w.alloc (.cells #[.slice x.a0 x.s.se.length x.c0, .slice x.a1 x.s.ra.length x.c1, .slice x.a2 x.s.fi.length x.c2, .slice x.a3 x.s.co.length x.c3, .int .i64 x.s.rf, .int .i64 x.s.ff, .int .i64 x.s.ft, .int .i64 x.s.cf, .int .i64 x.s.ct] 27)) := hV
  have Hv : Hid (x.v = .agg #[.slice x.a0 x.s.se.length x.c0, .slice x.a1 x.s.ra.length x.c1, .slice x.a2 x.s.fi.length x.c2, .slice x.a3 x.s.co.length x.c3, .int .i64 x.s.rf, .int .i64 x.s.ff, .int .i64 x.s.ft, .int .i64 x.s.cf, .int .i64 x.s.ct]) := rfl
  have HX := hide hX
  rw [Hv.out]
  clear hV hX hx
  go_enter Try.func5, Try.ntmps5
  go_wp2_with fail
  rw [← HV.out, ← HX.out]
  refine (shalive_any V).mono ?_
  rintro e w1 ⟨rfl, hb1⟩
  have bel1 : Below w.heap.size w w1 := bel.trans (hb1.mono bel.size)
  have Fx := below_block hb1 B0
  have inx1 := inx.below hb1
  obtain ⟨b0, b1, b2, b3, b4, b5, b6, b7, b8⟩ := nine_cells Fx
  clear HV hb1 B0 inx bel
  go_wp2_with fail
  rw [← Hv.out]
  refine (sroll_any x tt w1 inx1).mono ?_
  rintro e w2 ⟨y1, rfl, hy1, ioy1, hbw2⟩
  have iny1 := ioy1.shIn
  clear ioy1
  have Hy1 := hide hy1
  have bel1' : Below w.heap.size w w2 := bel1.trans (hbw2.mono bel1.size)
  obtain ⟨W2, hW2⟩ : ∃ W, W = w2.alloc (so y1) := ⟨_, rfl⟩
  obtain ⟨By1, hBy1⟩ : ∃ B, B = w2.heap.size := ⟨_, rfl⟩
  have hbW2 : Below w2.heap.size w2 W2 := by rw [hW2]; exact (Below.refl _ _).alloc (Nat.le_refl _) _
  have belW2 : Below w.heap.size w W2 := bel1'.trans (hbW2.mono bel1'.size)
  have Fy1 : W2.heap[By1]? = some (so y1) := by rw [hW2, hBy1]; exact heap_alloc_new w2 _
  have Fx_W2 := below_block hbW2 (below_block hbw2 Fx)
  have inx1_W2 := (inx1.below hbw2).below hbW2
  have iny1_W2 := iny1.below hbW2
  have HAW2 : Hid (W2 = w2.alloc (.cells #[.slice y1.a0 y1.s.se.length y1.c0, .slice y1.a1 y1.s.ra.length y1.c1, .slice y1.a2 y1.s.fi.length y1.c2, .slice y1.a3 y1.s.co.length y1.c3, .int .i64 y1.s.rf, .int .i64 y1.s.ff, .int .i64 y1.s.ft, .int .i64 y1.s.cf, .int .i64 y1.s.ct] 27)) := hW2
  have HBy1 := hide hBy1
  have Hvy1 : Hid (y1.v = .agg #[.slice y1.a0 y1.s.se.length y1.c0, .slice y1.a1 y1.s.ra.length y1.c1, .slice y1.a2 y1.s.fi.length y1.c2, .slice y1.a3 y1.s.co.length y1.c3, .int .i64 y1.s.rf, .int .i64 y1.s.ff, .int .i64 y1.s.ft, .int .i64 y1.s.cf, .int .i64 y1.s.ct]) := rfl
  rw [Hvy1.out]
  clear hW2 hBy1 hy1 iny1 hbw2 hbW2 bel1'
  obtain ⟨E1, hE1⟩ : ∃ E, E = (Grain.sroll x.s tt).2 := ⟨_, rfl⟩
  rw [← hE1]
  have HE1 := hide hE1
  clear hE1 b0 b1 b2 b3 b4 b5 b6 b7 b8
  go_upto_region 4 with fail
  rw [← HAW2.out, ← HBy1.out]
  clear HAW2
  obtain ⟨b0, b1, b2, b3, b4, b5, b6, b7, b8⟩ := nine_cells Fx_W2
  go_wp2_with fail
  rw [← Hv.out]
  refine (sforg_any x tier tt W2 inx1_W2).mono ?_
  rintro e w3 ⟨y2, rfl, hy2, ioy2, hbw3⟩
  have iny2 := ioy2.shIn
  clear ioy2
  have Hy2 := hide hy2
  have belW2' : Below w.heap.size w w3 := belW2.trans (hbw3.mono belW2.size)
  obtain ⟨W3, hW3⟩ : ∃ W, W = w3.alloc (so y2) := ⟨_, rfl⟩
  obtain ⟨By2, hBy2⟩ : ∃ B, B = w3.heap.size := ⟨_, rfl⟩
  have hbW3 : Below w3.heap.size w3 W3 := by rw [hW3]; exact (Below.refl _ _).alloc (Nat.le_refl _) _
  have belW3 : Below w.heap.size w W3 := belW2'.trans (hbW3.mono belW2'.size)
  have Fy2 : W3.heap[By2]? = some (so y2) := by rw [hW3, hBy2]; exact heap_alloc_new w3 _
  have Fx_W3 := below_block hbW3 (below_block hbw3 Fx_W2)
  have Fy1_W3 := below_block hbW3 (below_block hbw3 Fy1)
  have inx1_W3 := (inx1_W2.below hbw3).below hbW3
  have iny1_W3 := (iny1_W2.below hbw3).below hbW3
  have iny2_W3 := iny2.below hbW3
  have HAW3 : Hid (W3 = w3.alloc (.cells #[.slice y2.a0 y2.s.se.length y2.c0, .slice y2.a1 y2.s.ra.length y2.c1, .slice y2.a2 y2.s.fi.length y2.c2, .slice y2.a3 y2.s.co.length y2.c3, .int .i64 y2.s.rf, .int .i64 y2.s.ff, .int .i64 y2.s.ft, .int .i64 y2.s.cf, .int .i64 y2.s.ct] 27)) := hW3
  have HBy2 := hide hBy2
  have Hvy2 : Hid (y2.v = .agg #[.slice y2.a0 y2.s.se.length y2.c0, .slice y2.a1 y2.s.ra.length y2.c1, .slice y2.a2 y2.s.fi.length y2.c2, .slice y2.a3 y2.s.co.length y2.c3, .int .i64 y2.s.rf, .int .i64 y2.s.ff, .int .i64 y2.s.ft, .int .i64 y2.s.cf, .int .i64 y2.s.ct]) := rfl
  rw [Hvy2.out]
  clear hW3 hBy2 hy2 iny2 hbw3 hbW3 belW2'
  obtain ⟨E2, hE2⟩ : ∃ E, E = (Grain.sforg x.s tier tt).2 := ⟨_, rfl⟩
  rw [← hE2]
  have HE2 := hide hE2
  have HSR1 : Hid (E1 = 0 → Grain.SR x.s) := by
    intro h
    rw [HE1.out] at h
    by_cases e : Grain.wrongAt x.s tt = 0
    · exact (Grain.wrongAt_zero e).1
    · unfold Grain.sroll at h; rw [if_pos e] at h; exact absurd h e
  have HSR2 : Hid (E2 = 0 → Grain.SR x.s) := by
    intro h
    rw [HE2.out] at h
    by_cases e : Grain.wrongAt x.s tt = 0
    · exact (Grain.wrongAt_zero e).1
    · unfold Grain.sforg at h; rw [if_pos e] at h; exact absurd h e
  clear hE2 b0 b1 b2 b3 b4 b5 b6 b7 b8
  go_upto_region 5 with fail
  rw [← HAW3.out, ← HBy2.out]
  clear HAW3
  by_cases e1 : E1 = 0
  · rw [e1]
    have T1 : Hid (Grain.sroll y1.s tt = (y1.s, 0)) := by show _ = _; rw [Hy1.out]; exact Grain.sroll_twice (HE1.out.symm.trans e1)
    have SR1 : Hid (Grain.SR y1.s) := by show Grain.SR _; rw [Hy1.out]; exact (Grain.sroll_right (HSR1.out e1) (HE1.out.symm.trans e1)).1
    clear e1
    obtain ⟨p0, p1, p2, p3, p4, p5, p6, p7, p8⟩ := nine_cells Fy1_W3
    go_wp2_with fail
    rw [← Hvy1.out]
    refine (sroll_any y1 tt W3 iny1_W3).mono ?_
    rintro e w4 ⟨y3, rfl, hy3, ioy3, hbw4⟩
    have iny3 := ioy3.shIn
    clear ioy3
    have Hy3 := hide hy3
    have belW3' : Below w.heap.size w w4 := belW3.trans (hbw4.mono belW3.size)
    obtain ⟨W4, hW4⟩ : ∃ W, W = w4.alloc (so y3) := ⟨_, rfl⟩
    obtain ⟨By3, hBy3⟩ : ∃ B, B = w4.heap.size := ⟨_, rfl⟩
    have hbW4 : Below w4.heap.size w4 W4 := by rw [hW4]; exact (Below.refl _ _).alloc (Nat.le_refl _) _
    have belW4 : Below w.heap.size w W4 := belW3'.trans (hbW4.mono belW3'.size)
    have Fy3 : W4.heap[By3]? = some (so y3) := by rw [hW4, hBy3]; exact heap_alloc_new w4 _
    have Fy1_W4 := below_block hbW4 (below_block hbw4 Fy1_W3)
    have Fy2_W4 := below_block hbW4 (below_block hbw4 Fy2)
    have iny1_W4 := (iny1_W3.below hbw4).below hbW4
    have iny2_W4 := (iny2_W3.below hbw4).below hbW4
    have iny3_W4 := iny3.below hbW4
    have HAW4 : Hid (W4 = w4.alloc (.cells #[.slice y3.a0 y3.s.se.length y3.c0, .slice y3.a1 y3.s.ra.length y3.c1, .slice y3.a2 y3.s.fi.length y3.c2, .slice y3.a3 y3.s.co.length y3.c3, .int .i64 y3.s.rf, .int .i64 y3.s.ff, .int .i64 y3.s.ft, .int .i64 y3.s.cf, .int .i64 y3.s.ct] 27)) := hW4
    have HBy3 := hide hBy3
    have Hvy3 : Hid (y3.v = .agg #[.slice y3.a0 y3.s.se.length y3.c0, .slice y3.a1 y3.s.ra.length y3.c1, .slice y3.a2 y3.s.fi.length y3.c2, .slice y3.a3 y3.s.co.length y3.c3, .int .i64 y3.s.rf, .int .i64 y3.s.ff, .int .i64 y3.s.ft, .int .i64 y3.s.cf, .int .i64 y3.s.ct]) := rfl
    rw [Hvy3.out]
    clear hW4 hBy3 hy3 iny3 hbw4 hbW4 belW3'
    rw [T1.out]
    have Hy3' : Hid (y3.s = y1.s) := by show _ = _; rw [Hy3.out, T1.out]
    clear p0 p1 p2 p3 p4 p5 p6 p7 p8 Hy3
    go_upto_region 7 with fail
    rw [← HAW4.out, ← HBy3.out]
    clear HAW4
    obtain ⟨p0, p1, p2, p3, p4, p5, p6, p7, p8⟩ := nine_cells Fy1_W4
    obtain ⟨r0, r1, r2, r3, r4, r5, r6, r7, r8⟩ := nine_cells Fy3
    go_wp2_with fail
    rw [← Hvy1.out, ← Hvy3.out]
    refine (ssame_any y3 y1 W4 iny3_W4 iny1_W4 Hy3'.out.symm (by rw [Hy3'.out]; have := SR1.out.flen; omega) (by rw [Hy3'.out]; have := SR1.out.clen; omega)).mono ?_
    rintro e w5 ⟨rfl, hb5⟩
    have bel5 : Below w.heap.size w w5 := belW4.trans (hb5.mono belW4.size)
    have Fy2_w5 := below_block hb5 Fy2_W4
    have iny2_w5 := iny2_W4.below hb5
    clear p0 p1 p2 p3 p4 p5 p6 p7 p8 r0 r1 r2 r3 r4 r5 r6 r7 r8 hb5 T1 SR1 Hy3'
    by_cases e2 : E2 = 0
    · rw [e2]
      have T2 : Hid (Grain.sforg y2.s tier tt = (y2.s, 0)) := by show _ = _; rw [Hy2.out]; exact Grain.sforg_twice (HE2.out.symm.trans e2)
      have SR2 : Hid (Grain.SR y2.s) := by show Grain.SR _; rw [Hy2.out]; exact (Grain.sforg_right (HSR2.out e2) (HE2.out.symm.trans e2)).1
      clear e2
      obtain ⟨p0, p1, p2, p3, p4, p5, p6, p7, p8⟩ := nine_cells Fy2_w5
      go_wp2_with fail
      rw [← Hvy2.out]
      refine (sforg_any y2 tier tt w5 iny2_w5).mono ?_
      rintro e w6 ⟨y4, rfl, hy4, ioy4, hbw6⟩
      have iny4 := ioy4.shIn
      clear ioy4
      have Hy4 := hide hy4
      have bel5' : Below w.heap.size w w6 := bel5.trans (hbw6.mono bel5.size)
      obtain ⟨V6, hV6⟩ : ∃ W, W = w6.alloc (so y4) := ⟨_, rfl⟩
      obtain ⟨By4, hBy4⟩ : ∃ B, B = w6.heap.size := ⟨_, rfl⟩
      have hbV6 : Below w6.heap.size w6 V6 := by rw [hV6]; exact (Below.refl _ _).alloc (Nat.le_refl _) _
      have belV6 : Below w.heap.size w V6 := bel5'.trans (hbV6.mono bel5'.size)
      have Fy4 : V6.heap[By4]? = some (so y4) := by rw [hV6, hBy4]; exact heap_alloc_new w6 _
      have Fy2_V6 := below_block hbV6 (below_block hbw6 Fy2_w5)
      have iny2_V6 := (iny2_w5.below hbw6).below hbV6
      have iny4_V6 := iny4.below hbV6
      have HAV6 : Hid (V6 = w6.alloc (.cells #[.slice y4.a0 y4.s.se.length y4.c0, .slice y4.a1 y4.s.ra.length y4.c1, .slice y4.a2 y4.s.fi.length y4.c2, .slice y4.a3 y4.s.co.length y4.c3, .int .i64 y4.s.rf, .int .i64 y4.s.ff, .int .i64 y4.s.ft, .int .i64 y4.s.cf, .int .i64 y4.s.ct] 27)) := hV6
      have HBy4 := hide hBy4
      have Hvy4 : Hid (y4.v = .agg #[.slice y4.a0 y4.s.se.length y4.c0, .slice y4.a1 y4.s.ra.length y4.c1, .slice y4.a2 y4.s.fi.length y4.c2, .slice y4.a3 y4.s.co.length y4.c3, .int .i64 y4.s.rf, .int .i64 y4.s.ff, .int .i64 y4.s.ft, .int .i64 y4.s.cf, .int .i64 y4.s.ct]) := rfl
      rw [Hvy4.out]
      clear hV6 hBy4 hy4 iny4 hbw6 hbV6 bel5'
      rw [T2.out]
      have Hy4' : Hid (y4.s = y2.s) := by show _ = _; rw [Hy4.out, T2.out]
      clear p0 p1 p2 p3 p4 p5 p6 p7 p8 Hy4
      go_upto_region 11 with fail
      rw [← HAV6.out, ← HBy4.out]
      obtain ⟨p0, p1, p2, p3, p4, p5, p6, p7, p8⟩ := nine_cells Fy2_V6
      obtain ⟨r0, r1, r2, r3, r4, r5, r6, r7, r8⟩ := nine_cells Fy4
      go_wp2_with fail
      rw [← Hvy2.out, ← Hvy4.out]
      refine (ssame_any y4 y2 V6 iny4_V6 iny2_V6 Hy4'.out.symm (by rw [Hy4'.out]; have := SR2.out.flen; omega) (by rw [Hy4'.out]; have := SR2.out.clen; omega)).mono ?_
      rintro e u6 ⟨rfl, hbu⟩
      have belu : Below w.heap.size w u6 := belV6.trans (hbu.mono belV6.size)
      clear p0 p1 p2 p3 p4 p5 p6 p7 p8 r0 r1 r2 r3 r4 r5 r6 r7 r8
      go_wp2
      go_ret
      exact ⟨rfl, belu⟩
    · have n2 := ne_beq e2
      go_wp2
      go_ret
      exact ⟨rfl, bel5⟩
  · have n1 := ne_beq e1
    have Fy2_W3 := Fy2
    by_cases e2 : E2 = 0
    · rw [e2]
      have T2 : Hid (Grain.sforg y2.s tier tt = (y2.s, 0)) := by show _ = _; rw [Hy2.out]; exact Grain.sforg_twice (HE2.out.symm.trans e2)
      have SR2 : Hid (Grain.SR y2.s) := by show Grain.SR _; rw [Hy2.out]; exact (Grain.sforg_right (HSR2.out e2) (HE2.out.symm.trans e2)).1
      clear e2
      obtain ⟨p0, p1, p2, p3, p4, p5, p6, p7, p8⟩ := nine_cells Fy2_W3
      go_wp2_with fail
      rw [← Hvy2.out]
      refine (sforg_any y2 tier tt W3 iny2_W3).mono ?_
      rintro e w7 ⟨y4, rfl, hy4, ioy4, hbw7⟩
      have iny4 := ioy4.shIn
      clear ioy4
      have Hy4 := hide hy4
      have belW3' : Below w.heap.size w w7 := belW3.trans (hbw7.mono belW3.size)
      obtain ⟨V7, hV7⟩ : ∃ W, W = w7.alloc (so y4) := ⟨_, rfl⟩
      obtain ⟨By4, hBy4⟩ : ∃ B, B = w7.heap.size := ⟨_, rfl⟩
      have hbV7 : Below w7.heap.size w7 V7 := by rw [hV7]; exact (Below.refl _ _).alloc (Nat.le_refl _) _
      have belV7 : Below w.heap.size w V7 := belW3'.trans (hbV7.mono belW3'.size)
      have Fy4 : V7.heap[By4]? = some (so y4) := by rw [hV7, hBy4]; exact heap_alloc_new w7 _
      have Fy2_V7 := below_block hbV7 (below_block hbw7 Fy2_W3)
      have iny2_V7 := (iny2_W3.below hbw7).below hbV7
      have iny4_V7 := iny4.below hbV7
      have HAV7 : Hid (V7 = w7.alloc (.cells #[.slice y4.a0 y4.s.se.length y4.c0, .slice y4.a1 y4.s.ra.length y4.c1, .slice y4.a2 y4.s.fi.length y4.c2, .slice y4.a3 y4.s.co.length y4.c3, .int .i64 y4.s.rf, .int .i64 y4.s.ff, .int .i64 y4.s.ft, .int .i64 y4.s.cf, .int .i64 y4.s.ct] 27)) := hV7
      have HBy4 := hide hBy4
      have Hvy4 : Hid (y4.v = .agg #[.slice y4.a0 y4.s.se.length y4.c0, .slice y4.a1 y4.s.ra.length y4.c1, .slice y4.a2 y4.s.fi.length y4.c2, .slice y4.a3 y4.s.co.length y4.c3, .int .i64 y4.s.rf, .int .i64 y4.s.ff, .int .i64 y4.s.ft, .int .i64 y4.s.cf, .int .i64 y4.s.ct]) := rfl
      rw [Hvy4.out]
      clear hV7 hBy4 hy4 iny4 hbw7 hbV7 belW3'
      rw [T2.out]
      have Hy4' : Hid (y4.s = y2.s) := by show _ = _; rw [Hy4.out, T2.out]
      clear p0 p1 p2 p3 p4 p5 p6 p7 p8 Hy4
      go_upto_region 11 with fail
      rw [← HAV7.out, ← HBy4.out]
      obtain ⟨p0, p1, p2, p3, p4, p5, p6, p7, p8⟩ := nine_cells Fy2_V7
      obtain ⟨r0, r1, r2, r3, r4, r5, r6, r7, r8⟩ := nine_cells Fy4
      go_wp2_with fail
      rw [← Hvy2.out, ← Hvy4.out]
      refine (ssame_any y4 y2 V7 iny4_V7 iny2_V7 Hy4'.out.symm (by rw [Hy4'.out]; have := SR2.out.flen; omega) (by rw [Hy4'.out]; have := SR2.out.clen; omega)).mono ?_
      rintro e u7 ⟨rfl, hbu⟩
      have belu : Below w.heap.size w u7 := belV7.trans (hbu.mono belV7.size)
      clear p0 p1 p2 p3 p4 p5 p6 p7 p8 r0 r1 r2 r3 r4 r5 r6 r7 r8
      go_wp2
      go_ret
      exact ⟨rfl, belu⟩
    · have n2 := ne_beq e2
      go_wp2
      go_ret
      exact ⟨rfl, belW3⟩

end Go.Proofs.Ytcgcefnfelmmkaa
