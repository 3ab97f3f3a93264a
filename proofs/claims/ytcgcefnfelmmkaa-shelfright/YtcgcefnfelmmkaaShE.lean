/-
  The walks of entriesFit, Wrong, wrongAt and isLate.
-/
import Derived.Test.YtcgcefnfelmmkaaShD
import Derived.Deep.CutRange
namespace Go.Proofs.Ytcgcefnfelmmkaa
open Go.RowKit Go.GrainU

set_option maxHeartbeats 1000000 in
theorem efit_any (x : ShT) (w : World) (hx : ShIn w x) :
    Calls Try.prog 22 #[x.v] w fun e w' => e = .returned (.bool (Grain.efit x.s)) ∧ Below w.heap.size w w' := by
  obtain ⟨V, hV⟩ : ∃ V, V = w.alloc (so x) := ⟨_, rfl⟩
  have bel : Below w.heap.size w V := by rw [hV]; exact (Below.refl _ _).alloc (Nat.le_refl _) _
  have hVs : V.heap.size = w.heap.size + 1 := by rw [hV]; simp
  have hB : V.heap[w.heap.size]? = some (so x) := by rw [hV]; exact heap_alloc_new w _
  have hxV := hx.below bel
  obtain ⟨g0, g1, g2, g3, fits, n0, n1, n2, n3, z0, z1, z2, z3⟩ := hxV
  have hE := hide (enters (P := Try.prog) Try.func46 (by kernel_rfl) (by kernel_rfl))
  have hF : ∀ W t v, Below V.heap.size V W → Calls Try.prog 46 (#[.agg #[.int .i64 t, .int .i64 v]] ++ #[.pointer (some ⟨w.heap.size, 0, none⟩)]) W fun e W' => e = .returned (.bool (decide (t < x.s.rf))) ∧ Below W.heap.size W W' := by
    intro W t v hb
    have := ef1_any t v x.s.rf w.heap.size W (nine_cells (below_block hb hB)).2.2.2.2.1
    simpa using this
  have HF := hide hF
  have HE1 : Hid (Grain.efit x.s = ((!x.s.ra.any fun y => decide (y.1 < x.s.rf)) && (Grain.within x.s.fi x.s.ff x.s.ft && Grain.within x.s.co x.s.cf x.s.ct))) := by
    show _ = _
    rw [raw_any]; rfl
  have HN1 := hide (rfl : x.s.ra.length = x.s.ra.length)
  have hc1 : x.s.ra.length ≤ 9223372036854775807 := by omega
  have hc2 : x.s.fi.length ≤ 9223372036854775807 := by omega
  have hc3 : x.s.co.length ≤ 9223372036854775807 := by omega
  obtain ⟨⟨se, ra, fi, co, rf, ff, ft, cf, ct⟩, a0, c0, a1, c1, a2, c2, a3, c3⟩ := x
  simp only at *
  obtain ⟨m0, e0⟩ : ∃ m, m = se.length := ⟨_, rfl⟩
  obtain ⟨m1, e1⟩ : ∃ m, m = ra.length := ⟨_, rfl⟩
  obtain ⟨m2, e2⟩ : ∃ m, m = fi.length := ⟨_, rfl⟩
  obtain ⟨m3, e3⟩ : ∃ m, m = co.length := ⟨_, rfl⟩
  have HV : Hid (V = w.alloc (.cells #[.slice a0 m0 c0, .slice a1 m1 c1, .slice a2 m2 c2, .slice a3 m3 c3, .int .i64 rf, .int .i64 ff, .int .i64 ft, .int .i64 cf, .int .i64 ct] 27)) := by rw [e0, e1, e2, e3]; exact hV
  simp only [ShT.v, ← e0, ← e1, ← e2, ← e3]
  have H1 := hide e1
  have H2 := hide e2
  have H3 := hide e3
  rw [← e1] at hc1
  rw [← e2] at hc2
  rw [← e3] at hc3
  clear e0 e1 e2 e3 hV hF HN1 n0 n1 n2 n3 z0 z1 z2 z3 fits
  go_enter Try.func22, Try.ntmps22
  go_wp2_with fail
  rw [← HV.out]
  refine (scont_any ra (fun t _ => decide (t < rf)) 46 _ a1 m1 c1 V g1 H1.out hc1 hE HF.out).mono ?_
  rintro e w1 ⟨rfl, hb1⟩
  have bel1 : Below w.heap.size w w1 := bel.trans (hb1.mono bel.size)
  obtain ⟨r0, r1, r2, r3, r4, r5, r6, r7, r8⟩ := nine_cells (below_block hb1 hB)
  have B1 := below_block hb1 hB
  have g2' := g2.below hb1
  have g3' := g3.below hb1
  rw [← H2.out] at r2
  rw [← H3.out] at r3
  generalize (ra.any fun x => decide (x.1 < rf)) = A at HE1 ⊢
  clear HF hE HV g0 g1 g2 g3
  cases A
  · go_wp2_with fail
    refine (aw_any fi ff ft a2 m2 c2 w1 g2' H2.out hc2).mono ?_
    rintro e w2 ⟨rfl, hb2⟩
    have bel2 : Below w.heap.size w w2 := bel1.trans (hb2.mono bel1.size)
    obtain ⟨s0, s1, s2, s3, s4, s5, s6, s7, s8⟩ := nine_cells (below_block hb2 B1)
    rw [← H3.out] at s3
    have g3'' := g3'.below hb2
    clear r0 r1 r2 r3 r4 r5 r6 r7 r8
    cases hw : Grain.within fi ff ft
    · have HW := hide hw
      clear hw
      go_wp2
      go_ret
      exact ⟨by rw [HE1.out, HW.out]; rfl, bel2⟩
    · have HW := hide hw
      clear hw
      go_wp2_with fail
      refine (aw_any co cf ct a3 m3 c3 w2 g3'' H3.out hc3).mono ?_
      rintro e w3 ⟨rfl, hb3⟩
      have bel3 : Below w.heap.size w w3 := bel2.trans (hb3.mono bel2.size)
      clear s0 s1 s2 s3 s4 s5 s6 s7 s8
      go_wp2
      go_ret
      exact ⟨by rw [HE1.out, HW.out]; rfl, bel3⟩
  · go_wp2
    go_ret
    exact ⟨by rw [HE1.out]; rfl, bel1⟩

theorem ne_beq {a : Int} (h : a ≠ 0) : (a == 0) = false := by simpa using h

set_option maxHeartbeats 2000000 in
theorem swrong_any (x : ShT) (w : World) (hx : ShIn w x) :
    Calls Try.prog 7 #[x.v] w fun e w' => e = .returned (.int .i64 (Grain.swrong x.s)) ∧ Below w.heap.size w w' := by
  obtain ⟨V, hV⟩ : ∃ V, V = w.alloc (so x) := ⟨_, rfl⟩
  have bel : Below w.heap.size w V := by rw [hV]; exact (Below.refl _ _).alloc (Nat.le_refl _) _
  have hB : V.heap[w.heap.size]? = some (so x) := by rw [hV]; exact heap_alloc_new w _
  have hxV := hx.below bel
  obtain ⟨X, hX⟩ : ∃ X, X = w.heap.size := ⟨_, rfl⟩
  rw [← hX] at hB
  have HX := hide hX
  clear hX
  have HW : Hid (Grain.swrong x.s = if wrongS x.s.se ≠ 0 then wrongS x.s.se else if (Grain.wrong x.s.ra).1 ≠ 0 then (Grain.wrong x.s.ra).1 else if (Grain.wrongB x.s.fi 10).1 ≠ 0 then (Grain.wrongB x.s.fi 10).1 else if (Grain.wrongB x.s.co 60).1 ≠ 0 then (Grain.wrongB x.s.co 60).1 else if (Grain.bfit x.s && Grain.efit x.s) = true then 0 else 8) := rfl
  obtain ⟨y, hy⟩ : ∃ y, y = x := ⟨_, rfl⟩
  obtain ⟨⟨se, ra, fi, co, rf, ff, ft, cf, ct⟩, a0, c0, a1, c1, a2, c2, a3, c3⟩ := x
  obtain ⟨m0, e0⟩ : ∃ m, m = se.length := ⟨_, rfl⟩
  obtain ⟨m1, e1⟩ : ∃ m, m = ra.length := ⟨_, rfl⟩
  obtain ⟨m2, e2⟩ : ∃ m, m = fi.length := ⟨_, rfl⟩
  obtain ⟨m3, e3⟩ : ∃ m, m = co.length := ⟨_, rfl⟩
  have HV : Hid (V = w.alloc (.cells #[.slice a0 m0 c0, .slice a1 m1 c1, .slice a2 m2 c2, .slice a3 m3 c3, .int .i64 rf, .int .i64 ff, .int .i64 ft, .int .i64 cf, .int .i64 ct] 27)) := by rw [e0, e1, e2, e3]; exact hV
  have HY : Hid (∀ W : World, W.heap[X]? = some (so y) → W.cell? ⟨X, 0, none⟩ = some (.slice a0 m0 c0) ∧ W.cell? ⟨X, 1, none⟩ = some (.slice a1 m1 c1) ∧ W.cell? ⟨X, 2, none⟩ = some (.slice a2 m2 c2) ∧ W.cell? ⟨X, 3, none⟩ = some (.slice a3 m3 c3) ∧
      W.cell? ⟨X, 4, none⟩ = some (.int .i64 rf) ∧ W.cell? ⟨X, 5, none⟩ = some (.int .i64 ff) ∧ W.cell? ⟨X, 6, none⟩ = some (.int .i64 ft) ∧ W.cell? ⟨X, 7, none⟩ = some (.int .i64 cf) ∧ W.cell? ⟨X, 8, none⟩ = some (.int .i64 ct)) := by
    intro W h
    rw [e0, e1, e2, e3]
    rw [hy] at h
    exact nine_cells h
  have Hv : Hid (y.v = .agg #[.slice a0 m0 c0, .slice a1 m1 c1, .slice a2 m2 c2, .slice a3 m3 c3, .int .i64 rf, .int .i64 ff, .int .i64 ft, .int .i64 cf, .int .i64 ct]) := by
    show _ = _
    rw [hy, e0, e1, e2, e3]; rfl
  rw [← hy] at hB hxV HW
  have HYs : Hid (y.s.se = se ∧ y.s.ra = ra ∧ y.s.fi = fi ∧ y.s.co = co ∧ y.a0 = a0 ∧ y.a1 = a1 ∧ y.a2 = a2 ∧ y.a3 = a3) := by rw [hy]; exact ⟨rfl, rfl, rfl, rfl, rfl, rfl, rfl, rfl⟩
  rw [HYs.out.1, HYs.out.2.1, HYs.out.2.2.1, HYs.out.2.2.2.1] at HW
  have hg0 : Seg V a0 (lcells se) := by have := hxV.g0; rwa [HYs.out.1, HYs.out.2.2.2.2.1] at this
  have hg1 : Seg V a1 (scells ra) := by have := hxV.g1; rwa [HYs.out.2.1, HYs.out.2.2.2.2.2.1] at this
  have hg2 : Seg V a2 (kcells fi) := by have := hxV.g2; rwa [HYs.out.2.2.1, HYs.out.2.2.2.2.2.2.1] at this
  have hg3 : Seg V a3 (kcells co) := by have := hxV.g3; rwa [HYs.out.2.2.2.1, HYs.out.2.2.2.2.2.2.2] at this
  have hfits : Fits se := by have := hxV.fits; rwa [HYs.out.1] at this
  rw [← hy, Hv.out]
  have H0 := hide e0
  have H1 := hide e1
  have H2 := hide e2
  have H3 := hide e3
  clear e0 e1 e2 e3 hV hy hx
  go_enter Try.func7, Try.ntmps7
  go_wp2_with fail
  rw [← HV.out]
  refine (nwrong_any se a0 m0 c0 V hg0 H0.out hfits).mono ?_
  rintro e w1 ⟨rfl, hb1⟩
  have bel1 : Below w.heap.size w w1 := bel.trans (hb1.mono bel.size)
  have B1 := below_block hb1 hB
  obtain ⟨r0, r1, r2, r3, r4, r5, r6, r7, r8⟩ := HY.out w1 B1
  have hg1a := hg1.below hb1
  have hg2a := hg2.below hb1
  have hg3a := hg3.below hb1
  have hx1 := hxV.below hb1
  rw [← HX.out]
  clear HV hg0 hg1 hg2 hg3 hxV hb1 hB bel
  by_cases z1 : wrongS se = 0
  · rw [z1] at HW ⊢
    clear z1
    go_wp2_with fail
    refine (wrong_len ra a1 m1 c1 w1 hg1a H1.out).mono ?_
    rintro e w2 ⟨rfl, hb2⟩
    have bel2 : Below w.heap.size w w2 := bel1.trans (hb2.mono bel1.size)
    have B2 := below_block hb2 B1
    have hg2b := hg2a.below hb2
    have hg3b := hg3a.below hb2
    have hx2 := hx1.below hb2
    obtain ⟨F2, f2⟩ : ∃ z, z = (Grain.wrong ra).2 := ⟨_, rfl⟩
    obtain ⟨F1, f1⟩ : ∃ z, z = (Grain.wrong ra).1 := ⟨_, rfl⟩
    rw [← f1] at HW
    rw [← f1, ← f2]
    obtain ⟨W2, hW2⟩ : ∃ W, W = w2.alloc (.cells #[.int .i64 F1, .int .i64 F2] 55) := ⟨_, rfl⟩
    have hbW : Below w2.heap.size w2 W2 := by rw [hW2]; exact (Below.refl _ _).alloc (Nat.le_refl _) _
    have bel3 : Below w.heap.size w W2 := bel2.trans (hbW.mono bel2.size)
    have B3 := below_block hbW B2
    have hg2c := hg2b.below hbW
    have hg3c := hg3b.below hbW
    have hx3 := hx2.below hbW
    obtain ⟨q0, q1, q2, q3, q4, q5, q6, q7, q8⟩ := HY.out W2 B3
    have p0 : W2.cell? ⟨w2.heap.size, 0, none⟩ = some (.int .i64 F1) := by rw [hW2]; simp
    have HW2 := hide hW2
    clear f1 f2 hb2 r0 r1 r2 r3 r4 r5 r6 r7 r8 hg1a hg2a hg3a hg2b hg3b hW2 hbW B1 B2 hx1 hx2 bel1
    go_upto_region 5 with fail
    rw [← HW2.out]
    by_cases z2 : F1 = 0
    · rw [z2] at HW p0
      clear z2
      go_wp2_with fail
      refine (kwrong_any fi a2 m2 c2 1 W2 hg2c H2.out).mono ?_
      rintro e w3 ⟨rfl, hb3⟩
      have es : stepOf 1 = 10 := rfl
      rw [es]
      clear es
      have bel4 : Below w.heap.size w w3 := bel3.trans (hb3.mono bel3.size)
      have B4 := below_block hb3 B3
      have hg3d := hg3c.below hb3
      have hx4 := hx3.below hb3
      obtain ⟨G2, k2⟩ : ∃ z, z = (Grain.wrongB fi 10).2 := ⟨_, rfl⟩
      obtain ⟨G1, k1⟩ : ∃ z, z = (Grain.wrongB fi 10).1 := ⟨_, rfl⟩
      rw [← k1] at HW
      rw [← k1, ← k2]
      obtain ⟨W3, hW3⟩ : ∃ W, W = w3.alloc (.cells #[.int .i64 G1, .int .i64 G2] 55) := ⟨_, rfl⟩
      have hbW3 : Below w3.heap.size w3 W3 := by rw [hW3]; exact (Below.refl _ _).alloc (Nat.le_refl _) _
      have bel5 : Below w.heap.size w W3 := bel4.trans (hbW3.mono bel4.size)
      have B5 := below_block hbW3 B4
      have hg3e := hg3d.below hbW3
      have hx5 := hx4.below hbW3
      obtain ⟨s0, s1, s2, s3, s4, s5, s6, s7, s8⟩ := HY.out W3 B5
      have p3 : W3.cell? ⟨w3.heap.size, 0, none⟩ = some (.int .i64 G1) := by rw [hW3]; simp
      have HW3 := hide hW3
      clear k1 k2 hb3 q0 q1 q2 q3 q4 q5 q6 q7 q8 hg2c hg3c hg3d hW3 hbW3 B3 B4 hx3 hx4 bel3 bel4 p0 HW2
      go_upto_region 8 with fail
      rw [← HW3.out]
      by_cases z3 : G1 = 0
      · rw [z3] at HW p3
        clear z3
        go_wp2_with fail
        refine (kwrong_any co a3 m3 c3 2 W3 hg3e H3.out).mono ?_
        rintro e w4 ⟨rfl, hb4⟩
        have es : stepOf 2 = 60 := rfl
        rw [es]
        clear es
        have bel6 : Below w.heap.size w w4 := bel5.trans (hb4.mono bel5.size)
        have B6 := below_block hb4 B5
        have hx6 := hx5.below hb4
        obtain ⟨K2, k2⟩ : ∃ z, z = (Grain.wrongB co 60).2 := ⟨_, rfl⟩
        obtain ⟨K1, k1⟩ : ∃ z, z = (Grain.wrongB co 60).1 := ⟨_, rfl⟩
        rw [← k1] at HW
        rw [← k1, ← k2]
        obtain ⟨W4, hW4⟩ : ∃ W, W = w4.alloc (.cells #[.int .i64 K1, .int .i64 K2] 55) := ⟨_, rfl⟩
        have hbW4 : Below w4.heap.size w4 W4 := by rw [hW4]; exact (Below.refl _ _).alloc (Nat.le_refl _) _
        have bel7 : Below w.heap.size w W4 := bel6.trans (hbW4.mono bel6.size)
        have B7 := below_block hbW4 B6
        have hx7 := hx6.below hbW4
        obtain ⟨t0, t1, t2, t3, t4, t5, t6, t7, t8⟩ := HY.out W4 B7
        have p4 : W4.cell? ⟨w4.heap.size, 0, none⟩ = some (.int .i64 K1) := by rw [hW4]; simp
        have HW4 := hide hW4
        clear k1 k2 hb4 s0 s1 s2 s3 s4 s5 s6 s7 s8 hg3e hW4 hbW4 B5 B6 hx5 hx6 bel5 bel6 p3 HW3
        go_upto_region 11 with fail
        rw [← HW4.out]
        by_cases z4 : K1 = 0
        · rw [z4] at HW p4
          clear z4
          have HW' : Hid (Grain.swrong y.s = if (Grain.bfit y.s && Grain.efit y.s) = true then 0 else 8) := by
            show _ = _
            rw [HW.out]; simp
          clear HW
          go_wp2_with fail
          rw [← Hv.out]
          refine (bfit_any y W4).mono ?_
          rintro e w5 ⟨rfl, hb5⟩
          have bel8 : Below w.heap.size w w5 := bel7.trans (hb5.mono bel7.size)
          have B8 := below_block hb5 B7
          have hx8 := hx7.below hb5
          obtain ⟨u0, u1, u2, u3, u4, u5, u6, u7, u8⟩ := HY.out w5 B8
          clear hb5 t0 t1 t2 t3 t4 t5 t6 t7 t8 B7 hx7 bel7 p4 HW4
          generalize Grain.bfit y.s = A at HW' ⊢
          cases A
          · go_wp2
            go_ret
            exact ⟨by rw [HW'.out]; rfl, bel8⟩
          · go_wp2_with fail
            rw [← Hv.out]
            refine (efit_any y w5 hx8).mono ?_
            rintro e w6 ⟨rfl, hb6⟩
            have bel9 : Below w.heap.size w w6 := bel8.trans (hb6.mono bel8.size)
            clear hb6 u0 u1 u2 u3 u4 u5 u6 u7 u8 B8 hx8 bel8
            generalize Grain.efit y.s = A at HW' ⊢
            cases A
            · go_wp2
              go_ret
              exact ⟨by rw [HW'.out]; rfl, bel9⟩
            · go_wp2
              go_ret
              exact ⟨by rw [HW'.out]; rfl, bel9⟩
        · have n4 := ne_beq z4
          go_wp2
          go_ret
          exact ⟨by rw [HW.out, if_neg (by simp), if_neg (by simp), if_neg (by simp), if_pos z4]; rfl, bel7⟩
      · have n3 := ne_beq z3
        go_wp2
        go_ret
        exact ⟨by rw [HW.out, if_neg (by simp), if_neg (by simp), if_pos z3]; rfl, bel5⟩
    · have n2 := ne_beq z2
      go_wp2
      go_ret
      exact ⟨by rw [HW.out, if_neg (by simp), if_pos z2]; rfl, bel3⟩
  · have n1 := ne_beq z1
    have HW' : Hid (Grain.swrong y.s = wrongS se) := by show _ = _; rw [HW.out, if_pos z1]
    generalize wrongS se = E1 at HW' n1 ⊢
    clear HW z1
    go_wp2
    go_ret
    exact ⟨by rw [HW'.out]; rfl, bel1⟩

end Go.Proofs.Ytcgcefnfelmmkaa
