/-
  The walk of the document's Wrong of a shelf.
-/
import Derived.Test.YtfgablhgjbjbkaeShE
import Derived.Test.YtfgablhgjbjbkaeRefWrong
import Derived.Test.YtfgablhgjbjbkaeRefWrongS
import Derived.Test.YtfgablhgjbjbkaeRefWB
import Derived.Deep.CutRange
namespace Go.GrainU

theorem all_take1 {α : Type} (p : α → Bool) {l : List α} {k : Nat} (h : k < l.length) : (l.take (k + 1)).all p = ((l.take k).all p && p l[k]) := by
  rw [List.take_add_one, List.getElem?_eq_getElem h, List.all_append]
  simp

end Go.GrainU
namespace Go.Proofs.Ytfgablhgjbjbkae
open Go.RowKit Go.GrainU

set_option maxRecDepth 100000 in
set_option maxHeartbeats 8000000 in
theorem rshwrong_any (x : ShT) (w : World) (hx : ShIn w x) :
    Calls Try.prog 13 #[x.v] w fun e w' => e = .returned (.int .i64 (Grain.swrong x.s)) ∧ Below w.heap.size w w' := by
  obtain ⟨V, hV⟩ : ∃ V, V = w.alloc (so x) := ⟨_, rfl⟩
  have bel : Below w.heap.size w V := by rw [hV]; exact (Below.refl _ _).alloc (Nat.le_refl _) _
  have hB : V.heap[w.heap.size]? = some (so x) := by rw [hV]; exact heap_alloc_new w _
  have hxV := hx.below bel
  obtain ⟨X, hX⟩ : ∃ X, X = w.heap.size := ⟨_, rfl⟩
  rw [← hX] at hB
  have HX := hide hX
  clear hX
  have HW : Hid (Grain.swrong x.s = if wrongS x.s.se ≠ 0 then wrongS x.s.se else if (Grain.wrong x.s.ra).1 ≠ 0 then (Grain.wrong x.s.ra).1 else if (Grain.wrongB x.s.fi 10).1 ≠ 0 then (Grain.wrongB x.s.fi 10).1 else if (Grain.wrongB x.s.co 60).1 ≠ 0 then (Grain.wrongB x.s.co 60).1 else if (Grain.bfit x.s && Grain.efit x.s) = true then 0 else 8) := rfl
  obtain ⟨y, hy⟩ : ∃ y, y = x := ⟨_, rfl⟩
  obtain ⟨⟨se, ra, fi, co, rf, ff, ft, cf, ct⟩, a0, c0, a1, c1, a2, c2, a3, c3⟩ := x
  obtain ⟨m0, e0⟩ : ∃ m, m = se.length := ⟨_, rfl⟩
  obtain ⟨m1, e1⟩ : ∃ m, m = ra.length := ⟨_, rfl⟩
  obtain ⟨m2, e2⟩ : ∃ m, m = fi.length := ⟨_, rfl⟩
  obtain ⟨m3, e3⟩ : ∃ m, m = co.length := ⟨_, rfl⟩
  have HV : Hid (V = w.alloc (.cells #[.slice a0 m0 c0, .slice a1 m1 c1, .slice a2 m2 c2, .slice a3 m3 c3, .int .i64 rf, .int .i64 ff, .int .i64 ft, .int .i64 cf, .int .i64 ct] 44)) := by rw [e0, e1, e2, e3]; exact hV
  have HY : Hid (∀ W : World, W.heap[X]? = some (so y) → W.cell? ⟨X, 0, none⟩ = some (.slice a0 m0 c0) ∧ W.cell? ⟨X, 1, none⟩ = some (.slice a1 m1 c1) ∧ W.cell? ⟨X, 2, none⟩ = some (.slice a2 m2 c2) ∧ W.cell? ⟨X, 3, none⟩ = some (.slice a3 m3 c3) ∧
      W.cell? ⟨X, 4, none⟩ = some (.int .i64 rf) ∧ W.cell? ⟨X, 5, none⟩ = some (.int .i64 ff) ∧ W.cell? ⟨X, 6, none⟩ = some (.int .i64 ft) ∧ W.cell? ⟨X, 7, none⟩ = some (.int .i64 cf) ∧ W.cell? ⟨X, 8, none⟩ = some (.int .i64 ct)) := by
    intro W h
    rw [e0, e1, e2, e3]
    rw [hy] at h
    exact nine_cells h
  have Hv : Hid (y.v = .agg #[.slice a0 m0 c0, .slice a1 m1 c1, .slice a2 m2 c2, .slice a3 m3 c3, .int .i64 rf, .int .i64 ff, .int .i64 ft, .int .i64 cf, .int .i64 ct]) := by
    show _ = _
    rw [hy, e0, e1, e2, e3]; rfl
  rw [← hy] at hB hxV HW
  have HYs : Hid (y.s.se = se ∧ y.s.ra = ra ∧ y.s.fi = fi ∧ y.s.co = co ∧ y.a0 = a0 ∧ y.a1 = a1 ∧ y.a2 = a2 ∧ y.a3 = a3) := by rw [hy]; exact ⟨rfl, rfl, rfl, rfl, rfl, rfl, rfl, rfl⟩
  have HYb : Hid (y.s = ⟨se, ra, fi, co, rf, ff, ft, cf, ct⟩) := by show _ = _; rw [hy]
  rw [HYs.out.1, HYs.out.2.1, HYs.out.2.2.1, HYs.out.2.2.2.1] at HW
  have hg0 : Seg V a0 (lcells se) := by have := hxV.g0; rwa [HYs.out.1, HYs.out.2.2.2.2.1] at this
  have hg1 : Seg V a1 (scells ra) := by have := hxV.g1; rwa [HYs.out.2.1, HYs.out.2.2.2.2.2.1] at this
  have hg2 : Seg V a2 (kcells fi) := by have := hxV.g2; rwa [HYs.out.2.2.1, HYs.out.2.2.2.2.2.2.1] at this
  have hg3 : Seg V a3 (kcells co) := by have := hxV.g3; rwa [HYs.out.2.2.2.1, HYs.out.2.2.2.2.2.2.2] at this
  have hfits : Fits se := by have := hxV.fits; rwa [HYs.out.1] at this
  rw [← hy, Hv.out]
  have H0 := hide e0
  have H1 := hide e1
  have H2 := hide e2
  have H3 := hide e3
  clear e0 e1 e2 e3 hV hy hx
  go_enter Try.func13, Try.ntmps13
  go_wp2_with fail
  rw [← HV.out]
  refine (rwrongs_any se a0 m0 c0 V hg0 H0.out hfits).mono ?_
  rintro e w1 ⟨rfl, hb1⟩
  have bel1 : Below w.heap.size w w1 := bel.trans (hb1.mono bel.size)
  have B1 := below_block hb1 hB
  obtain ⟨r0, r1, r2, r3, r4, r5, r6, r7, r8⟩ := HY.out w1 B1
  have hg1a := hg1.below hb1
  have hg2a := hg2.below hb1
  have hg3a := hg3.below hb1
  have hx1 := hxV.below hb1
  rw [← HX.out]
  clear HV hg0 hg1 hg2 hg3 hxV hb1 hB bel
  by_cases z1 : wrongS se = 0
  · rw [z1] at HW ⊢
    clear z1
    go_wp2_with fail
    refine (rwrong_any ra a1 m1 c1 w1 hg1a H1.out).mono ?_
    rintro e w2 ⟨rfl, hb2⟩
    have bel2 : Below w.heap.size w w2 := bel1.trans (hb2.mono bel1.size)
    have B2 := below_block hb2 B1
    have hg2b := hg2a.below hb2
    have hg3b := hg3a.below hb2
    have hx2 := hx1.below hb2
    obtain ⟨F2, f2⟩ : ∃ z, z = (Grain.wrong ra).2 := ⟨_, rfl⟩
    obtain ⟨F1, f1⟩ : ∃ z, z = (Grain.wrong ra).1 := ⟨_, rfl⟩
    rw [← f1] at HW
    rw [← f1, ← f2]
    obtain ⟨W2, hW2⟩ : ∃ W, W = w2.alloc (.cells #[.int .i64 F1, .int .i64 F2] 78) := ⟨_, rfl⟩
    have hbW : Below w2.heap.size w2 W2 := by rw [hW2]; exact (Below.refl _ _).alloc (Nat.le_refl _) _
    have bel3 : Below w.heap.size w W2 := bel2.trans (hbW.mono bel2.size)
    have B3 := below_block hbW B2
    have hg2c := hg2b.below hbW
    have hg3c := hg3b.below hbW
    have hx3 := hx2.below hbW
    obtain ⟨q0, q1, q2, q3, q4, q5, q6, q7, q8⟩ := HY.out W2 B3
    have p0 : W2.cell? ⟨w2.heap.size, 0, none⟩ = some (.int .i64 F1) := by rw [hW2]; simp
    have HW2 := hide hW2
    clear f1 f2 hb2 r0 r1 r2 r3 r4 r5 r6 r7 r8 hg1a hg2a hg3a hg2b hg3b hW2 hbW B1 B2 hx1 hx2 bel1
    go_upto_region 5 with fail
    rw [← HW2.out]
    by_cases z2 : F1 = 0
    · rw [z2] at HW p0
      clear z2
      go_wp2_with fail
      refine (rwb_any fi a2 m2 c2 1 W2 hg2c H2.out).mono ?_
      rintro e w3 ⟨rfl, hb3⟩
      have es : stepOf 1 = 10 := rfl
      rw [es]
      clear es
      have bel4 : Below w.heap.size w w3 := bel3.trans (hb3.mono bel3.size)
      have B4 := below_block hb3 B3
      have hg3d := hg3c.below hb3
      have hx4 := hx3.below hb3
      obtain ⟨G2, k2⟩ : ∃ z, z = (Grain.wrongB fi 10).2 := ⟨_, rfl⟩
      obtain ⟨G1, k1⟩ : ∃ z, z = (Grain.wrongB fi 10).1 := ⟨_, rfl⟩
      rw [← k1] at HW
      rw [← k1, ← k2]
      obtain ⟨W3, hW3⟩ : ∃ W, W = w3.alloc (.cells #[.int .i64 G1, .int .i64 G2] 78) := ⟨_, rfl⟩
      have hbW3 : Below w3.heap.size w3 W3 := by rw [hW3]; exact (Below.refl _ _).alloc (Nat.le_refl _) _
      have bel5 : Below w.heap.size w W3 := bel4.trans (hbW3.mono bel4.size)
      have B5 := below_block hbW3 B4
      have hg3e := hg3d.below hbW3
      have hx5 := hx4.below hbW3
      obtain ⟨s0, s1, s2, s3, s4, s5, s6, s7, s8⟩ := HY.out W3 B5
      have p3 : W3.cell? ⟨w3.heap.size, 0, none⟩ = some (.int .i64 G1) := by rw [hW3]; simp
      have HW3 := hide hW3
      clear k1 k2 hb3 q0 q1 q2 q3 q4 q5 q6 q7 q8 hg2c hg3c hg3d hW3 hbW3 B3 B4 hx3 hx4 bel3 bel4 p0 HW2
      go_upto_region 8 with fail
      rw [← HW3.out]
      by_cases z3 : G1 = 0
      · rw [z3] at HW p3
        clear z3
        go_wp2_with fail
        refine (rwb_any co a3 m3 c3 2 W3 hg3e H3.out).mono ?_
        rintro e w4 ⟨rfl, hb4⟩
        have es : stepOf 2 = 60 := rfl
        rw [es]
        clear es
        have bel6 : Below w.heap.size w w4 := bel5.trans (hb4.mono bel5.size)
        have B6 := below_block hb4 B5
        have hx6 := hx5.below hb4
        obtain ⟨K2, k2⟩ : ∃ z, z = (Grain.wrongB co 60).2 := ⟨_, rfl⟩
        obtain ⟨K1, k1⟩ : ∃ z, z = (Grain.wrongB co 60).1 := ⟨_, rfl⟩
        rw [← k1] at HW
        rw [← k1, ← k2]
        obtain ⟨W4, hW4⟩ : ∃ W, W = w4.alloc (.cells #[.int .i64 K1, .int .i64 K2] 78) := ⟨_, rfl⟩
        have hbW4 : Below w4.heap.size w4 W4 := by rw [hW4]; exact (Below.refl _ _).alloc (Nat.le_refl _) _
        have bel7 : Below w.heap.size w W4 := bel6.trans (hbW4.mono bel6.size)
        have B7 := below_block hbW4 B6
        have hx7 := hx6.below hbW4
        obtain ⟨t0, t1, t2, t3, t4, t5, t6, t7, t8⟩ := HY.out W4 B7
        have p4 : W4.cell? ⟨w4.heap.size, 0, none⟩ = some (.int .i64 K1) := by rw [hW4]; simp
        have HW4 := hide hW4
        clear k1 k2 hb4 s0 s1 s2 s3 s4 s5 s6 s7 s8 hg3e hW4 hbW4 B5 B6 hx5 hx6 bel5 bel6 p3 HW3
        go_upto_region 11 with fail
        rw [← HW4.out]
        by_cases z4 : K1 = 0
        · rw [z4] at HW p4
          clear z4
          have HW' : Hid (Grain.swrong y.s = if (Grain.bfit y.s && Grain.efit y.s) = true then 0 else 8) := by
            show _ = _
            rw [HW.out]; simp
          clear HW
          obtain ⟨A1, hA1⟩ : ∃ A, A = Grain.span ff ft 10 := ⟨_, rfl⟩
          obtain ⟨A2, hA2⟩ : ∃ A, A = Grain.span cf ct 60 := ⟨_, rfl⟩
          obtain ⟨A3, hA3⟩ : ∃ A, A = decide (0 ≤ rf ∧ rf ≤ ft ∧ ff ≤ ct ∧ ct ≤ ft) := ⟨_, rfl⟩
          have HA1 := hide hA1
          have HA2 := hide hA2
          have HA3 := hide hA3
          have HF : Hid ((Grain.bfit y.s && Grain.efit y.s) = ((A1 && (A2 && A3)) && ((ra.all fun x => decide (rf ≤ x.1)) && (Grain.within fi ff ft && Grain.within co cf ct)))) := by
            show _ = _
            rw [hA1, hA2, hA3, HYb.out]
            rfl
          rw [HF.out] at HW'
          clear hA1 hA2 hA3 HF
          go_upto_region 13 with fail
          go_cut [7] from 44 to 70 (fun v wx => v = .bool A1 ∧ wx = W4)
          case first =>
            go_wp2_with fail
            all_goals
              go_meet
              refine ⟨?_, rfl⟩
              first | (rw [HA1.out]; done) | (rw [HA1.out]; refine congrArg Value.bool ?_; (rw [Bool.eq_iff_iff]) <;> simp [Grain.span] <;> try omega)
          case rest =>
          obtain ⟨rfl, hwc⟩ := hcut
          rw [hwc]
          clear hwc
          go_upto_region 14 with fail
          go_cut [7] from 71 to 100 (fun v wx => v = .bool (A1 && A2) ∧ wx = W4)
          case first =>
            rcases Bool.eq_false_or_eq_true A1 with h1 | h1 <;> rw [h1]
            all_goals
              go_wp2_with fail
              all_goals
                go_meet
                refine ⟨?_, rfl⟩
                rw [h1]
                first | rfl | (rw [HA2.out]; done) | (rw [HA2.out]; refine congrArg Value.bool ?_; (rw [Bool.eq_iff_iff]) <;> simp [Grain.span] <;> try omega)
          case rest =>
          obtain ⟨rfl, hwc⟩ := hcut
          rw [hwc]
          clear hwc
          obtain ⟨A, hA⟩ : ∃ A, A = (A1 && A2) := ⟨_, rfl⟩
          obtain ⟨G, hG⟩ : ∃ G, G = (A && A3) := ⟨_, rfl⟩
          rw [← hA]
          have HG := hide hG
          have HWG : Hid (Grain.swrong y.s = if (G && ((ra.all fun x => decide (rf ≤ x.1)) && (Grain.within fi ff ft && Grain.within co cf ct))) = true then 0 else 8) := by
            show _ = _
            rw [HW'.out, hG, hA, ← Bool.and_assoc A1 A2 A3]
          clear hA hG HW' HA1 HA2
          go_upto_region 15 with fail
          go_cut [7] from 101 to 127 (fun v wx => v = .bool G ∧ wx = W4)
          case first =>
            rcases Bool.eq_false_or_eq_true A with h1 | h1 <;> rw [h1] at HG ⊢
            all_goals
              go_wp2_with fail
              all_goals
                go_meet
                refine ⟨?_, rfl⟩
                rw [HG.out]
                first | rfl | (rw [HA3.out]; done) | (rw [HA3.out]; refine congrArg Value.bool ?_; (rw [Bool.eq_iff_iff]) <;> simp <;> try omega)
          case rest =>
          obtain ⟨rfl, hwc⟩ := hcut
          rw [hwc]
          clear hwc HG HA3 t0 t1 t2 t3 t4 t5 t6 t7 t8
          have hg1 : Seg W4 a1 (scells ra) := by have := hx7.g1; rwa [HYs.out.2.1, HYs.out.2.2.2.2.2.1] at this
          have hg2 : Seg W4 a2 (kcells fi) := by have := hx7.g2; rwa [HYs.out.2.2.1, HYs.out.2.2.2.2.2.2.1] at this
          have hg3 : Seg W4 a3 (kcells co) := by have := hx7.g3; rwa [HYs.out.2.2.2.1, HYs.out.2.2.2.2.2.2.2] at this
          have HWG2 : Hid (Grain.swrong y.s = if (((G && ra.all fun x => decide (rf ≤ x.1)) && Grain.within fi ff ft) && Grain.within co cf ct) = true then 0 else 8) := by
            show _ = _
            rw [HWG.out, Bool.and_assoc, Bool.and_assoc]
          obtain ⟨t0, t1, t2, t3, t4, t5, t6, t7, t8⟩ := HY.out W4 B7
          have hm1 : m1 ≤ 9223372036854775806 := by have h1 := H1.out; have h2 := hx7.n1; rw [HYs.out.2.1] at h2; omega
          have hm2 : m2 ≤ 9223372036854775806 := by have h1 := H2.out; have h2 := hx7.n2; rw [HYs.out.2.2.1] at h2; omega
          have hm3 : m3 ≤ 9223372036854775806 := by have h1 := H3.out; have h2 := hx7.n3; rw [HYs.out.2.2.2.1] at h2; omega
          clear hx7 HWG p4 HW4
          go_wp2_with fail
          go_loopw [7, 131] (fun v i wr => ∃ k : Nat, k ≤ m1 ∧ i = .int .i64 k ∧ v = .bool (G && (ra.take k).all fun x => decide (rf ≤ x.1)) ∧ Below W4.heap.size W4 wr) (fun _ i _ => m1 - (intOf i).toNat)
          case atStart => exact ⟨0, Nat.zero_le _, rfl, by simp, Below.refl _ _⟩
          case round =>
          clear t0 t1 t2 t3 t4 t5 t6 t7 t8
          obtain ⟨k, hk, rfl, rfl, bel8⟩ := hrel
          by_cases hlt : k < m1
          · have hkl : k < ra.length := by rw [← H1.out]; exact hlt
            obtain ⟨b, off, rfl, hcell⟩ := hg1.sample hkl
            have hbl : b < W4.heap.size := World.block_lt_of_cell? W4 ⟨b, off + k * 2, none⟩ (hcell k hkl).1
            obtain ⟨T, hT⟩ : ∃ T, T = Grain.tm ra k := ⟨_, rfl⟩
            obtain ⟨U, hU⟩ : ∃ U, U = Grain.vl ra k := ⟨_, rfl⟩
            have e0 : wr.cell? ⟨b, off + k * 2, none⟩ = some (.int .i64 T) := by rw [hT]; exact (bel8.cell (by exact hbl)).trans (hcell k hkl).1
            have e1 : wr.cell? ⟨b, off + k * 2 + 1, none⟩ = some (.int .i64 U) := by rw [hU]; exact (bel8.cell (by exact hbl)).trans (hcell k hkl).2
            have hAk : ra[k] = (T, U) := by rw [hT, hU, (Grain.tm_get hkl).1, (Grain.tm_get hkl).2]
            obtain ⟨D, hD⟩ : ∃ D, D = decide (rf ≤ T) := ⟨_, rfl⟩
            obtain ⟨P, hP⟩ : ∃ P, P = (G && (ra.take k).all fun x => decide (rf ≤ x.1)) := ⟨_, rfl⟩
            have HT : Hid ((G && (ra.take (k + 1)).all fun x => decide (rf ≤ x.1)) = (P && D)) := by
              show _ = _
              rw [all_take1 _ hkl, hAk, hP, hD, Bool.and_assoc]
            rw [← hP]
            have HD := hide hD
            obtain ⟨Y, hY⟩ : ∃ Y, Y = wr.heap.size := ⟨_, rfl⟩
            obtain ⟨W5, hW5⟩ : ∃ W, W = wr.alloc (.cells #[.int .i64 T, .int .i64 U] 35) := ⟨_, rfl⟩
            have Z : W5.heap[Y]? = some (.cells #[.int .i64 T, .int .i64 U] 35 (0, 0)) := by rw [hW5, hY]; exact heap_alloc_new wr _
            have bel9 : Below W4.heap.size W4 W5 := by rw [hW5]; exact bel8.alloc bel8.size _
            have HW5 := hide hW5
            have HYz := hide hY
            clear hD hP hAk hT hU hcell hkl hY hW5 bel8
            go_upto_region 19 with fail
            rw [← HW5.out, ← HYz.out]
            clear HW5 HYz e0 e1
            obtain ⟨u0, u1, _, _⟩ := two_cells Z
            obtain ⟨t0, t1, t2, t3, t4, t5, t6, t7, t8⟩ := HY.out W5 (below_block bel9 B7)
            rcases Bool.eq_false_or_eq_true P with h1 | h1 <;> rw [h1] at HT ⊢
            all_goals
              go_wp2
              all_goals
                go_roundw
                case rel => exact ⟨k + 1, by omega, by go_num, by rw [HT.out]; first | rfl | (rw [HD.out]; done) | (rw [HD.out]; refine congrArg Value.bool ?_; (rw [Bool.eq_iff_iff]) <;> simp <;> try omega), bel9⟩
                case measure => simp [intOf]; omega
          · have he : k = m1 := by omega
            have HT : Hid ((ra.take k).all (fun x => decide (rf ≤ x.1)) = ra.all fun x => decide (rf ≤ x.1)) := by
              show _ = _
              rw [List.take_of_length_le (by rw [← H1.out]; omega)]
            rw [HT.out]
            obtain ⟨G2, hG2⟩ : ∃ G2, G2 = (G && ra.all fun x => decide (rf ≤ x.1)) := ⟨_, rfl⟩
            rw [← hG2] at HWG2 ⊢
            clear HT hG2 hg1
            obtain ⟨t0, t1, t2, t3, t4, t5, t6, t7, t8⟩ := HY.out wr (below_block bel8 B7)
            go_wp2_with fail
            go_loopw [7, 147] (fun v i wr => ∃ k : Nat, k ≤ m2 ∧ i = .int .i64 k ∧ v = .bool (G2 && Grain.within (fi.take k) ff ft) ∧ Below W4.heap.size W4 wr) (fun _ i _ => m2 - (intOf i).toNat)
            case atStart => exact ⟨0, Nat.zero_le _, rfl, by simp [Grain.within], bel8⟩
            case round =>
            clear t0 t1 t2 t3 t4 t5 t6 t7 t8 bel8
            obtain ⟨k, hk, rfl, rfl, belA⟩ := hrel
            by_cases hlt : k < m2
            · have hkl : k < fi.length := by rw [← H2.out]; exact hlt
              obtain ⟨b, off, rfl, hbl, hcell⟩ := seg_bucket hg2 hkl
              obtain ⟨K, hK⟩ : ∃ K, K = Grain.bk fi k := ⟨_, rfl⟩
              have q := (hcell k hkl).below belA hbl
              rw [← hK] at q
              obtain ⟨c0, c1, c2, c3, c4, c5, c6, c7⟩ := q
              obtain ⟨D, hD⟩ : ∃ D, D = decide (ff ≤ K.a ∧ K.a < ft) := ⟨_, rfl⟩
              obtain ⟨P, hP⟩ : ∃ P, P = (G2 && Grain.within (fi.take k) ff ft) := ⟨_, rfl⟩
              have HT : Hid ((G2 && Grain.within (fi.take (k + 1)) ff ft) = (P && D)) := by
                show _ = _
                unfold Grain.within at hP ⊢
                rw [all_take1 _ hkl, hP, hD, hK, Grain.bk_get hkl, Bool.and_assoc]
              rw [← hP]
              have HD := hide hD
              obtain ⟨Y, hY⟩ : ∃ Y, Y = wr.heap.size := ⟨_, rfl⟩
              obtain ⟨W5, hW5⟩ : ∃ W, W = wr.alloc (ko K) := ⟨_, rfl⟩
              have Z : W5.heap[Y]? = some (ko K) := by rw [hW5, hY]; exact heap_alloc_new wr _
              have bel9 : Below W4.heap.size W4 W5 := by rw [hW5]; exact belA.alloc belA.size _
              have HW5 : Hid (W5 = wr.alloc (.cells #[.int .i64 K.a, .int .i64 K.s.c, .int .i64 K.s.t, .int .i64 K.s.mn, .int .i64 K.s.mx, .int .i64 K.s.f, .int .i64 K.s.l, .int .i64 K.s.r] 90)) := hW5
              have HYz := hide hY
              clear hD hP hK hcell hkl hY hW5 belA
              go_upto_region 24 with fail
              rw [← HW5.out, ← HYz.out]
              clear HW5 HYz c0 c1 c2 c3 c4 c5 c6 c7
              obtain ⟨p0, p1, p2, p3, p4, p5, p6, p7⟩ := eight_cells Z
              obtain ⟨t0, t1, t2, t3, t4, t5, t6, t7, t8⟩ := HY.out W5 (below_block bel9 B7)
              rcases Bool.eq_false_or_eq_true P with h1 | h1 <;> rw [h1] at HT ⊢
              · by_cases d1 : ff ≤ K.a
                · have e1 : decide (ff ≤ K.a) = true := decide_eq_true d1
                  by_cases d2 : K.a < ft
                  · have e2 : decide (K.a < ft) = true := decide_eq_true d2
                    have HT' : Hid ((G2 && Grain.within (fi.take (k + 1)) ff ft) = true) := by show _ = _; rw [HT.out, HD.out, decide_eq_true ⟨d1, d2⟩]; rfl
                    clear d1 d2
                    clear HT HD
                    go_wp2
                    go_roundw
                    case rel => exact ⟨k + 1, by omega, by go_num, by rw [HT'.out], bel9⟩
                    case measure => simp [intOf]; omega
                  · have e2 : decide (K.a < ft) = false := decide_eq_false d2
                    have HT' : Hid ((G2 && Grain.within (fi.take (k + 1)) ff ft) = false) := by show _ = _; rw [HT.out, HD.out, decide_eq_false (fun h => d2 h.2)]; rfl
                    clear d1 d2
                    clear HT HD
                    go_wp2
                    go_roundw
                    case rel => exact ⟨k + 1, by omega, by go_num, by rw [HT'.out], bel9⟩
                    case measure => simp [intOf]; omega
                · have e1 : decide (ff ≤ K.a) = false := decide_eq_false d1
                  have HT' : Hid ((G2 && Grain.within (fi.take (k + 1)) ff ft) = false) := by show _ = _; rw [HT.out, HD.out, decide_eq_false (fun h => d1 h.1)]; rfl
                  clear d1
                  clear HT HD
                  go_wp2
                  go_roundw
                  case rel => exact ⟨k + 1, by omega, by go_num, by rw [HT'.out], bel9⟩
                  case measure => simp [intOf]; omega
              · have HT' : Hid ((G2 && Grain.within (fi.take (k + 1)) ff ft) = false) := by show _ = _; rw [HT.out]; rfl
                clear HT HD
                go_wp2
                go_roundw
                case rel => exact ⟨k + 1, by omega, by go_num, by rw [HT'.out], bel9⟩
                case measure => simp [intOf]; omega
            · have he : k = m2 := by omega
              have HT : Hid (fi.take k = fi) := by
                show _ = _
                rw [List.take_of_length_le (by rw [← H2.out]; omega)]
              rw [HT.out]
              clear HT
              obtain ⟨G3, hG3⟩ : ∃ G3, G3 = (G2 && Grain.within fi ff ft) := ⟨_, rfl⟩
              rw [← hG3] at HWG2 ⊢
              clear hG3 hg2
              obtain ⟨t0, t1, t2, t3, t4, t5, t6, t7, t8⟩ := HY.out wr (below_block belA B7)
              go_wp2_with fail
              go_loopw [7, 170] (fun v i wr => ∃ k : Nat, k ≤ m3 ∧ i = .int .i64 k ∧ v = .bool (G3 && Grain.within (co.take k) cf ct) ∧ Below W4.heap.size W4 wr) (fun _ i _ => m3 - (intOf i).toNat)
              case atStart => exact ⟨0, Nat.zero_le _, rfl, by simp [Grain.within], belA⟩
              case round =>
              clear t0 t1 t2 t3 t4 t5 t6 t7 t8 belA
              obtain ⟨k, hk, rfl, rfl, belB⟩ := hrel
              by_cases hlt : k < m3
              · have hkl : k < co.length := by rw [← H3.out]; exact hlt
                obtain ⟨b, off, rfl, hbl, hcell⟩ := seg_bucket hg3 hkl
                obtain ⟨K, hK⟩ : ∃ K, K = Grain.bk co k := ⟨_, rfl⟩
                have q := (hcell k hkl).below belB hbl
                rw [← hK] at q
                obtain ⟨c0, c1, c2, c3, c4, c5, c6, c7⟩ := q
                obtain ⟨D, hD⟩ : ∃ D, D = decide (cf ≤ K.a ∧ K.a < ct) := ⟨_, rfl⟩
                obtain ⟨P, hP⟩ : ∃ P, P = (G3 && Grain.within (co.take k) cf ct) := ⟨_, rfl⟩
                have HT : Hid ((G3 && Grain.within (co.take (k + 1)) cf ct) = (P && D)) := by
                  show _ = _
                  unfold Grain.within at hP ⊢
                  rw [all_take1 _ hkl, hP, hD, hK, Grain.bk_get hkl, Bool.and_assoc]
                rw [← hP]
                have HD := hide hD
                obtain ⟨Y, hY⟩ : ∃ Y, Y = wr.heap.size := ⟨_, rfl⟩
                obtain ⟨W5, hW5⟩ : ∃ W, W = wr.alloc (ko K) := ⟨_, rfl⟩
                have Z : W5.heap[Y]? = some (ko K) := by rw [hW5, hY]; exact heap_alloc_new wr _
                have bel9 : Below W4.heap.size W4 W5 := by rw [hW5]; exact belB.alloc belB.size _
                have HW5 : Hid (W5 = wr.alloc (.cells #[.int .i64 K.a, .int .i64 K.s.c, .int .i64 K.s.t, .int .i64 K.s.mn, .int .i64 K.s.mx, .int .i64 K.s.f, .int .i64 K.s.l, .int .i64 K.s.r] 90)) := hW5
                have HYz := hide hY
                clear hD hP hK hcell hkl hY hW5 belB
                go_upto_region 29 with fail
                rw [← HW5.out, ← HYz.out]
                clear HW5 HYz c0 c1 c2 c3 c4 c5 c6 c7
                obtain ⟨p0, p1, p2, p3, p4, p5, p6, p7⟩ := eight_cells Z
                obtain ⟨t0, t1, t2, t3, t4, t5, t6, t7, t8⟩ := HY.out W5 (below_block bel9 B7)
                rcases Bool.eq_false_or_eq_true P with h1 | h1 <;> rw [h1] at HT ⊢
                · by_cases d1 : cf ≤ K.a
                  · have e1 : decide (cf ≤ K.a) = true := decide_eq_true d1
                    by_cases d2 : K.a < ct
                    · have e2 : decide (K.a < ct) = true := decide_eq_true d2
                      have HT' : Hid ((G3 && Grain.within (co.take (k + 1)) cf ct) = true) := by show _ = _; rw [HT.out, HD.out, decide_eq_true ⟨d1, d2⟩]; rfl
                      clear d1 d2
                      clear HT HD
                      go_wp2
                      go_roundw
                      case rel => exact ⟨k + 1, by omega, by go_num, by rw [HT'.out], bel9⟩
                      case measure => simp [intOf]; omega
                    · have e2 : decide (K.a < ct) = false := decide_eq_false d2
                      have HT' : Hid ((G3 && Grain.within (co.take (k + 1)) cf ct) = false) := by show _ = _; rw [HT.out, HD.out, decide_eq_false (fun h => d2 h.2)]; rfl
                      clear d1 d2
                      clear HT HD
                      go_wp2
                      go_roundw
                      case rel => exact ⟨k + 1, by omega, by go_num, by rw [HT'.out], bel9⟩
                      case measure => simp [intOf]; omega
                  · have e1 : decide (cf ≤ K.a) = false := decide_eq_false d1
                    have HT' : Hid ((G3 && Grain.within (co.take (k + 1)) cf ct) = false) := by show _ = _; rw [HT.out, HD.out, decide_eq_false (fun h => d1 h.1)]; rfl
                    clear d1
                    clear HT HD
                    go_wp2
                    go_roundw
                    case rel => exact ⟨k + 1, by omega, by go_num, by rw [HT'.out], bel9⟩
                    case measure => simp [intOf]; omega
                · have HT' : Hid ((G3 && Grain.within (co.take (k + 1)) cf ct) = false) := by show _ = _; rw [HT.out]; rfl
                  clear HT HD
                  go_wp2
                  go_roundw
                  case rel => exact ⟨k + 1, by omega, by go_num, by rw [HT'.out], bel9⟩
                  case measure => simp [intOf]; omega
              · have he : k = m3 := by omega
                have HT : Hid (co.take k = co) := by
                  show _ = _
                  rw [List.take_of_length_le (by rw [← H3.out]; omega)]
                rw [HT.out]
                clear HT
                obtain ⟨G4, hG4⟩ : ∃ G4, G4 = (G3 && Grain.within co cf ct) := ⟨_, rfl⟩
                rw [← hG4] at HWG2 ⊢
                clear hG4 hg3
                have belE : Below w.heap.size w wr := bel7.trans (belB.mono bel7.size)
                cases G4
                · go_wp2
                  go_ret
                  exact ⟨by rw [HWG2.out]; rfl, belE⟩
                · go_wp2
                  go_ret
                  exact ⟨by rw [HWG2.out]; rfl, belE⟩
        · have n4 := ne_beq z4
          go_wp2
          go_ret
          exact ⟨by rw [HW.out, if_neg (by simp), if_neg (by simp), if_neg (by simp), if_pos z4]; rfl, bel7⟩
      · have n3 := ne_beq z3
        go_wp2
        go_ret
        exact ⟨by rw [HW.out, if_neg (by simp), if_neg (by simp), if_pos z3]; rfl, bel5⟩
    · have n2 := ne_beq z2
      go_wp2
      go_ret
      exact ⟨by rw [HW.out, if_neg (by simp), if_pos z2]; rfl, bel3⟩
  · have n1 := ne_beq z1
    have HW' : Hid (Grain.swrong y.s = wrongS se) := by show _ = _; rw [HW.out, if_pos z1]
    generalize wrongS se = E1 at HW' n1 ⊢
    clear HW z1
    go_wp2
    go_ret
    exact ⟨by rw [HW'.out]; rfl, bel1⟩

end Go.Proofs.Ytfgablhgjbjbkae
