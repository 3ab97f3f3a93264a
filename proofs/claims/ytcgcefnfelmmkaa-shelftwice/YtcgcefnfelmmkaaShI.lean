/-
  The walk of Forget.
-/
import Derived.Test.YtcgcefnfelmmkaaShH
import Derived.Deep.RegionHeld3
namespace Go.Proofs.Ytcgcefnfelmmkaa
open Go.RowKit Go.GrainU

theorem fg1_any (t v rf : Int) (B : Nat) (w : World) (hB : w.cell? ⟨B, 4, none⟩ = some (.int .i64 rf)) :
    Calls Try.prog 32 #[.agg #[.int .i64 t, .int .i64 v], .pointer (some ⟨B, 0, none⟩)] w fun e w' => e = .returned (.bool (decide (rf ≤ t))) ∧ Below w.heap.size w w' := by
  have hl : B < w.heap.size := World.block_lt_of_cell? w _ hB
  have bel : Below w.heap.size w (w.alloc (.cells #[.int .i64 t, .int .i64 v] 29)) := (Below.refl _ _).alloc (Nat.le_refl _) _
  go_enter Try.func32, Try.ntmps32
  go_wp2
  go_ret
  exact ⟨rfl, bel⟩

theorem fg2_any (K : Grain.Bk) (f : Int) (B : Nat) (w : World) (hB : w.cell? ⟨B, 5, none⟩ = some (.int .i64 f)) :
    Calls Try.prog 33 #[kv K, .pointer (some ⟨B, 0, none⟩)] w fun e w' => e = .returned (.bool (decide (f ≤ K.a))) ∧ Below w.heap.size w w' := by
  have hl : B < w.heap.size := World.block_lt_of_cell? w _ hB
  have bel : Below w.heap.size w (w.alloc (ko K)) := (Below.refl _ _).alloc (Nat.le_refl _) _
  unfold ko at bel
  unfold kv
  go_enter Try.func33, Try.ntmps33
  go_wp2
  go_ret
  exact ⟨rfl, bel⟩

theorem fg3_any (K : Grain.Bk) (f : Int) (B : Nat) (w : World) (hB : w.cell? ⟨B, 7, none⟩ = some (.int .i64 f)) :
    Calls Try.prog 34 #[kv K, .pointer (some ⟨B, 0, none⟩)] w fun e w' => e = .returned (.bool (decide (f ≤ K.a))) ∧ Below w.heap.size w w' := by
  have hl : B < w.heap.size := World.block_lt_of_cell? w _ hB
  have bel : Below w.heap.size w (w.alloc (ko K)) := (Below.refl _ _).alloc (Nat.le_refl _) _
  unfold ko at bel
  unfold kv
  go_enter Try.func34, Try.ntmps34
  go_wp2
  go_ret
  exact ⟨rfl, bel⟩

theorem own_heap {w w' : World} {base e size n : Nat} {v : Value} {xs : List Value} (hh : w'.heap = w.heap) (h : w.ownsRow base e size v n xs) : w'.ownsRow base e size v n xs := by
  obtain ⟨h1, h2⟩ := h
  refine ⟨h1, ?_⟩
  rcases h2 with h2 | ⟨g, cap, cur, hv, hb, hg, rest⟩
  · exact Or.inl h2
  · exact Or.inr ⟨g, cap, cur, hv, hb, by rw [hh]; exact hg, rest⟩

set_option maxHeartbeats 4000000 in
theorem sforg_any (x : ShT) (tier tt : Int) (w : World) (hx : ShIn w x) :
    Calls Try.prog 10 #[x.v, .int .i64 tier, .int .i64 tt] w (ShPost w (Grain.sforg x.s tier tt)) := by
  have HP : Hid (Grain.sforg x.s tier tt = if Grain.wrongAt x.s tt ≠ 0 then (Grain.szero, Grain.wrongAt x.s tt) else if tier = 0 then ({ x.s with rf := Grain.nrf x.s tt, ra := x.s.ra.filter fun y => decide (Grain.nrf x.s tt ≤ y.1) }, 0)
      else if tier = 1 then ({ x.s with ff := Grain.nff x.s tt, fi := x.s.fi.filter fun b => decide (Grain.nff x.s tt ≤ b.a) }, 0) else if tier = 2 then ({ x.s with cf := Grain.ncf x.s tt, co := x.s.co.filter fun b => decide (Grain.ncf x.s tt ≤ b.a) }, 0) else (Grain.szero, 1)) := rfl
  obtain ⟨r, hr⟩ : ∃ r, r = Grain.sforg x.s tier tt := ⟨_, rfl⟩
  rw [← hr] at HP ⊢
  clear hr
  have HSR : Hid (Grain.wrongAt x.s tt = 0 → Grain.SR x.s ∧ 0 ≤ tt ∧ tt ≤ 1000000) := fun h => Grain.wrongAt_zero h
  obtain ⟨m0, e0⟩ : ∃ m, m = x.s.se.length := ⟨_, rfl⟩
  obtain ⟨m1, e1⟩ : ∃ m, m = x.s.ra.length := ⟨_, rfl⟩
  obtain ⟨m2, e2⟩ : ∃ m, m = x.s.fi.length := ⟨_, rfl⟩
  obtain ⟨m3, e3⟩ : ∃ m, m = x.s.co.length := ⟨_, rfl⟩
  have Hv : Hid (x.v = .agg #[.slice x.a0 m0 x.c0, .slice x.a1 m1 x.c1, .slice x.a2 m2 x.c2, .slice x.a3 m3 x.c3, .int .i64 x.s.rf, .int .i64 x.s.ff, .int .i64 x.s.ft, .int .i64 x.s.cf, .int .i64 x.s.ct]) := by
    show _ = _
    rw [e0, e1, e2, e3]; rfl
  have H0 := hide e0
  have H1 := hide e1
  have H2 := hide e2
  have H3 := hide e3
  rw [Hv.out]
  clear e0 e1 e2 e3
  obtain ⟨X, hX⟩ : ∃ X, X = w.heap.size := ⟨_, rfl⟩
  obtain ⟨U, hU⟩ : ∃ U, U = w.alloc (.cells #[.slice x.a0 m0 x.c0, .slice x.a1 m1 x.c1, .slice x.a2 m2 x.c2, .slice x.a3 m3 x.c3, .int .i64 x.s.rf, .int .i64 x.s.ff, .int .i64 x.s.ft, .int .i64 x.s.cf, .int .i64 x.s.ct] 27) := ⟨_, rfl⟩
  obtain ⟨V, hV⟩ : ∃ V, V = U.alloc (.cells #[.slice none 0 0, .slice none 0 0, .slice none 0 0, .slice none 0 0, .int .i64 0, .int .i64 0, .int .i64 0, .int .i64 0, .int .i64 0] 27) := ⟨_, rfl⟩
  have hUs : U.heap.size = X + 1 := by rw [hU, hX]; simp
  have hVs : V.heap.size = X + 2 := by rw [hV]; simp [hUs]
  have bel : Below w.heap.size w V := by rw [hV, hU]; exact ((Below.refl _ _).alloc (Nat.le_refl _) _).alloc (by simp) _
  have B0 : V.heap[X]? = some (sob (.slice x.a0 m0 x.c0) (.slice x.a1 m1 x.c1) (.slice x.a2 m2 x.c2) (.slice x.a3 m3 x.c3) (.int .i64 x.s.rf) (.int .i64 x.s.ff) (.int .i64 x.s.ft) (.int .i64 x.s.cf) (.int .i64 x.s.ct)) := by
    rw [hV, Below.heap_alloc _ _ _ (by omega), hU, hX]; exact heap_alloc_new w _
  have R0 : V.heap[X + 1]? = some (sob (.slice none 0 0) (.slice none 0 0) (.slice none 0 0) (.slice none 0 0) (.int .i64 0) (.int .i64 0) (.int .i64 0) (.int .i64 0) (.int .i64 0)) := by
    rw [hV, ← hUs]; exact heap_alloc_new _ _
  have HV : Hid (V = (w.alloc (.cells #[.slice x.a0 m0 x.c0, .slice x.a1 m1 x.c1, .slice x.a2 m2 x.c2, .slice x.a3 m3 x.c3, .int .i64 x.s.rf, .int .i64 x.s.ff, .int .i64 x.s.ft, .int .i64 x.s.cf, .int .i64 x.s.ct] 27)).alloc (.cells #[.slice none 0 0, .slice none 0 0, .slice none 0 0, .slice none 0 0, .int .i64 0, .int .i64 0, .int .i64 0, .int .i64 0, .int .i64 0] 27)) := by rw [hV, hU]; exact rfl
  have HX := hide hX
  have hxV := hx.below bel
  have HVs := hide hVs
  clear hU hV hX hUs hVs
  go_enter Try.func10, Try.ntmps10
  go_wp2_with fail
  rw [← HV.out, ← Hv.out, ← HX.out]
  refine (wrongAt_any x tt V hxV).mono ?_
  rintro e w1 ⟨rfl, hb1⟩
  have bel1 : Below w.heap.size w w1 := bel.trans (hb1.mono bel.size)
  have B1 := below_block hb1 B0
  have R1 := below_block hb1 R0
  have hx1 := hxV.below hb1
  have hs1 : X + 2 ≤ w1.heap.size := by have := hb1.size; have := HVs.out; omega
  clear HV hb1 B0 R0 hxV bel HVs
  obtain ⟨E, hE⟩ : ∃ E, E = Grain.wrongAt x.s tt := ⟨_, rfl⟩
  rw [← hE] at HP HSR ⊢
  clear hE
  by_cases z : E = 0
  · subst z
    have HP1 := hide (HP.out.trans (if_neg (by simp)))
    obtain ⟨sr, t0, t1⟩ := HSR.out rfl
    have SRx := hide sr
    have rlen := sr.rlen
    have flen := sr.flen
    have clen := sr.clen
    have hct0 : 0 ≤ x.s.ct ∧ x.s.ct ≤ 1000000 := by have := sr.csp; omega
    clear HP HSR sr
    obtain ⟨b0, b1, b2, b3, b4, b5, b6, b7, b8⟩ := sob_cells B1
    go_wp2_with fail
    rw [← Hv.out]
    refine (cshelf_any x w1 hx1).mono ?_
    rintro e w2 ⟨z, rfl, hz, oz, hb2⟩
    have bel2 : Below w.heap.size w w2 := bel1.trans (hb2.mono bel1.size)
    have B2 := below_block hb2 B1
    have R2 := below_block hb2 R1
    have hx2 := hx1.below hb2
    obtain ⟨zs, A0, D0, A1, D1, A2, D2, A3, D3⟩ := z
    simp only at hz
    subst hz
    obtain ⟨o0, o1, o2, o3, one, ofits, on0, on1, on2, on3⟩ := oz
    simp only at o0 o1 o2 o3 one ofits on0 on1 on2 on3
    simp only [ShT.v, ← H0.out, ← H1.out, ← H2.out, ← H3.out]
    rw [← H0.out] at o0 on0
    rw [← H1.out] at o1 on1
    rw [← H2.out] at o2 on2 one
    rw [← H3.out] at o3 on3 one
    rw [← H1.out] at rlen
    rw [← H2.out] at flen
    rw [← H3.out] at clen
    obtain ⟨Y, hY⟩ : ∃ Y, Y = w2.heap.size := ⟨_, rfl⟩
    obtain ⟨W2, hW2⟩ : ∃ W, W = w2.alloc (.cells #[.slice A0 m0 D0, .slice A1 m1 D1, .slice A2 m2 D2, .slice A3 m3 D3, .int .i64 x.s.rf, .int .i64 x.s.ff, .int .i64 x.s.ft, .int .i64 x.s.cf, .int .i64 x.s.ct] 27) := ⟨_, rfl⟩
    have hbW : Below w2.heap.size w2 W2 := by rw [hW2]; exact (Below.refl _ _).alloc (Nat.le_refl _) _
    have Y3 : W2.heap[Y]? = some (sob (.slice A0 m0 D0) (.slice A1 m1 D1) (.slice A2 m2 D2) (.slice A3 m3 D3) (.int .i64 x.s.rf) (.int .i64 x.s.ff) (.int .i64 x.s.ft) (.int .i64 x.s.cf) (.int .i64 x.s.ct)) := by rw [hW2, hY]; exact heap_alloc_new w2 _
    have B3 := below_block hbW B2
    have R3 := below_block hbW R2
    have hx3 := hx2.below hbW
    have bel3 : Below w.heap.size w W2 := bel2.trans (hbW.mono bel2.size)
    have p0 := own_below o0 hbW
    have p1 := own_below o1 hbW
    have p2 := own_below o2 hbW
    have p3 := own_below o3 hbW
    have hYs : w1.heap.size ≤ Y := by rw [hY]; exact hb2.size
    have hYX : Y ≠ X := by omega
    have hYR : Y ≠ X + 1 := by omega
    have hYl : Y < W2.heap.size := lt_of_block Y3
    have HW2 := hide hW2
    have HY := hide hY
    have NE := hide one
    clear hW2 hY o0 o1 o2 o3 hbW B2 R2 hb2 bel2 bel1 B1 R1 hx1 hx2 one b0 b1 b2 b3 b4 b5 b6 b7 b8
    go_upto_region 5 with fail
    rw [← HW2.out, ← HY.out]
    clear HW2
    obtain ⟨b0, b1, b2, b3, b4, b5, b6, b7, b8⟩ := sob_cells B3
    obtain ⟨y0, y1, y2, y3, y4, y5, y6, y7, y8⟩ := sob_cells Y3
    obtain ⟨g0, g1, g2, g3, g4, g5, g6, g7, g8⟩ := sob_free Y3
    by_cases k0 : tier = 0
    · subst k0
      have HP2 := hide (HP1.out.trans (if_pos rfl))
      clear HP1
      obtain ⟨N, hN⟩ : ∃ N, N = Grain.nrf x.s tt := ⟨_, rfl⟩
      rw [← hN] at HP2
      obtain ⟨M, hM⟩ : ∃ M, M = min tt x.s.ft := ⟨_, rfl⟩
      have eM : (if x.s.ft < tt then x.s.ft else tt) = M := by rw [hM]; split <;> omega
      have eN : (if x.s.rf < M then M else x.s.rf) = N := by rw [hN, hM]; unfold Grain.nrf; split <;> omega
      have HN := hide eN
      have HM := hide eM
      clear hN eN hM eM
      go_upto_region 9 with fail
      rw [HM.out, HN.out]
      obtain ⟨W3, hW3⟩ : ∃ W, W = W2.setCell ⟨Y, 4, none⟩ (.int .i64 N) := ⟨_, rfl⟩
      rw [← hW3]
      have hh3 : W3.heap = (W2.setCell ⟨Y, 4, none⟩ (.int .i64 N)).heap := by rw [hW3]
      have bel4 : Below w.heap.size w W3 := by rw [hW3]; exact bel3.setCell (by have := HX.out; show w.heap.size ≤ Y; omega) _
      clear hW3
      have Y4 : W3.heap[Y]? = some (sob (.slice A0 m0 D0) (.slice A1 m1 D1) (.slice A2 m2 D2) (.slice A3 m3 D3) (.int .i64 N) (.int .i64 x.s.ff) (.int .i64 x.s.ft) (.int .i64 x.s.cf) (.int .i64 x.s.ct)) := by rw [hh3]; exact set_block Y3 _
      have R4 : W3.heap[X + 1]? = some (sob (.slice none 0 0) (.slice none 0 0) (.slice none 0 0) (.slice none 0 0) (.int .i64 0) (.int .i64 0) (.int .i64 0) (.int .i64 0) (.int .i64 0)) := by rw [hh3, setCell_far (fun e => hYR e.symm)]; exact R3
      have B4 : W3.heap[X]? = some (sob (.slice x.a0 m0 x.c0) (.slice x.a1 m1 x.c1) (.slice x.a2 m2 x.c2) (.slice x.a3 m3 x.c3) (.int .i64 x.s.rf) (.int .i64 x.s.ff) (.int .i64 x.s.ft) (.int .i64 x.s.cf) (.int .i64 x.s.ct)) := by rw [hh3, setCell_far (fun e => hYX e.symm)]; exact B3
      have o0 : W3.ownsRow w1.heap.size 71 2 (.slice A0 m0 D0) m0 (lcells x.s.se) := own_heap hh3 (ownsRow_setCell_other p0 (own_far p0 Y3 (by decide)) _)
      have o1 : W3.ownsRow w1.heap.size 29 2 (.slice A1 m1 D1) m1 (scells x.s.ra) := own_heap hh3 (ownsRow_setCell_other p1 (own_far p1 Y3 (by decide)) _)
      have o2 : W3.ownsRow w1.heap.size 67 8 (.slice A2 m2 D2) m2 (kcells x.s.fi) := own_heap hh3 (ownsRow_setCell_other p2 (own_far p2 Y3 (by decide)) _)
      have o3 : W3.ownsRow w1.heap.size 67 8 (.slice A3 m3 D3) m3 (kcells x.s.co) := own_heap hh3 (ownsRow_setCell_other p3 (own_far p3 Y3 (by decide)) _)
      have HL2 := hide o2.lt
      have HL3 := hide o3.lt
      have hs4 : W3.heap.size = W2.heap.size := by rw [hh3]; simp
      have hx4 := hx.below bel4
      have hYs4 : Y < W3.heap.size := by omega
      clear hh3 Y3 R3 B3 p0 p1 p2 p3 hx3 bel3 b0 b1 b2 b3 b4 b5 b6 b7 b8 y0 y1 y2 y3 y4 y5 y6 y7 y8 g0 g1 g2 g3 g4 g5 g6 g7 g8
      obtain ⟨b0, b1, b2, b3, b4, b5, b6, b7, b8⟩ := sob_cells B4
      have hE := hide (enters (P := Try.prog) Try.func32 (by kernel_rfl) (by kernel_rfl))
      have HF : Hid (∀ W t v, Below W3.heap.size W3 W → Calls Try.prog 32 (#[.agg #[.int .i64 t, .int .i64 v]] ++ #[.pointer (some ⟨Y, 0, none⟩)]) W fun e W' => e = .returned (.bool (decide (N ≤ t))) ∧ Below W.heap.size W W') := by
        intro W t v hb
        have := fg1_any t v N Y W (sob_cells (below_block hb Y4)).2.2.2.2.1
        simpa using this
      go_wp2_with fail
      refine (skept_any x.s.ra (fun t _ => decide (N ≤ t)) 32 _ x.a1 m1 x.c1 W3 hx4.g1 H1.out (by omega) hE HF.out).mono ?_
      rintro e w4 ⟨co, Nk, d, rfl, own, hb4⟩
      have bel5 : Below w.heap.size w w4 := bel4.trans (hb4.mono bel4.size)
      have Y5 := below_block hb4 Y4
      have R5 := below_block hb4 R4
      have q0 := own_below o0 hb4
      have q1 := own_below o1 hb4
      have q2 := own_below o2 hb4
      have q3 := own_below o3 hb4
      have hs5 := hb4.size
      clear hb4 Y4 R4 B4 o0 o1 o2 o3 HF hE b0 b1 b2 b3 b4 b5 b6 b7 b8 bel4 hx4
      obtain ⟨y0, y1, y2, y3, y4, y5, y6, y7, y8⟩ := sob_cells Y5
      obtain ⟨g0, g1, g2, g3, g4, g5, g6, g7, g8⟩ := sob_free Y5
      obtain ⟨W5, hW5⟩ : ∃ W, W = w4.setCell ⟨Y, 1, none⟩ (.slice co Nk d) := ⟨_, rfl⟩
      have Y6 : W5.heap[Y]? = some (sob (.slice A0 m0 D0) (.slice co Nk d) (.slice A2 m2 D2) (.slice A3 m3 D3) (.int .i64 N) (.int .i64 x.s.ff) (.int .i64 x.s.ft) (.int .i64 x.s.cf) (.int .i64 x.s.ct)) := by rw [hW5]; exact set_block Y5 _
      have R6 : W5.heap[X + 1]? = some (sob (.slice none 0 0) (.slice none 0 0) (.slice none 0 0) (.slice none 0 0) (.int .i64 0) (.int .i64 0) (.int .i64 0) (.int .i64 0) (.int .i64 0)) := by rw [hW5, setCell_far (fun e => hYR e.symm)]; exact R5
      have bel6 : Below w.heap.size w W5 := by rw [hW5]; exact bel5.setCell (by have := HX.out; show w.heap.size ≤ Y; omega) _
      have c0 : W5.ownsRow w1.heap.size 71 2 (.slice A0 m0 D0) m0 (lcells x.s.se) := by rw [hW5]; exact ownsRow_setCell_other q0 (own_far q0 Y5 (by decide)) _
      have c1 : W5.ownsRow W3.heap.size 29 2 (.slice co Nk d) Nk (scells (x.s.ra.filter fun y => decide (N ≤ y.1))) := by rw [hW5]; exact ownsRow_setCell_other own (own_far own Y5 (by decide)) _
      have c2 : W5.ownsRow w1.heap.size 67 8 (.slice A2 m2 D2) m2 (kcells x.s.fi) := by rw [hW5]; exact ownsRow_setCell_other q2 (own_far q2 Y5 (by decide)) _
      have c3 : W5.ownsRow w1.heap.size 67 8 (.slice A3 m3 D3) m3 (kcells x.s.co) := by rw [hW5]; exact ownsRow_setCell_other q3 (own_far q3 Y5 (by decide)) _
      have NN := NE
      have HW5 := hide hW5
      clear hW5 Y5 R5 bel5 own q0 q1 q2 q3
      go_upto_region 16 with fail
      rw [← HW5.out]
      clear HW5 y0 y1 y2 y3 y4 y5 y6 y7 y8 g0 g1 g2 g3 g4 g5 g6 g7 g8
      obtain ⟨b0, b1, b2, b3, b4, b5, b6, b7, b8⟩ := sob_cells Y6
      obtain ⟨q0, q1, q2, q3, q4, q5, q6, q7, q8⟩ := sob_cells R6
      obtain ⟨f0, f1, f2, f3, f4, f5, f6, f7, f8⟩ := sob_free R6
      go_wp2
      refine bodyPost_ret (v := .tuple #[.agg #[.slice A0 m0 D0, .slice co Nk d, .slice A2 m2 D2, .slice A3 m3 D3, .int .i64 N, .int .i64 x.s.ff, .int .i64 x.s.ft, .int .i64 x.s.cf, .int .i64 x.s.ct], .int .i64 0]) (by simp [results, Try.results10, go_sem, q0, q1, q2, q3, q4, q5, q6, q7, q8]) rfl ?_
      have hlr : Nk = (x.s.ra.filter fun y => decide (N ≤ y.1)).length := own_slen c1
      have hfl : (x.s.ra.filter fun y => decide (N ≤ y.1)).length ≤ m1 := by rw [H1.out]; exact List.length_filter_le _ _
      have hbw : w.heap.size ≤ w1.heap.size := by have := HX.out; omega
      have hbw3 : w.heap.size ≤ W3.heap.size := by have := HX.out; omega
      refine ⟨⟨{ x.s with rf := N, ra := x.s.ra.filter fun y => decide (N ≤ y.1) }, A0, D0, co, d, A2, D2, A3, D3⟩, ?_, ?_, ⟨?_, ?_, ?_, ?_, ?_, ofits, ?_, ?_, ?_, ?_⟩, below_set9 bel6 (by have := HX.out; omega) _ _ _ _ _ _ _ _ _⟩
      · rw [HP2.out]
        simp only [ShT.v, ← hlr, ← H0.out, ← H2.out, ← H3.out]
      · rw [HP2.out]
      · simp only [← H0.out]; exact own_down (own_set9 c0 (by omega) _ _ _ _ _ _ _ _ _) hbw
      · simp only [← hlr]; exact own_down (own_set9 c1 (by omega) _ _ _ _ _ _ _ _ _) hbw3
      · simp only [← H2.out]; exact own_down (own_set9 c2 (by omega) _ _ _ _ _ _ _ _ _) hbw
      · simp only [← H3.out]; exact own_down (own_set9 c3 (by omega) _ _ _ _ _ _ _ _ _) hbw
      · simp only [← H2.out, ← H3.out]; exact NN.out
      · show x.s.se.length * 32 ≤ _; rw [← H0.out]; exact on0
      · show (x.s.ra.filter fun y => decide (N ≤ y.1)).length * 16 ≤ _; omega
      · show x.s.fi.length * 64 ≤ _; rw [← H2.out]; exact on2
      · show x.s.co.length * 64 ≤ _; rw [← H3.out]; exact on3
    · by_cases k1 : tier = 1
      · subst k1
        have HP2 := hide (HP1.out.trans ((if_neg (by decide)).trans (if_pos rfl)))
        clear HP1
        obtain ⟨N, hN⟩ : ∃ N, N = Grain.nff x.s tt := ⟨_, rfl⟩
        rw [← hN] at HP2
        obtain ⟨M, hM⟩ : ∃ M, M = min tt x.s.ct := ⟨_, rfl⟩
        have hM0 : 0 ≤ M := by omega
        have hM1 : M ≤ 1000000 := by omega
        have eM : (if x.s.ct < tt then x.s.ct else tt) = M := by rw [hM]; split <;> omega
        have eN : (if x.s.ff < Grain.beg M 10 then Grain.beg M 10 else x.s.ff) = N := by rw [hN, hM]; unfold Grain.nff; split <;> omega
        have HN := hide eN
        have HM := hide eM
        have BB : Hid (∀ (W : World) (u : Value), Below w.heap.size w W → Below w.heap.size w (W.setCell ⟨Y, 5, none⟩ u)) := fun W u h => h.setCell (by have := HX.out; show w.heap.size ≤ Y; omega) u
        clear hN eN hM eM
        go_upto_region 11 with fail
        go_cut [] from 38 to 46 (fun wx => wx.heap = (W2.setCell ⟨Y, 5, none⟩ (.int .i64 N)).heap ∧ Below w.heap.size w wx)
        case first =>
          go_region_held3 (fun w' => w'.cell? ⟨X, 5, none⟩ = some (.int .i64 x.s.ff) ∧ w'.cell? ⟨X, 8, none⟩ = some (.int .i64 x.s.ct)) (first | go_keep | exact ⟨by assumption, by assumption⟩)
            (first | (go_at_call 26; rw [HM.out]; refine (mult_any M 10 _ hM0 hM1 (.inl rfl)).mono ?_; intro e w9 hh; rw [hh.1, hh.2]; clear hh))
          all_goals
            go_wp2_with fail
            all_goals
              go_meet
              have e := HN.out
              refine ⟨?_, by first | exact below_drewN (BB.out _ _ bel3) 1 | exact BB.out _ _ (below_drewN bel3 1)⟩
              first | (rw [if_pos (by assumption)] at e; rw [← e]; rfl) | (rw [if_neg (by omega)] at e; rw [← e]; rfl) | (rw [← e]; rfl)
        case rest =>
        obtain ⟨hh3, bel4⟩ := hcut
        obtain ⟨W3, hW3⟩ : ∃ W, W = wc := ⟨_, rfl⟩
        rw [← hW3] at hh3 bel4 ⊢
        clear hW3 BB HM hM0 hM1
        have Y4 : W3.heap[Y]? = some (sob (.slice A0 m0 D0) (.slice A1 m1 D1) (.slice A2 m2 D2) (.slice A3 m3 D3) (.int .i64 x.s.rf) (.int .i64 N) (.int .i64 x.s.ft) (.int .i64 x.s.cf) (.int .i64 x.s.ct)) := by rw [hh3]; exact set_block Y3 _
        have R4 : W3.heap[X + 1]? = some (sob (.slice none 0 0) (.slice none 0 0) (.slice none 0 0) (.slice none 0 0) (.int .i64 0) (.int .i64 0) (.int .i64 0) (.int .i64 0) (.int .i64 0)) := by rw [hh3, setCell_far (fun e => hYR e.symm)]; exact R3
        have B4 : W3.heap[X]? = some (sob (.slice x.a0 m0 x.c0) (.slice x.a1 m1 x.c1) (.slice x.a2 m2 x.c2) (.slice x.a3 m3 x.c3) (.int .i64 x.s.rf) (.int .i64 x.s.ff) (.int .i64 x.s.ft) (.int .i64 x.s.cf) (.int .i64 x.s.ct)) := by rw [hh3, setCell_far (fun e => hYX e.symm)]; exact B3
        have o0 : W3.ownsRow w1.heap.size 71 2 (.slice A0 m0 D0) m0 (lcells x.s.se) := own_heap hh3 (ownsRow_setCell_other p0 (own_far p0 Y3 (by decide)) _)
        have o1 : W3.ownsRow w1.heap.size 29 2 (.slice A1 m1 D1) m1 (scells x.s.ra) := own_heap hh3 (ownsRow_setCell_other p1 (own_far p1 Y3 (by decide)) _)
        have o2 : W3.ownsRow w1.heap.size 67 8 (.slice A2 m2 D2) m2 (kcells x.s.fi) := own_heap hh3 (ownsRow_setCell_other p2 (own_far p2 Y3 (by decide)) _)
        have o3 : W3.ownsRow w1.heap.size 67 8 (.slice A3 m3 D3) m3 (kcells x.s.co) := own_heap hh3 (ownsRow_setCell_other p3 (own_far p3 Y3 (by decide)) _)
        have HL2 := hide o2.lt
        have HL3 := hide o3.lt
        have hs4 : W3.heap.size = W2.heap.size := by rw [hh3]; simp
        have hx4 := hx.below bel4
        have hYs4 : Y < W3.heap.size := by omega
        clear hh3 Y3 R3 B3 p0 p1 p2 p3 hx3 bel3 b0 b1 b2 b3 b4 b5 b6 b7 b8 y0 y1 y2 y3 y4 y5 y6 y7 y8 g0 g1 g2 g3 g4 g5 g6 g7 g8
        obtain ⟨b0, b1, b2, b3, b4, b5, b6, b7, b8⟩ := sob_cells B4
        have hE := hide (enters (P := Try.prog) Try.func33 (by kernel_rfl) (by kernel_rfl))
        have HF : Hid (∀ W K, Below W3.heap.size W3 W → Calls Try.prog 33 (#[kv K] ++ #[.pointer (some ⟨Y, 0, none⟩)]) W fun e W' => e = .returned (.bool (decide (N ≤ K.a))) ∧ Below W.heap.size W W') := by
          intro W K hb
          have := fg2_any K N Y W (sob_cells (below_block hb Y4)).2.2.2.2.2.1
          simpa using this
        go_wp2_with fail
        refine (kkept_any x.s.fi (fun K => decide (N ≤ K.a)) 33 _ x.a2 m2 x.c2 W3 hx4.g2 H2.out (by omega) hE HF.out).mono ?_
        rintro e w4 ⟨co, Nk, d, rfl, own, hb4⟩
        have bel5 : Below w.heap.size w w4 := bel4.trans (hb4.mono bel4.size)
        have Y5 := below_block hb4 Y4
        have R5 := below_block hb4 R4
        have q0 := own_below o0 hb4
        have q1 := own_below o1 hb4
        have q2 := own_below o2 hb4
        have q3 := own_below o3 hb4
        have hs5 := hb4.size
        clear hb4 Y4 R4 B4 o0 o1 o2 o3 HF hE b0 b1 b2 b3 b4 b5 b6 b7 b8 bel4 hx4
        obtain ⟨y0, y1, y2, y3, y4, y5, y6, y7, y8⟩ := sob_cells Y5
        obtain ⟨g0, g1, g2, g3, g4, g5, g6, g7, g8⟩ := sob_free Y5
        obtain ⟨W5, hW5⟩ : ∃ W, W = w4.setCell ⟨Y, 2, none⟩ (.slice co Nk d) := ⟨_, rfl⟩
        have Y6 : W5.heap[Y]? = some (sob (.slice A0 m0 D0) (.slice A1 m1 D1) (.slice co Nk d) (.slice A3 m3 D3) (.int .i64 x.s.rf) (.int .i64 N) (.int .i64 x.s.ft) (.int .i64 x.s.cf) (.int .i64 x.s.ct)) := by rw [hW5]; exact set_block Y5 _
        have R6 : W5.heap[X + 1]? = some (sob (.slice none 0 0) (.slice none 0 0) (.slice none 0 0) (.slice none 0 0) (.int .i64 0) (.int .i64 0) (.int .i64 0) (.int .i64 0) (.int .i64 0)) := by rw [hW5, setCell_far (fun e => hYR e.symm)]; exact R5
        have bel6 : Below w.heap.size w W5 := by rw [hW5]; exact bel5.setCell (by have := HX.out; show w.heap.size ≤ Y; omega) _
        have c0 : W5.ownsRow w1.heap.size 71 2 (.slice A0 m0 D0) m0 (lcells x.s.se) := by rw [hW5]; exact ownsRow_setCell_other q0 (own_far q0 Y5 (by decide)) _
        have c1 : W5.ownsRow w1.heap.size 29 2 (.slice A1 m1 D1) m1 (scells x.s.ra) := by rw [hW5]; exact ownsRow_setCell_other q1 (own_far q1 Y5 (by decide)) _
        have c2 : W5.ownsRow W3.heap.size 67 8 (.slice co Nk d) Nk (kcells (x.s.fi.filter fun b => decide (N ≤ b.a))) := by rw [hW5]; exact ownsRow_setCell_other own (own_far own Y5 (by decide)) _
        have c3 : W5.ownsRow w1.heap.size 67 8 (.slice A3 m3 D3) m3 (kcells x.s.co) := by rw [hW5]; exact ownsRow_setCell_other q3 (own_far q3 Y5 (by decide)) _
        have HLO := hide own.lt
        have HW5 := hide hW5
        clear hW5 Y5 R5 bel5 own q0 q1 q2 q3
        go_upto_region 16 with fail
        rw [← HW5.out]
        clear HW5 y0 y1 y2 y3 y4 y5 y6 y7 y8 g0 g1 g2 g3 g4 g5 g6 g7 g8
        obtain ⟨b0, b1, b2, b3, b4, b5, b6, b7, b8⟩ := sob_cells Y6
        obtain ⟨q0, q1, q2, q3, q4, q5, q6, q7, q8⟩ := sob_cells R6
        obtain ⟨f0, f1, f2, f3, f4, f5, f6, f7, f8⟩ := sob_free R6
        go_wp2
        refine bodyPost_ret (v := .tuple #[.agg #[.slice A0 m0 D0, .slice A1 m1 D1, .slice co Nk d, .slice A3 m3 D3, .int .i64 x.s.rf, .int .i64 N, .int .i64 x.s.ft, .int .i64 x.s.cf, .int .i64 x.s.ct], .int .i64 0]) (by simp [results, Try.results10, go_sem, q0, q1, q2, q3, q4, q5, q6, q7, q8]) rfl ?_
        have hlr : Nk = (x.s.fi.filter fun b => decide (N ≤ b.a)).length := own_klen c2
        have hfl : (x.s.fi.filter fun b => decide (N ≤ b.a)).length ≤ m2 := by rw [H2.out]; exact List.length_filter_le _ _
        have hbw : w.heap.size ≤ w1.heap.size := by have := HX.out; omega
        have hbw3 : w.heap.size ≤ W3.heap.size := by have := HX.out; omega
        refine ⟨⟨{ x.s with ff := N, fi := x.s.fi.filter fun b => decide (N ≤ b.a) }, A0, D0, A1, D1, co, d, A3, D3⟩, ?_, ?_, ⟨?_, ?_, ?_, ?_, ?_, ofits, ?_, ?_, ?_, ?_⟩, below_set9 bel6 (by have := HX.out; omega) _ _ _ _ _ _ _ _ _⟩
        · rw [HP2.out]
          simp only [ShT.v, ← hlr, ← H0.out, ← H1.out, ← H3.out]
        · rw [HP2.out]
        · simp only [← H0.out]; exact own_down (own_set9 c0 (by omega) _ _ _ _ _ _ _ _ _) hbw
        · simp only [← H1.out]; exact own_down (own_set9 c1 (by omega) _ _ _ _ _ _ _ _ _) hbw
        · simp only [← hlr]; exact own_down (own_set9 c2 (by omega) _ _ _ _ _ _ _ _ _) hbw3
        · simp only [← H3.out]; exact own_down (own_set9 c3 (by omega) _ _ _ _ _ _ _ _ _) hbw
        · simp only [← hlr, ← H3.out]; intro g hg e; have h1 := (HLO.out g hg).1; have h2 := (HL3.out g e).2; omega
        · show x.s.se.length * 32 ≤ _; rw [← H0.out]; exact on0
        · show x.s.ra.length * 16 ≤ _; rw [← H1.out]; exact on1
        · show (x.s.fi.filter fun b => decide (N ≤ b.a)).length * 64 ≤ _; omega
        · show x.s.co.length * 64 ≤ _; rw [← H3.out]; exact on3
      · by_cases k2 : tier = 2
        · subst k2
          have HP2 := hide (HP1.out.trans ((if_neg (by decide)).trans ((if_neg (by decide)).trans (if_pos rfl))))
          clear HP1
          obtain ⟨N, hN⟩ : ∃ N, N = Grain.ncf x.s tt := ⟨_, rfl⟩
          rw [← hN] at HP2
          obtain ⟨M, hM⟩ : ∃ M, M = min tt x.s.ct := ⟨_, rfl⟩
          have hM0 : 0 ≤ M := by omega
          have hM1 : M ≤ 1000000 := by omega
          have eM : (if x.s.ct < tt then x.s.ct else tt) = M := by rw [hM]; split <;> omega
          have eN : (if x.s.cf < Grain.beg M 60 then Grain.beg M 60 else x.s.cf) = N := by rw [hN, hM]; unfold Grain.ncf; split <;> omega
          have HN := hide eN
          have HM := hide eM
          have BB : Hid (∀ (W : World) (u : Value), Below w.heap.size w W → Below w.heap.size w (W.setCell ⟨Y, 7, none⟩ u)) := fun W u h => h.setCell (by have := HX.out; show w.heap.size ≤ Y; omega) u
          clear hN eN hM eM
          go_upto_region 14 with fail
          go_cut [] from 54 to 62 (fun wx => wx.heap = (W2.setCell ⟨Y, 7, none⟩ (.int .i64 N)).heap ∧ Below w.heap.size w wx)
          case first =>
            go_region_held3 (fun w' => w'.cell? ⟨X, 7, none⟩ = some (.int .i64 x.s.cf) ∧ w'.cell? ⟨X, 8, none⟩ = some (.int .i64 x.s.ct)) (first | go_keep | exact ⟨by assumption, by assumption⟩)
              (first | (go_at_call 26; rw [HM.out]; refine (mult_any M 60 _ hM0 hM1 (.inr rfl)).mono ?_; intro e w9 hh; rw [hh.1, hh.2]; clear hh))
            all_goals
              go_wp2_with fail
              all_goals
                go_meet
                have e := HN.out
                refine ⟨?_, by first | exact below_drewN (BB.out _ _ bel3) 1 | exact BB.out _ _ (below_drewN bel3 1)⟩
                first | (rw [if_pos (by assumption)] at e; rw [← e]; rfl) | (rw [if_neg (by omega)] at e; rw [← e]; rfl) | (rw [← e]; rfl)
          case rest =>
          obtain ⟨hh3, bel4⟩ := hcut
          obtain ⟨W3, hW3⟩ : ∃ W, W = wc := ⟨_, rfl⟩
          rw [← hW3] at hh3 bel4 ⊢
          clear hW3 BB HM hM0 hM1
          have Y4 : W3.heap[Y]? = some (sob (.slice A0 m0 D0) (.slice A1 m1 D1) (.slice A2 m2 D2) (.slice A3 m3 D3) (.int .i64 x.s.rf) (.int .i64 x.s.ff) (.int .i64 x.s.ft) (.int .i64 N) (.int .i64 x.s.ct)) := by rw [hh3]; exact set_block Y3 _
          have R4 : W3.heap[X + 1]? = some (sob (.slice none 0 0) (.slice none 0 0) (.slice none 0 0) (.slice none 0 0) (.int .i64 0) (.int .i64 0) (.int .i64 0) (.int .i64 0) (.int .i64 0)) := by rw [hh3, setCell_far (fun e => hYR e.symm)]; exact R3
          have B4 : W3.heap[X]? = some (sob (.slice x.a0 m0 x.c0) (.slice x.a1 m1 x.c1) (.slice x.a2 m2 x.c2) (.slice x.a3 m3 x.c3) (.int .i64 x.s.rf) (.int .i64 x.s.ff) (.int .i64 x.s.ft) (.int .i64 x.s.cf) (.int .i64 x.s.ct)) := by rw [hh3, setCell_far (fun e => hYX e.symm)]; exact B3
          have o0 : W3.ownsRow w1.heap.size 71 2 (.slice A0 m0 D0) m0 (lcells x.s.se) := own_heap hh3 (ownsRow_setCell_other p0 (own_far p0 Y3 (by decide)) _)
          have o1 : W3.ownsRow w1.heap.size 29 2 (.slice A1 m1 D1) m1 (scells x.s.ra) := own_heap hh3 (ownsRow_setCell_other p1 (own_far p1 Y3 (by decide)) _)
          have o2 : W3.ownsRow w1.heap.size 67 8 (.slice A2 m2 D2) m2 (kcells x.s.fi) := own_heap hh3 (ownsRow_setCell_other p2 (own_far p2 Y3 (by decide)) _)
          have o3 : W3.ownsRow w1.heap.size 67 8 (.slice A3 m3 D3) m3 (kcells x.s.co) := own_heap hh3 (ownsRow_setCell_other p3 (own_far p3 Y3 (by decide)) _)
          have HL2 := hide o2.lt
          have HL3 := hide o3.lt
          have hs4 : W3.heap.size = W2.heap.size := by rw [hh3]; simp
          have hx4 := hx.below bel4
          have hYs4 : Y < W3.heap.size := by omega
          clear hh3 Y3 R3 B3 p0 p1 p2 p3 hx3 bel3 b0 b1 b2 b3 b4 b5 b6 b7 b8 y0 y1 y2 y3 y4 y5 y6 y7 y8 g0 g1 g2 g3 g4 g5 g6 g7 g8
          obtain ⟨b0, b1, b2, b3, b4, b5, b6, b7, b8⟩ := sob_cells B4
          have hE := hide (enters (P := Try.prog) Try.func34 (by kernel_rfl) (by kernel_rfl))
          have HF : Hid (∀ W K, Below W3.heap.size W3 W → Calls Try.prog 34 (#[kv K] ++ #[.pointer (some ⟨Y, 0, none⟩)]) W fun e W' => e = .returned (.bool (decide (N ≤ K.a))) ∧ Below W.heap.size W W') := by
            intro W K hb
            have := fg3_any K N Y W (sob_cells (below_block hb Y4)).2.2.2.2.2.2.2.1
            simpa using this
          go_wp2_with fail
          refine (kkept_any x.s.co (fun K => decide (N ≤ K.a)) 34 _ x.a3 m3 x.c3 W3 hx4.g3 H3.out (by omega) hE HF.out).mono ?_
          rintro e w4 ⟨co, Nk, d, rfl, own, hb4⟩
          have bel5 : Below w.heap.size w w4 := bel4.trans (hb4.mono bel4.size)
          have Y5 := below_block hb4 Y4
          have R5 := below_block hb4 R4
          have q0 := own_below o0 hb4
          have q1 := own_below o1 hb4
          have q2 := own_below o2 hb4
          have q3 := own_below o3 hb4
          have hs5 := hb4.size
          clear hb4 Y4 R4 B4 o0 o1 o2 o3 HF hE b0 b1 b2 b3 b4 b5 b6 b7 b8 bel4 hx4
          obtain ⟨y0, y1, y2, y3, y4, y5, y6, y7, y8⟩ := sob_cells Y5
          obtain ⟨g0, g1, g2, g3, g4, g5, g6, g7, g8⟩ := sob_free Y5
          obtain ⟨W5, hW5⟩ : ∃ W, W = w4.setCell ⟨Y, 3, none⟩ (.slice co Nk d) := ⟨_, rfl⟩
          have Y6 : W5.heap[Y]? = some (sob (.slice A0 m0 D0) (.slice A1 m1 D1) (.slice A2 m2 D2) (.slice co Nk d) (.int .i64 x.s.rf) (.int .i64 x.s.ff) (.int .i64 x.s.ft) (.int .i64 N) (.int .i64 x.s.ct)) := by rw [hW5]; exact set_block Y5 _
          have R6 : W5.heap[X + 1]? = some (sob (.slice none 0 0) (.slice none 0 0) (.slice none 0 0) (.slice none 0 0) (.int .i64 0) (.int .i64 0) (.int .i64 0) (.int .i64 0) (.int .i64 0)) := by rw [hW5, setCell_far (fun e => hYR e.symm)]; exact R5
          have bel6 : Below w.heap.size w W5 := by rw [hW5]; exact bel5.setCell (by have := HX.out; show w.heap.size ≤ Y; omega) _
          have c0 : W5.ownsRow w1.heap.size 71 2 (.slice A0 m0 D0) m0 (lcells x.s.se) := by rw [hW5]; exact ownsRow_setCell_other q0 (own_far q0 Y5 (by decide)) _
          have c1 : W5.ownsRow w1.heap.size 29 2 (.slice A1 m1 D1) m1 (scells x.s.ra) := by rw [hW5]; exact ownsRow_setCell_other q1 (own_far q1 Y5 (by decide)) _
          have c2 : W5.ownsRow w1.heap.size 67 8 (.slice A2 m2 D2) m2 (kcells x.s.fi) := by rw [hW5]; exact ownsRow_setCell_other q2 (own_far q2 Y5 (by decide)) _
          have c3 : W5.ownsRow W3.heap.size 67 8 (.slice co Nk d) Nk (kcells (x.s.co.filter fun b => decide (N ≤ b.a))) := by rw [hW5]; exact ownsRow_setCell_other own (own_far own Y5 (by decide)) _
          have HLO := hide own.lt
          have HW5 := hide hW5
          clear hW5 Y5 R5 bel5 own q0 q1 q2 q3
          go_upto_region 16 with fail
          rw [← HW5.out]
          clear HW5 y0 y1 y2 y3 y4 y5 y6 y7 y8 g0 g1 g2 g3 g4 g5 g6 g7 g8
          obtain ⟨b0, b1, b2, b3, b4, b5, b6, b7, b8⟩ := sob_cells Y6
          obtain ⟨q0, q1, q2, q3, q4, q5, q6, q7, q8⟩ := sob_cells R6
          obtain ⟨f0, f1, f2, f3, f4, f5, f6, f7, f8⟩ := sob_free R6
          go_wp2
          refine bodyPost_ret (v := .tuple #[.agg #[.slice A0 m0 D0, .slice A1 m1 D1, .slice A2 m2 D2, .slice co Nk d, .int .i64 x.s.rf, .int .i64 x.s.ff, .int .i64 x.s.ft, .int .i64 N, .int .i64 x.s.ct], .int .i64 0]) (by simp [results, Try.results10, go_sem, q0, q1, q2, q3, q4, q5, q6, q7, q8]) rfl ?_
          have hlr : Nk = (x.s.co.filter fun b => decide (N ≤ b.a)).length := own_klen c3
          have hfl : (x.s.co.filter fun b => decide (N ≤ b.a)).length ≤ m3 := by rw [H3.out]; exact List.length_filter_le _ _
          have hbw : w.heap.size ≤ w1.heap.size := by have := HX.out; omega
          have hbw3 : w.heap.size ≤ W3.heap.size := by have := HX.out; omega
          refine ⟨⟨{ x.s with cf := N, co := x.s.co.filter fun b => decide (N ≤ b.a) }, A0, D0, A1, D1, A2, D2, co, d⟩, ?_, ?_, ⟨?_, ?_, ?_, ?_, ?_, ofits, ?_, ?_, ?_, ?_⟩, below_set9 bel6 (by have := HX.out; omega) _ _ _ _ _ _ _ _ _⟩
          · rw [HP2.out]
            simp only [ShT.v, ← hlr, ← H0.out, ← H1.out, ← H2.out]
          · rw [HP2.out]
          · simp only [← H0.out]; exact own_down (own_set9 c0 (by omega) _ _ _ _ _ _ _ _ _) hbw
          · simp only [← H1.out]; exact own_down (own_set9 c1 (by omega) _ _ _ _ _ _ _ _ _) hbw
          · simp only [← H2.out]; exact own_down (own_set9 c2 (by omega) _ _ _ _ _ _ _ _ _) hbw
          · simp only [← hlr]; exact own_down (own_set9 c3 (by omega) _ _ _ _ _ _ _ _ _) hbw3
          · simp only [← hlr, ← H2.out]; intro g hg e; have h1 := (HLO.out g e).1; have h2 := (HL2.out g hg).2; omega
          · show x.s.se.length * 32 ≤ _; rw [← H0.out]; exact on0
          · show x.s.ra.length * 16 ≤ _; rw [← H1.out]; exact on1
          · show x.s.fi.length * 64 ≤ _; rw [← H2.out]; exact on2
          · show (x.s.co.filter fun b => decide (N ≤ b.a)).length * 64 ≤ _; omega
        · have HP2 := hide (HP1.out.trans ((if_neg k0).trans ((if_neg k1).trans (if_neg k2))))
          have n0 := ne_beq k0
          have n1 : (tier == 1) = false := by simpa using k1
          have n2 : (tier == 2) = false := by simpa using k2
          clear HP1 k0 k1 k2 y0 y1 y2 y3 y4 y5 y6 y7 y8 g0 g1 g2 g3 g4 g5 g6 g7 g8
          obtain ⟨q0, q1, q2, q3, q4, q5, q6, q7, q8⟩ := sob_cells R3
          obtain ⟨f0, f1, f2, f3, f4, f5, f6, f7, f8⟩ := sob_free R3
          go_wp2
          exact bodyPost_ret (v := .tuple #[.agg #[.slice none 0 0, .slice none 0 0, .slice none 0 0, .slice none 0 0, .int .i64 0, .int .i64 0, .int .i64 0, .int .i64 0, .int .i64 0], .int .i64 1]) (by simp [results, Try.results10, go_sem, q0, q1, q2, q3, q4, q5, q6, q7, q8]) rfl (shpost_no HP2.out (below_set9 bel3 (by have := HX.out; omega) _ _ _ _ _ _ _ _ _))
  · have n := ne_beq z
    have HP1 : Hid (r = (Grain.szero, E)) := by show _ = _; rw [HP.out, if_pos z]
    clear HP z HSR
    obtain ⟨q0, q1, q2, q3, q4, q5, q6, q7, q8⟩ := sob_cells R1
    obtain ⟨f0, f1, f2, f3, f4, f5, f6, f7, f8⟩ := sob_free R1
    go_wp2
    exact bodyPost_ret (v := .tuple #[.agg #[.slice none 0 0, .slice none 0 0, .slice none 0 0, .slice none 0 0, .int .i64 0, .int .i64 0, .int .i64 0, .int .i64 0, .int .i64 0], .int .i64 E]) (by simp [results, Try.results10, go_sem, q0, q1, q2, q3, q4, q5, q6, q7, q8]) rfl (shpost_no HP1.out (below_set9 bel1 (by have := HX.out; omega) _ _ _ _ _ _ _ _ _))

end Go.Proofs.Ytcgcefnfelmmkaa
