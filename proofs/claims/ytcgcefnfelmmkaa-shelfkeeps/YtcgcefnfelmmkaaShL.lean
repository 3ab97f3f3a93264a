/-
  The walk of Roll.
-/
import Derived.Test.YtcgcefnfelmmkaaShJ
import Derived.Test.YtcgcefnfelmmkaaRollGr
import Derived.Deep.RegionWith
import Derived.Deep.RegionLaw
namespace Go.Proofs.Ytcgcefnfelmmkaa
open Go.RowKit Go.GrainU

theorem rl1_any (t v f n : Int) (B1 B2 : Nat) (w : World) (h1 : w.cell? ⟨B1, 6, none⟩ = some (.int .i64 f)) (h2 : w.cell? ⟨B2, 6, none⟩ = some (.int .i64 n)) :
    Calls Try.prog 28 #[.agg #[.int .i64 t, .int .i64 v], .pointer (some ⟨B1, 0, none⟩), .pointer (some ⟨B2, 0, none⟩)] w fun e w' => e = .returned (.bool (decide (f ≤ t ∧ t < n))) ∧ Below w.heap.size w w' := by
  have hl1 : B1 < w.heap.size := World.block_lt_of_cell? w _ h1
  have hl2 : B2 < w.heap.size := World.block_lt_of_cell? w _ h2
  have bel : Below w.heap.size w (w.alloc (.cells #[.int .i64 t, .int .i64 v] 29)) := (Below.refl _ _).alloc (Nat.le_refl _) _
  go_enter Try.func28, Try.ntmps28
  go_wp2
  all_goals
    go_ret
    refine ⟨ret_bool ?_, bel⟩
    (rw [Bool.eq_iff_iff]) <;> simp <;> try omega

theorem rl2_any (K : Grain.Bk) (f n : Int) (B1 B2 : Nat) (w : World) (h1 : w.cell? ⟨B1, 8, none⟩ = some (.int .i64 f)) (h2 : w.cell? ⟨B2, 8, none⟩ = some (.int .i64 n)) :
    Calls Try.prog 30 #[kv K, .pointer (some ⟨B1, 0, none⟩), .pointer (some ⟨B2, 0, none⟩)] w fun e w' => e = .returned (.bool (decide (f ≤ K.a ∧ K.a < n))) ∧ Below w.heap.size w w' := by
  have hl1 : B1 < w.heap.size := World.block_lt_of_cell? w _ h1
  have hl2 : B2 < w.heap.size := World.block_lt_of_cell? w _ h2
  have bel : Below w.heap.size w (w.alloc (ko K)) := (Below.refl _ _).alloc (Nat.le_refl _) _
  unfold ko at bel
  unfold kv
  go_enter Try.func30, Try.ntmps30
  go_wp2
  all_goals
    go_ret
    refine ⟨ret_bool ?_, bel⟩
    (rw [Bool.eq_iff_iff]) <;> simp <;> try omega

theorem so_free {w : World} {B : Nat} {x : ShT} (h : w.heap[B]? = some (so x)) :
    w.frozen? ⟨B, 0, none⟩ = false ∧ w.frozen? ⟨B, 1, none⟩ = false ∧ w.frozen? ⟨B, 2, none⟩ = false ∧ w.frozen? ⟨B, 3, none⟩ = false ∧ w.frozen? ⟨B, 4, none⟩ = false ∧ w.frozen? ⟨B, 5, none⟩ = false ∧ w.frozen? ⟨B, 6, none⟩ = false ∧ w.frozen? ⟨B, 7, none⟩ = false ∧ w.frozen? ⟨B, 8, none⟩ = false := by
  unfold so at h
  simp [World.frozen?, h]

/-- nothing on it, as cells -/
theorem sz_cells {w : World} {B : Nat} (h : w.heap[B]? = some (so szT)) :
    w.cell? ⟨B, 0, none⟩ = some (.slice none 0 0) ∧ w.cell? ⟨B, 1, none⟩ = some (.slice none 0 0) ∧ w.cell? ⟨B, 2, none⟩ = some (.slice none 0 0) ∧ w.cell? ⟨B, 3, none⟩ = some (.slice none 0 0) ∧ w.cell? ⟨B, 4, none⟩ = some (.int .i64 0) ∧ w.cell? ⟨B, 5, none⟩ = some (.int .i64 0) ∧ w.cell? ⟨B, 6, none⟩ = some (.int .i64 0) ∧ w.cell? ⟨B, 7, none⟩ = some (.int .i64 0) ∧ w.cell? ⟨B, 8, none⟩ = some (.int .i64 0) := nine_cells h

/-- the new shelf's cells, behind fine buckets' append -/
theorem so_grown {w : World} {base X Y : Nat} {x z : ShT} {W W' : World} (h : RS w base X Y x z W) (gr : W.grownBy W' (Value.slice z.a2 z.s.fi.length z.c2).ownBlock) : W'.heap[Y]? = some (so z) := by
  have hl : Y < W.heap.size := by
    rcases Nat.lt_or_ge Y W.heap.size with h' | h'
    · exact h'
    · have := h.y; rw [Array.getElem?_eq_none h'] at this; cases this
  rw [gr.block Y hl (fun e => own_far h.own.o2 h.y (by decide) e.symm)]; exact h.y

theorem so_grown3 {w : World} {base X Y : Nat} {x z : ShT} {W W' : World} (h : RS w base X Y x z W) (gr : W.grownBy W' (Value.slice z.a3 z.s.co.length z.c3).ownBlock) : W'.heap[Y]? = some (so z) := by
  have hl : Y < W.heap.size := by
    rcases Nat.lt_or_ge Y W.heap.size with h' | h'
    · exact h'
    · have := h.y; rw [Array.getElem?_eq_none h'] at this; cases this
  rw [gr.block Y hl (fun e => own_far h.own.o3 h.y (by decide) e.symm)]; exact h.y

set_option maxHeartbeats 4000000 in
theorem sroll_any (x : ShT) (tt : Int) (w : World) (hx : ShIn w x) :
    Calls Try.prog 9 #[x.v, .int .i64 tt] w (ShPost w (Grain.sroll x.s tt)) := by
  have HP : Hid (Grain.sroll x.s tt = if Grain.wrongAt x.s tt ≠ 0 then (Grain.szero, Grain.wrongAt x.s tt) else if 500 < (Grain.nfi x.s tt).length then (Grain.szero, 5) else if 500 < (Grain.nco x.s tt).length then (Grain.szero, 5)
      else ({ x.s with fi := Grain.nfi x.s tt, co := Grain.nco x.s tt, ft := Grain.nft x.s tt, ct := Grain.nct x.s tt }, 0)) := rfl
  obtain ⟨r, hr⟩ : ∃ r, r = Grain.sroll x.s tt := ⟨_, rfl⟩
  rw [← hr] at HP ⊢
  clear hr
  have HSR : Hid (Grain.wrongAt x.s tt = 0 → Grain.SR x.s ∧ 0 ≤ tt ∧ tt ≤ 1000000) := fun h => Grain.wrongAt_zero h
  have Hv : Hid (x.v = .agg #[.slice x.a0 x.s.se.length x.c0, .slice x.a1 x.s.ra.length x.c1, .slice x.a2 x.s.fi.length x.c2, .slice x.a3 x.s.co.length x.c3, .int .i64 x.s.rf, .int .i64 x.s.ff, .int .i64 x.s.ft, .int .i64 x.s.cf, .int .i64 x.s.ct]) := rfl
  rw [Hv.out]
  obtain ⟨X, hX⟩ : ∃ X, X = w.heap.size := ⟨_, rfl⟩
  obtain ⟨U, hU⟩ : ∃ U, U = w.alloc (so x) := ⟨_, rfl⟩
  obtain ⟨V, hV⟩ : ∃ V, V = U.alloc (so szT) := ⟨_, rfl⟩
  have hUs : U.heap.size = X + 1 := by rw [hU, hX]; simp
  have hVs : V.heap.size = X + 2 := by rw [hV]; simp [hUs]
  have bel : Below w.heap.size w V := by rw [hV, hU]; exact ((Below.refl _ _).alloc (Nat.le_refl _) _).alloc (by simp) _
  have B0 : V.heap[X]? = some (so x) := by
    rw [hV, Below.heap_alloc _ _ _ (by omega), hU, hX]; exact heap_alloc_new w _
  have R0 : V.heap[X + 1]? = some (so szT) := by
    rw [hV, ← hUs]; exact heap_alloc_new _ _
  have HV : Hid (V = (w.alloc (.cells #[.slice x.a0 x.s.se.length x.c0, .slice x.a1 x.s.ra.length x.c1, .slice x.a2 x.s.fi.length x.c2, .slice x.a3 x.s.co.length x.c3, .int .i64 x.s.rf, .int .i64 x.s.ff, .int .i64 x.s.ft, .int .i64 x.s.cf, .int .i64 x.s.ct] 27)).alloc (.cells #[.slice none 0 0, .slice none 0 0, .slice none 0 0, .slice none 0 0, .int .i64 0, .int .i64 0, .int .i64 0, .int .i64 0, .int .i64 0] 27)) := by rw [hV, hU]; exact rfl
  have HX := hide hX
  have hxV := hx.below bel
  have HVs := hide hVs
  clear hU hV hX hUs hVs
  go_enter Try.func9, Try.ntmps9
  go_wp2_with fail
  rw [← HV.out, ← Hv.out, ← HX.out]
  refine (wrongAt_any x tt V hxV).mono ?_
  rintro e w1 ⟨rfl, hb1⟩
  have bel1 : Below w.heap.size w w1 := bel.trans (hb1.mono bel.size)
  have B1 := below_block hb1 B0
  have R1 := below_block hb1 R0
  have hx1 := hxV.below hb1
  have hs1 : X + 1 < w1.heap.size := by have := hb1.size; have := HVs.out; omega
  clear HV hb1 B0 R0 hxV bel HVs
  obtain ⟨E, hE⟩ : ∃ E, E = Grain.wrongAt x.s tt := ⟨_, rfl⟩
  rw [← hE] at HP HSR ⊢
  clear hE
  by_cases z : E = 0
  · subst z
    have HP1 := hide (HP.out.trans (if_neg (by simp)))
    obtain ⟨sr, t0, t1⟩ := HSR.out rfl
    have rlen := sr.rlen
    have flen := sr.flen
    have clen := sr.clen
    have SRx := hide sr
    clear HP HSR sr
    obtain ⟨b0, b1, b2, b3, b4, b5, b6, b7, b8⟩ := nine_cells B1
    go_wp2_with fail
    rw [← Hv.out]
    refine (cshelf_any x w1 hx1).mono ?_
    rintro e w2 ⟨z, rfl, hz, oz, hb2⟩
    have bel2 : Below w.heap.size w w2 := bel1.trans (hb2.mono bel1.size)
    obtain ⟨Y, hY⟩ : ∃ Y, Y = w2.heap.size := ⟨_, rfl⟩
    obtain ⟨W2, hW2⟩ : ∃ W, W = w2.alloc (so z) := ⟨_, rfl⟩
    have hbW : Below w2.heap.size w2 W2 := by rw [hW2]; exact (Below.refl _ _).alloc (Nat.le_refl _) _
    have rs0 : RS w w1.heap.size X Y x z W2 := by
      have hb12 := hb2.size
      refine ⟨by rw [hW2, hY]; exact heap_alloc_new w2 _, below_block hbW (below_block hb2 B1), below_block hbW (below_block hb2 R1), oz.below hbW, bel2.trans (hbW.mono bel2.size), by omega, by omega, ?_, hs1, by rw [HX.out]; exact Nat.le_refl _⟩
      rw [hY]; exact bel2.size
    have hbase : w1.heap.size ≤ W2.heap.size := Nat.le_trans hb2.size hbW.size
    have HW2 : Hid (W2 = w2.alloc (.cells #[.slice z.a0 z.s.se.length z.c0, .slice z.a1 z.s.ra.length z.c1, .slice z.a2 z.s.fi.length z.c2, .slice z.a3 z.s.co.length z.c3, .int .i64 z.s.rf, .int .i64 z.s.ff, .int .i64 z.s.ft, .int .i64 z.s.cf, .int .i64 z.s.ct] 27)) := hW2
    have HY := hide hY
    have HZ := hide hz
    simp only [ShT.v]
    clear hW2 hY hbW hb2 bel2 bel1 B1 R1 hx1 hz oz b0 b1 b2 b3 b4 b5 b6 b7 b8
    go_upto_region 5 with fail
    rw [← HW2.out, ← HY.out]
    clear HW2 HY
    obtain ⟨b0, b1, b2, b3, b4, b5, b6, b7, b8⟩ := nine_cells rs0.x
    obtain ⟨y0, y1, y2, y3, y4, y5, y6, y7, y8⟩ := nine_cells rs0.y
    obtain ⟨g0, g1, g2, g3, g4, g5, g6, g7, g8⟩ := so_free rs0.y
    obtain ⟨N, hN⟩ : ∃ N, N = Grain.nft x.s tt := ⟨_, rfl⟩
    have eN : (if x.s.ft < Grain.beg tt 10 then Grain.beg tt 10 else x.s.ft) = N := by rw [hN]; unfold Grain.nft; split <;> omega
    have HN := hide eN
    have HNN := hide hN
    have BB : Hid (∀ (W : World) (i : Nat) (u : Value), Below w.heap.size w W → Below w.heap.size w (W.setCell ⟨Y, i, none⟩ u)) := fun W i u h => h.setCell rs0.yw u
    have bel3 := rs0.bel
    have hYX := rs0.dx
    have hYR := rs0.dr
    clear hN eN
    go_cut [] from 19 to 24 (fun wx => wx.heap = (W2.setCell ⟨Y, 6, none⟩ (.int .i64 N)).heap ∧ Below w.heap.size w wx)
    case first =>
      go_region_held3 (fun w' => w'.cell? ⟨X, 6, none⟩ = some (.int .i64 x.s.ft)) (first | go_keep | assumption)
        (first | (go_at_call 26; refine (mult_any tt 10 _ t0 t1 (.inl rfl)).mono ?_; intro e w9 hh; rw [hh.1, hh.2]; clear hh))
      all_goals
        go_wp2_with fail
        all_goals
          go_meet
          have e := HN.out
          refine ⟨?_, by first | exact below_drewN (BB.out _ _ _ bel3) 1 | exact BB.out _ _ _ (below_drewN bel3 1)⟩
          first | (rw [if_pos (by assumption)] at e; rw [← e]; rfl) | (rw [if_neg (by omega)] at e; rw [← e]; rfl) | (rw [← e]; rfl)
    case rest =>
    obtain ⟨hh3, bel4⟩ := hcut
    have rs1 := rs0.ft hh3 bel4
    obtain ⟨z1, hz1⟩ : ∃ z1, z1 = ({ z with s := { z.s with ft := N } } : ShT) := ⟨_, rfl⟩
    rw [← hz1] at rs1
    have HZ1 : Hid (z1.s = { x.s with ft := N }) := by show _ = _; rw [hz1, HZ.out]
    have hbase1 : w1.heap.size ≤ wc.heap.size := by rw [hh3]; simpa using hbase
    obtain ⟨W3, hW3⟩ : ∃ W, W = wc := ⟨_, rfl⟩
    rw [← hW3] at rs1 hbase1 ⊢
    clear hW3 hz1 hh3 bel4 bel3 BB HN rs0 hbase b0 b1 b2 b3 b4 b5 b6 b7 b8 y0 y1 y2 y3 y4 y5 y6 y7 y8 g0 g1 g2 g3 g4 g5 g6 g7 g8
    obtain ⟨b0, b1, b2, b3, b4, b5, b6, b7, b8⟩ := nine_cells rs1.x
    have hx3 := hx.below rs1.bel
    have hE := hide (enters (P := Try.prog) Try.func28 (by kernel_rfl) (by kernel_rfl))
    have HF : Hid (∀ W t v, Below W3.heap.size W3 W → Calls Try.prog 28 (#[.agg #[.int .i64 t, .int .i64 v]] ++ #[.pointer (some ⟨X, 0, none⟩), .pointer (some ⟨Y, 0, none⟩)]) W fun e W' => e = .returned (.bool (decide (x.s.ft ≤ t ∧ t < N))) ∧ Below W.heap.size W W') := by
      intro W t v hb
      have h6 := (nine_cells (below_block hb rs1.y)).2.2.2.2.2.2.1
      rw [HZ1.out] at h6
      have := rl1_any t v x.s.ft N X Y W (nine_cells (below_block hb rs1.x)).2.2.2.2.2.2.1 h6
      simpa using this
    go_wp2_with fail
    refine (skept_any x.s.ra (fun t _ => decide (x.s.ft ≤ t ∧ t < N)) 28 _ x.a1 _ x.c1 W3 hx3.g1 rfl (by omega) hE HF.out).mono ?_
    rintro e w4 ⟨co, Nk, d, rfl, own, hb4⟩
    have HL : Hid ((x.s.ra.filter fun y => decide (x.s.ft ≤ y.1 ∧ y.1 < N)) = Grain.win x.s.ra x.s.ft N) := rfl
    rw [HL.out] at own
    have rs2 := rs1.call hb4
    have hbase2 : w1.heap.size ≤ w4.heap.size := Nat.le_trans hbase1 hb4.size
    obtain ⟨L, hL⟩ : ∃ L, L = Grain.win x.s.ra x.s.ft N := ⟨_, rfl⟩
    rw [← hL] at own
    have segL := own_seg' own
    have hNk := own_slen own
    have hLl : L.length ≤ 500 := by rw [hL]; exact Nat.le_trans (Grain.win_len _ _ _) rlen
    have htm : ∀ j, j < L.length → 0 ≤ Grain.tm L j ∧ Grain.tm L j ≤ 1000000 := by
      intro j hj
      rw [(Grain.tm_get hj).1]
      have hm := List.getElem_mem hj
      obtain ⟨q, hq⟩ : ∃ q, q = L[j] := ⟨_, rfl⟩
      rw [← hq] at hm ⊢
      rw [hL] at hm
      have h1 := SRx.out.rin _ (List.mem_filter.1 hm).1
      simp only [Grain.inR, decide_eq_true_eq] at h1
      omega
    have HF2 : Hid (Grain.nfi x.s tt = x.s.fi ++ Grain.up L 10) := by
      show _ = _
      unfold Grain.nfi
      rw [hL, HNN.out]
    have HNk := hide hNk
    have HTM := hide htm
    clear hL HF hE hx3 b0 b1 b2 b3 b4 b5 b6 b7 b8 rs1 hbase1 hb4 own hNk htm
    obtain ⟨y0, y1, y2, y3, y4, y5, y6, y7, y8⟩ := nine_cells rs2.y
    obtain ⟨g0, g1, g2, g3, g4, g5, g6, g7, g8⟩ := so_free rs2.y
    obtain ⟨i0, hi, hz0, hz1, hz2⟩ := sinfo_parts Try.infoBucket
    have hz1fi : z1.s.fi = x.s.fi := by rw [HZ1.out]
    have HZF := hide hz1fi
    have hfl : z1.s.fi.length ≤ 500 := by rw [hz1fi]; exact flen
    clear hz1fi
    go_upto_region 7 with fail
    go_cut [] from 29 to 34 (fun wx => ∃ z2 : ShT, Hid (z2.s = { x.s with ft := N, fi := Grain.nfi x.s tt }) ∧ w1.heap.size ≤ wx.heap.size ∧ z2.s.fi.length ≤ 1000 ∧ RS w w1.heap.size X Y x z2 wx)
    case first =>
      have UPC : Hid (∀ W : World, Below w4.heap.size w4 W → Calls Try.prog 14 #[.slice co Nk d, .int .i64 1] W fun e w' => ∃ uo M ud, e = .returned (.slice uo M ud) ∧ w'.ownsRow W.heap.size 67 8 (.slice uo M ud) M (kcells (Grain.up L 10)) ∧ Hid (M = (Grain.up L 10).length) ∧ M ≤ 500 ∧ Below W.heap.size W w') := by
        intro W hb
        have hk := HNk.out
        refine (up_yes L co Nk d 1 10 W (segL.below hb) hk (by omega) HTM.out rfl (.inl rfl)).mono ?_
        rintro e w5 ⟨uo, M, ud, rfl, ownU, hb5⟩
        have hM := own_klen ownU
        have := (Grain.up_fit 10 L (by omega)).len
        exact ⟨uo, M, ud, rfl, ownU, hM, by omega, hb5⟩
      go_region_law
        (first
          | (rw [if_pos (by rfl)]; go_simp; go_at_call 14; refine (UPC.out _ (below_drewN (Below.refl _ w4) 1)).mono ?_; rintro e w5 ⟨uo, M, ud, rfl, ownU, hM, hMl, hb5⟩; have hb45 : Below w4.heap.size w4 w5 := (below_drewN (Below.refl _ w4) 1).trans hb5; have rs3 := rs2.call hb45; obtain ⟨u0, u1, u2, u3, u4, u5, u6, u7, u8⟩ := nine_cells rs3.y; have hbase3 : w1.heap.size ≤ w5.heap.size := Nat.le_trans hbase2 hb45.size)
          | (refine step_append_seg (by rfl) (.tmp 30) (.tmp 32) 25 (by rfl) w1.heap.size 67 i0 (.agg #[.int .i64 0, .int .i64 0, .int .i64 0, .int .i64 0, .int .i64 0, .int .i64 0, .int .i64 0, .int .i64 0]) 8 64 Try.underlying25 hi hz0 hz1 hz2 rfl (by decide) (.slice z1.a2 z1.s.fi.length z1.c2) z1.s.fi.length (kcells z1.s.fi) (by rfl) rs3.own.o2 uo M ud (kcells (Grain.up L 10)) (by rfl) (own_nil ownU) (own_seg' ownU) (by rw [kcells_length, ← hM.out]) (kcells_one _) (by unfold maxLen; omega) (by omega) hbase3 ?_; intro v' w6 own6 gr6 hat6; obtain ⟨A, D, hvA, _, _⟩ := own_open own6; subst hvA; rw [← kcells_append] at own6; obtain ⟨hk6, rs6⟩ := rs3.fine gr6 own6 hat6 (by rw [List.length_append, ← hM.out]; omega); have HK6 := hide hk6; clear hk6; obtain ⟨v0, v1, v2, v3, v4, v5, v6, v7, v8⟩ := nine_cells (so_grown rs3 gr6); obtain ⟨j0, j1, j2, j3, j4, j5, j6, j7, j8⟩ := so_free (so_grown rs3 gr6)))
      all_goals
        go_wp2_with fail
        go_meet
        refine ⟨_, ?_, ?_, ?_, rs6⟩
        · show _ = _
          rw [HZ1.out, HF2.out]
        · have := gr6.size; simp; omega
        · show (z1.s.fi ++ Grain.up L 10).length ≤ 1000
          rw [List.length_append, ← hM.out]; omega
    case rest =>
    obtain ⟨z2, HZ2, hbase3, hlen2, rs3⟩ := hcut
    obtain ⟨W5, hW5⟩ : ∃ W, W = wc := ⟨_, rfl⟩
    rw [← hW5] at rs3 hbase3 ⊢
    have hN0 : 0 ≤ N ∧ N ≤ 1000000 := by
      have h1 := SRx.out.fsp
      have h2 := Grain.beg_bd (t := tt) (st := 10) (.inl rfl) t0
      rw [HNN.out]
      unfold Grain.nft
      omega
    have hct0 : 0 ≤ x.s.ct ∧ x.s.ct ≤ 1000000 := by have := SRx.out.csp; omega
    clear hW5 rs2 hbase2 segL HNk HTM HF2 HZF hfl HZ1 HL hi hz0 hz1 hz2 y0 y1 y2 y3 y4 y5 y6 y7 y8 g0 g1 g2 g3 g4 g5 g6 g7 g8 hLl
    obtain ⟨y0, y1, y2, y3, y4, y5, y6, y7, y8⟩ := nine_cells rs3.y
    obtain ⟨q0, q1, q2, q3, q4, q5, q6, q7, q8⟩ := sz_cells rs3.r
    obtain ⟨f0, f1, f2, f3, f4, f5, f6, f7, f8⟩ := so_free rs3.r
    have hfe : z2.s.fi.length = (Grain.nfi x.s tt).length := by rw [HZ2.out]
    have HFE := hide hfe
    clear hfe
    by_cases h5 : 500 < z2.s.fi.length
    · have HP2 : Hid (r = (Grain.szero, 5)) := by show _ = _; rw [HP1.out, if_pos (by rw [← HFE.out]; exact h5)]
      have hd : decide ((500 : Int) < (z2.s.fi.length : Int)) = true := by simp; omega
      clear HP1 h5
      go_wp2
      exact bodyPost_ret (v := .tuple #[.agg #[.slice none 0 0, .slice none 0 0, .slice none 0 0, .slice none 0 0, .int .i64 0, .int .i64 0, .int .i64 0, .int .i64 0, .int .i64 0], .int .i64 5]) (by simp [results, Try.results9, go_sem, q0, q1, q2, q3, q4, q5, q6, q7, q8]) rfl (shpost_no HP2.out (below_set9 rs3.bel (by have := rs3.xw; omega) _ _ _ _ _ _ _ _ _))
    · have HP2 := hide (HP1.out.trans (if_neg (by rw [← HFE.out]; exact h5)))
      have hd : decide ((500 : Int) < (z2.s.fi.length : Int)) = false := by simp; omega
      clear HP1 q0 q1 q2 q3 q4 q5 q6 q7 q8 f0 f1 f2 f3 f4 f5 f6 f7 f8
      obtain ⟨b0, b1, b2, b3, b4, b5, b6, b7, b8⟩ := nine_cells rs3.x
      obtain ⟨g0, g1, g2, g3, g4, g5, g6, g7, g8⟩ := so_free rs3.y
      have y6' : W5.cell? ⟨Y, 6, none⟩ = some (.int .i64 N) := by rw [y6, HZ2.out]
      obtain ⟨C, hC⟩ : ∃ C, C = Grain.nct x.s tt := ⟨_, rfl⟩
      have eC : (if x.s.ct < Grain.beg N 60 then Grain.beg N 60 else x.s.ct) = C := by rw [hC]; unfold Grain.nct; rw [← HNN.out]; split <;> omega
      have hC1 : C ≤ 1000000 := by
        have := Grain.beg_bd (t := N) (st := 60) (.inr rfl) hN0.1
        rw [← eC]; split <;> omega
      have HC := hide eC
      have HCC := hide hC
      have BB : Hid (∀ (W : World) (i : Nat) (u : Value), Below w.heap.size w W → Below w.heap.size w (W.setCell ⟨Y, i, none⟩ u)) := fun W i u h => h.setCell rs3.yw u
      have bel3 := rs3.bel
      have HS : Hid (∀ n : Int, (W5.setCell ⟨Y, 8, none⟩ (.int .i64 n)).drew.cell? ⟨X, 8, none⟩ = some (.int .i64 x.s.ct) ∧ (W5.setCell ⟨Y, 8, none⟩ (.int .i64 n)).drew.cell? ⟨Y, 6, none⟩ = some (.int .i64 N)) := by
        intro n
        have rs := rs3.ct (N := n) (W' := (W5.setCell ⟨Y, 8, none⟩ (.int .i64 n)).drew) rfl (below_drewN (BB.out _ _ _ bel3) 1)
        refine ⟨(nine_cells rs.x).2.2.2.2.2.2.2.2, ?_⟩
        have h6 := (nine_cells rs.y).2.2.2.2.2.2.1
        rw [HZ2.out] at h6
        exact h6
      clear hC eC y6
      go_upto_region 10 with fail
      go_cut [] from 40 to 46 (fun wx => wx.heap = (W5.setCell ⟨Y, 8, none⟩ (.int .i64 C)).heap ∧ Below w.heap.size w wx)
      case first =>
        go_region_held3 (fun w' => w'.cell? ⟨X, 8, none⟩ = some (.int .i64 x.s.ct) ∧ w'.cell? ⟨Y, 6, none⟩ = some (.int .i64 N)) (first | exact HS.out _ | go_keep | exact ⟨by assumption, by assumption⟩)
          (first | (go_at_call 26; refine (mult_any N 60 _ hN0.1 hN0.2 (.inr rfl)).mono ?_; intro e w9 hh; rw [hh.1, hh.2]; clear hh))
        all_goals
          go_wp2_with fail
          all_goals
            go_meet
            have e := HC.out
            refine ⟨?_, by first | exact below_drewN (BB.out _ _ _ bel3) 1 | exact BB.out _ _ _ (below_drewN bel3 1)⟩
            first | (rw [if_pos (by assumption)] at e; rw [← e]; rfl) | (rw [if_neg (by omega)] at e; rw [← e]; rfl) | (rw [← e]; rfl)
      case rest =>
      obtain ⟨hh3, bel4⟩ := hcut
      have rs4 := rs3.ct hh3 bel4
      obtain ⟨z3, hz3⟩ : ∃ z3, z3 = ({ z2 with s := { z2.s with ct := C } } : ShT) := ⟨_, rfl⟩
      rw [← hz3] at rs4
      have HZ3 : Hid (z3.s = { x.s with ft := N, fi := Grain.nfi x.s tt, ct := C }) := by show _ = _; rw [hz3, HZ2.out]
      have hbase4 : w1.heap.size ≤ wc.heap.size := by rw [hh3]; simpa using hbase3
      have hlen3 : z3.s.fi.length ≤ 500 := by rw [hz3]; exact Nat.le_of_not_lt h5
      obtain ⟨W6, hW6⟩ : ∃ W, W = wc := ⟨_, rfl⟩
      rw [← hW6] at rs4 hbase4 ⊢
      clear hW6 hz3 hh3 bel4 bel3 BB HS HC rs3 hbase3 h5 hd y6' b0 b1 b2 b3 b4 b5 b6 b7 b8 y0 y1 y2 y3 y4 y5 y7 y8 g0 g1 g2 g3 g4 g5 g6 g7 g8 HZ2 HFE hlen2
      obtain ⟨y0, y1, y2, y3, y4, y5, y6, y7, y8⟩ := nine_cells rs4.y
      have hE := hide (enters (P := Try.prog) Try.func30 (by kernel_rfl) (by kernel_rfl))
      have HF : Hid (∀ W K, Below W6.heap.size W6 W → Calls Try.prog 30 (#[kv K] ++ #[.pointer (some ⟨X, 0, none⟩), .pointer (some ⟨Y, 0, none⟩)]) W fun e W' => e = .returned (.bool (decide (x.s.ct ≤ K.a ∧ K.a < C))) ∧ Below W.heap.size W W') := by
        intro W K hb
        have h6 := (nine_cells (below_block hb rs4.y)).2.2.2.2.2.2.2.2
        rw [HZ3.out] at h6
        have := rl2_any K x.s.ct C X Y W (nine_cells (below_block hb rs4.x)).2.2.2.2.2.2.2.2 h6
        simpa using this
      go_wp2_with fail
      refine (kkept_any z3.s.fi (fun K => decide (x.s.ct ≤ K.a ∧ K.a < C)) 30 _ z3.a2 _ z3.c2 W6 (own_seg' rs4.own.o2) rfl (by omega) hE HF.out).mono ?_
      rintro e w6 ⟨co, Nk, d, rfl, own, hb6⟩
      have hfi : z3.s.fi = Grain.nfi x.s tt := by rw [HZ3.out]
      have HL : Hid ((z3.s.fi.filter fun K => decide (x.s.ct ≤ K.a ∧ K.a < C)) = Grain.winB (Grain.nfi x.s tt) x.s.ct C) := by show _ = _; rw [hfi]; rfl
      rw [HL.out] at own
      have rs5 := rs4.call hb6
      have hbase5 : w1.heap.size ≤ w6.heap.size := Nat.le_trans hbase4 hb6.size
      obtain ⟨L2, hL2⟩ : ∃ L2, L2 = Grain.winB (Grain.nfi x.s tt) x.s.ct C := ⟨_, rfl⟩
      rw [← hL2] at own
      have segL := own_seg' own
      have hNk := own_klen own
      have hLl : L2.length ≤ 500 := by rw [hL2, ← hfi]; exact Nat.le_trans (List.length_filter_le _ _) hlen3
      have htm : ∀ j, j < L2.length → 0 ≤ (Grain.bk L2 j).a ∧ (Grain.bk L2 j).a ≤ 1000000 := by
        intro j hj
        have hm := Grain.bk_mem hj
        obtain ⟨q, hq⟩ : ∃ q, q = Grain.bk L2 j := ⟨_, rfl⟩
        rw [← hq] at hm ⊢
        rw [hL2] at hm
        have h1 := (List.mem_filter.1 hm).2
        simp only [decide_eq_true_eq] at h1
        omega
      have HF2 : Hid (Grain.nco x.s tt = x.s.co ++ Grain.great L2) := by
        show _ = _
        unfold Grain.nco
        rw [hL2, HCC.out]
      have HNk := hide hNk
      have HTM := hide htm
      clear hL2 HF hE y0 y1 y2 y3 y4 y5 y6 y7 y8 rs4 hbase4 hb6 own hNk htm hfi
      obtain ⟨y0, y1, y2, y3, y4, y5, y6, y7, y8⟩ := nine_cells rs5.y
      obtain ⟨g0, g1, g2, g3, g4, g5, g6, g7, g8⟩ := so_free rs5.y
      obtain ⟨i0, hi, hz0, hz1, hz2⟩ := sinfo_parts Try.infoBucket
      have hcl : z3.s.co.length ≤ 500 := by rw [HZ3.out]; exact clen
      go_upto_region 12 with fail
      go_cut [] from 51 to 56 (fun wx => ∃ z4 : ShT, Hid (z4.s = { x.s with ft := N, fi := Grain.nfi x.s tt, ct := C, co := Grain.nco x.s tt }) ∧ z4.s.co.length ≤ 1000 ∧ RS w w1.heap.size X Y x z4 wx)
      case first =>
        have UPC : Hid (∀ W : World, Below w6.heap.size w6 W → Calls Try.prog 31 #[.slice co Nk d] W fun e w' => ∃ uo M ud, e = .returned (.slice uo M ud) ∧ w'.ownsRow W.heap.size 67 8 (.slice uo M ud) M (kcells (Grain.great L2)) ∧ Hid (M = (Grain.great L2).length) ∧ M ≤ 500 ∧ Below W.heap.size W w') := by
          intro W hb
          have hk := HNk.out
          refine (great_any L2 co Nk d W (segL.below hb) hk (by omega) HTM.out).mono ?_
          rintro e w5 ⟨uo, M, ud, rfl, ownU, hb5⟩
          have hM := own_klen ownU
          have := Grain.great_len L2
          exact ⟨uo, M, ud, rfl, ownU, hM, by omega, hb5⟩
        go_region_law
          (first
            | (rw [if_pos (by rfl)]; go_simp; go_at_call 31; refine (UPC.out _ (below_drewN (Below.refl _ w6) 1)).mono ?_; rintro e w7 ⟨uo, M, ud, rfl, ownU, hM, hMl, hb7⟩; have hb67 : Below w6.heap.size w6 w7 := (below_drewN (Below.refl _ w6) 1).trans hb7; have rs6 := rs5.call hb67; obtain ⟨u0, u1, u2, u3, u4, u5, u6, u7, u8⟩ := nine_cells rs6.y; have hbase6 : w1.heap.size ≤ w7.heap.size := Nat.le_trans hbase5 hb67.size)
            | (refine step_append_seg (by rfl) (.tmp 52) (.tmp 54) 25 (by rfl) w1.heap.size 67 i0 (.agg #[.int .i64 0, .int .i64 0, .int .i64 0, .int .i64 0, .int .i64 0, .int .i64 0, .int .i64 0, .int .i64 0]) 8 64 Try.underlying25 hi hz0 hz1 hz2 rfl (by decide) (.slice z3.a3 z3.s.co.length z3.c3) z3.s.co.length (kcells z3.s.co) (by rfl) rs6.own.o3 uo M ud (kcells (Grain.great L2)) (by rfl) (own_nil ownU) (own_seg' ownU) (by rw [kcells_length, ← hM.out]) (kcells_one _) (by unfold maxLen; omega) (by omega) hbase6 ?_; intro v' w8 own8 gr8 hat8; obtain ⟨A, D, hvA, _, _⟩ := own_open own8; subst hvA; rw [← kcells_append] at own8; obtain ⟨hk8, rs8⟩ := rs6.coarse gr8 own8 hat8 (by rw [List.length_append, ← hM.out]; omega); have HK8 := hide hk8; clear hk8; obtain ⟨v0, v1, v2, v3, v4, v5, v6, v7, v8⟩ := nine_cells (so_grown3 rs6 gr8); obtain ⟨j0, j1, j2, j3, j4, j5, j6, j7, j8⟩ := so_free (so_grown3 rs6 gr8)))
        all_goals
          go_wp2_with fail
          go_meet
          refine ⟨_, ?_, ?_, rs8⟩
          · show _ = _
            rw [HZ3.out, HF2.out]
          · show (z3.s.co ++ Grain.great L2).length ≤ 1000
            rw [List.length_append, ← hM.out]; omega
      case rest =>
      obtain ⟨z4, HZ4, hlen4, rs7⟩ := hcut
      obtain ⟨W8, hW8⟩ : ∃ W, W = wc := ⟨_, rfl⟩
      rw [← hW8] at rs7 ⊢
      clear hW8 rs5 hbase5 segL HNk HTM HF2 HZ3 HL hi hz0 hz1 hz2 y0 y1 y2 y3 y4 y5 y6 y7 y8 g0 g1 g2 g3 g4 g5 g6 g7 g8 hLl hlen3 hcl
      obtain ⟨y0, y1, y2, y3, y4, y5, y6, y7, y8⟩ := nine_cells rs7.y
      obtain ⟨q0, q1, q2, q3, q4, q5, q6, q7, q8⟩ := sz_cells rs7.r
      obtain ⟨f0, f1, f2, f3, f4, f5, f6, f7, f8⟩ := so_free rs7.r
      have hfe : z4.s.co.length = (Grain.nco x.s tt).length := by rw [HZ4.out]
      have HFE := hide hfe
      clear hfe
      by_cases h5 : 500 < z4.s.co.length
      · have HP3 : Hid (r = (Grain.szero, 5)) := by show _ = _; rw [HP2.out, if_pos (by rw [← HFE.out]; exact h5)]
        have hd : decide ((500 : Int) < (z4.s.co.length : Int)) = true := by simp; omega
        clear HP2 h5
        go_wp2
        exact bodyPost_ret (v := .tuple #[.agg #[.slice none 0 0, .slice none 0 0, .slice none 0 0, .slice none 0 0, .int .i64 0, .int .i64 0, .int .i64 0, .int .i64 0, .int .i64 0], .int .i64 5]) (by simp [results, Try.results9, go_sem, q0, q1, q2, q3, q4, q5, q6, q7, q8]) rfl (shpost_no HP3.out (below_set9 rs7.bel (by have := rs7.xw; omega) _ _ _ _ _ _ _ _ _))
      · have HP3 := hide (HP2.out.trans (if_neg (by rw [← HFE.out]; exact h5)))
        have hd : decide ((500 : Int) < (z4.s.co.length : Int)) = false := by simp; omega
        clear HP2 h5
        go_wp2
        refine bodyPost_ret (v := .tuple #[.agg #[.slice z4.a0 z4.s.se.length z4.c0, .slice z4.a1 z4.s.ra.length z4.c1, .slice z4.a2 z4.s.fi.length z4.c2, .slice z4.a3 z4.s.co.length z4.c3, .int .i64 z4.s.rf, .int .i64 z4.s.ff, .int .i64 z4.s.ft, .int .i64 z4.s.cf, .int .i64 z4.s.ct], .int .i64 0]) (by simp [results, Try.results9, go_sem, q0, q1, q2, q3, q4, q5, q6, q7, q8]) rfl ?_
        have so4 := rs7.own
        have xb := rs7.xb
        refine ⟨z4, ?_, ?_, ?_, below_set9 rs7.bel (by have := rs7.xw; omega) _ _ _ _ _ _ _ _ _⟩
        · rw [HP3.out]; rfl
        · rw [HP3.out, HZ4.out, HNN.out, HCC.out]
        · have hbw : w.heap.size ≤ w1.heap.size := by have := rs7.xw; omega
          exact ⟨own_down (own_set9 so4.o0 xb _ _ _ _ _ _ _ _ _) hbw, own_down (own_set9 so4.o1 xb _ _ _ _ _ _ _ _ _) hbw, own_down (own_set9 so4.o2 xb _ _ _ _ _ _ _ _ _) hbw, own_down (own_set9 so4.o3 xb _ _ _ _ _ _ _ _ _) hbw, so4.ne, so4.fits, so4.n0, so4.n1, so4.n2, so4.n3⟩
  · have n := ne_beq z
    have HP1 : Hid (r = (Grain.szero, E)) := by show _ = _; rw [HP.out, if_pos z]
    clear HP z HSR
    obtain ⟨q0, q1, q2, q3, q4, q5, q6, q7, q8⟩ := sz_cells R1
    obtain ⟨f0, f1, f2, f3, f4, f5, f6, f7, f8⟩ := so_free R1
    go_wp2
    exact bodyPost_ret (v := .tuple #[.agg #[.slice none 0 0, .slice none 0 0, .slice none 0 0, .slice none 0 0, .int .i64 0, .int .i64 0, .int .i64 0, .int .i64 0, .int .i64 0], .int .i64 E]) (by simp [results, Try.results9, go_sem, q0, q1, q2, q3, q4, q5, q6, q7, q8]) rfl (shpost_no HP1.out (below_set9 bel1 (by have := HX.out; omega) _ _ _ _ _ _ _ _ _))

end Go.Proofs.Ytcgcefnfelmmkaa
