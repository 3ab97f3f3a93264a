/-
  The walk of ShelfRight.
-/
import Derived.Test.YtcgcefnfelmmkaaShN
namespace Go.Proofs.Ytcgcefnfelmmkaa
open Go.RowKit Go.GrainU

/-- three shelves' cells in a row -/
def threeCells (a b c : ShT) : List Value := a.cells ++ (b.cells ++ c.cells)

theorem three_at {W : World} {Q : Nat} {a b c : ShT} (h : W.heap[Q]? = some (.cells (threeCells a b c).toArray 27 (0, 0))) :
    (∀ j, j < 9 → W.cell? ⟨Q, j, none⟩ = a.cells[j]?) ∧ (∀ j, j < 9 → W.cell? ⟨Q, 9 + j, none⟩ = b.cells[j]?) ∧ (∀ j, j < 9 → W.cell? ⟨Q, 18 + j, none⟩ = c.cells[j]?) := by
  have hc : ∀ k, W.cell? ⟨Q, k, none⟩ = (threeCells a b c)[k]? := fun k => by simp [World.cell?, h]
  have la : a.cells.length = 9 := rfl
  have lb : b.cells.length = 9 := rfl
  refine ⟨fun j hj => ?_, fun j hj => ?_, fun j hj => ?_⟩
  · rw [hc, threeCells, List.getElem?_append_left (by omega)]
  · rw [hc, threeCells, List.getElem?_append_right (by omega), la, List.getElem?_append_left (by omega), show 9 + j - 9 = j from by omega]
  · rw [hc, threeCells, List.getElem?_append_right (by omega), la, List.getElem?_append_right (by omega), lb, show 18 + j - 9 - 9 = j from by omega]

set_option maxHeartbeats 4000000 in
theorem sright_any (x : ShT) (t v tier tt : Int) (w : World) (hx : ShIn w x) :
    Calls Try.prog 3 #[x.v, .agg #[.int .i64 t, .int .i64 v], .int .i64 tier, .int .i64 tt] w fun e w' => e = .returned (.bool true) ∧ Below w.heap.size w w' := by
  obtain ⟨X, hX⟩ : ∃ X, X = w.heap.size := ⟨_, rfl⟩
  obtain ⟨U, hU⟩ : ∃ U, U = w.alloc (so x) := ⟨_, rfl⟩
  obtain ⟨V, hV⟩ : ∃ V, V = U.alloc (.cells #[.int .i64 t, .int .i64 v] 29) := ⟨_, rfl⟩
  have hUs : U.heap.size = X + 1 := by rw [hU, hX]; simp
  have bel : Below w.heap.size w V := by rw [hV, hU]; exact ((Below.refl _ _).alloc (Nat.le_refl _) _).alloc (by simp) _
  have B0 : V.heap[X]? = some (so x) := by rw [hV, Below.heap_alloc _ _ _ (by omega), hU, hX]; exact heap_alloc_new w _
  have S0 : V.heap[X + 1]? = some (.cells #[.int .i64 t, .int .i64 v] 29 (0, 0)) := by rw [hV, ← hUs]; exact heap_alloc_new _ _
  have inx := hx.below bel
  have HV : Hid (V = (w.alloc (.cells #[.slice x.a0 x.s.se.length x.c0, .slice x.a1 x.s.ra.length x.c1, .slice x.a2 x.s.fi.length x.c2, .slice x.a3 x.s.co.length x.c3, .int .i64 x.s.rf, .int .i64 x.s.ff, .int .i64 x.s.ft, .int .i64 x.s.cf, .int .i64 x.s.ct] 27)).alloc (.cells #[.int .i64 t, .int .i64 v] 29)) := by rw [hV, hU]; exact rfl
  have Hv : Hid (x.v = .agg #[.slice x.a0 x.s.se.length x.c0, .slice x.a1 x.s.ra.length x.c1, .slice x.a2 x.s.fi.length x.c2, .slice x.a3 x.s.co.length x.c3, .int .i64 x.s.rf, .int .i64 x.s.ff, .int .i64 x.s.ft, .int .i64 x.s.cf, .int .i64 x.s.ct]) := rfl
  have HX := hide hX
  rw [Hv.out]
  clear hV hU hX hx hUs
  go_enter Try.func3, Try.ntmps3
  go_wp2_with fail
  rw [← HV.out, ← HX.out]
  refine (shalive_any V).mono ?_
  rintro e w1 ⟨rfl, hb1⟩
  have bel1 : Below w.heap.size w w1 := bel.trans (hb1.mono bel.size)
  have Fx := below_block hb1 B0
  have Sx := below_block hb1 S0
  have inx1 := inx.below hb1
  obtain ⟨b0, b1, b2, b3, b4, b5, b6, b7, b8⟩ := nine_cells Fx
  clear HV hb1 B0 S0 inx bel
  go_wp2_with fail
  rw [← Hv.out]
  refine (swrong_any x w1 inx1).mono ?_
  rintro e w2 ⟨rfl, hb2⟩
  have bel2 : Below w.heap.size w w2 := bel1.trans (hb2.mono bel1.size)
  have Fx2 := below_block hb2 Fx
  have Sx2 := below_block hb2 Sx
  have inx2 := inx1.below hb2
  clear b0 b1 b2 b3 b4 b5 b6 b7 b8 hb2 Fx Sx inx1 bel1
  obtain ⟨E, hE⟩ : ∃ E, E = Grain.swrong x.s := ⟨_, rfl⟩
  rw [← hE]
  by_cases z : E = 0
  · have SRx := hide ((Grain.sr_iff x.s).1 (hE.symm.trans z))
    rw [z]
    clear z hE
    obtain ⟨b0, b1, b2, b3, b4, b5, b6, b7, b8⟩ := nine_cells Fx2
    obtain ⟨s0, s1, _, _⟩ := two_cells Sx2
    go_wp2_with fail
    rw [← Hv.out]
    refine (sapp_any x t v w2 inx2).mono ?_
    rintro e w3 ⟨y1, rfl, hy1, ioy1, hbw3⟩
    have iny1 := ioy1.shIn
    clear ioy1
    have Hy1 := hide hy1
    have bel2' : Below w.heap.size w w3 := bel2.trans (hbw3.mono bel2.size)
    obtain ⟨W3, hW3⟩ : ∃ W, W = w3.alloc (so y1) := ⟨_, rfl⟩
    obtain ⟨By1, hBy1⟩ : ∃ B, B = w3.heap.size := ⟨_, rfl⟩
    have hbW3 : Below w3.heap.size w3 W3 := by rw [hW3]; exact (Below.refl _ _).alloc (Nat.le_refl _) _
    have belW3 : Below w.heap.size w W3 := bel2'.trans (hbW3.mono bel2'.size)
    have Fy1 : W3.heap[By1]? = some (so y1) := by rw [hW3, hBy1]; exact heap_alloc_new w3 _
    have Fx2_W3 := below_block hbW3 (below_block hbw3 Fx2)
    have inx2_W3 := (inx2.below hbw3).below hbW3
    have iny1_W3 := iny1.below hbW3
    have HAW3 : Hid (W3 = w3.alloc (.cells #[.slice y1.a0 y1.s.se.length y1.c0, .slice y1.a1 y1.s.ra.length y1.c1, .slice y1.a2 y1.s.fi.length y1.c2, .slice y1.a3 y1.s.co.length y1.c3, .int .i64 y1.s.rf, .int .i64 y1.s.ff, .int .i64 y1.s.ft, .int .i64 y1.s.cf, .int .i64 y1.s.ct] 27)) := hW3
    have HBy1 := hide hBy1
    have Hvy1 : Hid (y1.v = .agg #[.slice y1.a0 y1.s.se.length y1.c0, .slice y1.a1 y1.s.ra.length y1.c1, .slice y1.a2 y1.s.fi.length y1.c2, .slice y1.a3 y1.s.co.length y1.c3, .int .i64 y1.s.rf, .int .i64 y1.s.ff, .int .i64 y1.s.ft, .int .i64 y1.s.cf, .int .i64 y1.s.ct]) := rfl
    rw [Hvy1.out]
    clear hW3 hBy1 hy1 iny1 hbw3 hbW3 bel2'
    obtain ⟨E1, hE1⟩ : ∃ E, E = (Grain.sapp x.s t v).2 := ⟨_, rfl⟩
    rw [← hE1]
    have O1 : Hid (E1 = 0 → Grain.swrong y1.s = 0 ∧ Grain.Fwd x.s y1.s) := by
      intro h
      rw [hE1] at h
      have := Grain.sapp_right SRx.out h
      rw [Hy1.out]
      exact ⟨(Grain.sr_iff _).2 this.1, this.2⟩
    clear hE1 b0 b1 b2 b3 b4 b5 b6 b7 b8 s0 s1
    go_upto_region 6 with fail
    rw [← HAW3.out, ← HBy1.out]
    clear HAW3
    obtain ⟨b0, b1, b2, b3, b4, b5, b6, b7, b8⟩ := nine_cells Fx2_W3
    go_wp2_with fail
    rw [← Hv.out]
    refine (sroll_any x tt W3 inx2_W3).mono ?_
    rintro e w4 ⟨y2, rfl, hy2, ioy2, hbw4⟩
    have iny2 := ioy2.shIn
    clear ioy2
    have Hy2 := hide hy2
    have belW3' : Below w.heap.size w w4 := belW3.trans (hbw4.mono belW3.size)
    obtain ⟨W4, hW4⟩ : ∃ W, W = w4.alloc (so y2) := ⟨_, rfl⟩
    obtain ⟨By2, hBy2⟩ : ∃ B, B = w4.heap.size := ⟨_, rfl⟩
    have hbW4 : Below w4.heap.size w4 W4 := by rw [hW4]; exact (Below.refl _ _).alloc (Nat.le_refl _) _
    have belW4 : Below w.heap.size w W4 := belW3'.trans (hbW4.mono belW3'.size)
    have Fy2 : W4.heap[By2]? = some (so y2) := by rw [hW4, hBy2]; exact heap_alloc_new w4 _
    have Fx2_W4 := below_block hbW4 (below_block hbw4 Fx2_W3)
    have Fy1_W4 := below_block hbW4 (below_block hbw4 Fy1)
    have inx2_W4 := (inx2_W3.below hbw4).below hbW4
    have iny1_W4 := (iny1_W3.below hbw4).below hbW4
    have iny2_W4 := iny2.below hbW4
    have HAW4 : Hid (W4 = w4.alloc (.cells #[.slice y2.a0 y2.s.se.length y2.c0, .slice y2.a1 y2.s.ra.length y2.c1, .slice y2.a2 y2.s.fi.length y2.c2, .slice y2.a3 y2.s.co.length y2.c3, .int .i64 y2.s.rf, .int .i64 y2.s.ff, .int .i64 y2.s.ft, .int .i64 y2.s.cf, .int .i64 y2.s.ct] 27)) := hW4
    have HBy2 := hide hBy2
    have Hvy2 : Hid (y2.v = .agg #[.slice y2.a0 y2.s.se.length y2.c0, .slice y2.a1 y2.s.ra.length y2.c1, .slice y2.a2 y2.s.fi.length y2.c2, .slice y2.a3 y2.s.co.length y2.c3, .int .i64 y2.s.rf, .int .i64 y2.s.ff, .int .i64 y2.s.ft, .int .i64 y2.s.cf, .int .i64 y2.s.ct]) := rfl
    rw [Hvy2.out]
    clear hW4 hBy2 hy2 iny2 hbw4 hbW4 belW3'
    obtain ⟨E2, hE2⟩ : ∃ E, E = (Grain.sroll x.s tt).2 := ⟨_, rfl⟩
    rw [← hE2]
    have O2 : Hid (E2 = 0 → Grain.swrong y2.s = 0 ∧ Grain.Fwd x.s y2.s) := by
      intro h
      rw [hE2] at h
      have := Grain.sroll_right SRx.out h
      rw [Hy2.out]
      exact ⟨(Grain.sr_iff _).2 this.1, this.2⟩
    clear hE2 b0 b1 b2 b3 b4 b5 b6 b7 b8
    go_upto_region 7 with fail
    rw [← HAW4.out, ← HBy2.out]
    clear HAW4
    obtain ⟨b0, b1, b2, b3, b4, b5, b6, b7, b8⟩ := nine_cells Fx2_W4
    go_wp2_with fail
    rw [← Hv.out]
    refine (sforg_any x tier tt W4 inx2_W4).mono ?_
    rintro e w5 ⟨y3, rfl, hy3, ioy3, hbw5⟩
    have iny3 := ioy3.shIn
    clear ioy3
    have Hy3 := hide hy3
    have belW4' : Below w.heap.size w w5 := belW4.trans (hbw5.mono belW4.size)
    obtain ⟨W5, hW5⟩ : ∃ W, W = w5.alloc (so y3) := ⟨_, rfl⟩
    obtain ⟨By3, hBy3⟩ : ∃ B, B = w5.heap.size := ⟨_, rfl⟩
    have hbW5 : Below w5.heap.size w5 W5 := by rw [hW5]; exact (Below.refl _ _).alloc (Nat.le_refl _) _
    have belW5 : Below w.heap.size w W5 := belW4'.trans (hbW5.mono belW4'.size)
    have Fy3 : W5.heap[By3]? = some (so y3) := by rw [hW5, hBy3]; exact heap_alloc_new w5 _
    have Fx2_W5 := below_block hbW5 (below_block hbw5 Fx2_W4)
    have Fy1_W5 := below_block hbW5 (below_block hbw5 Fy1_W4)
    have Fy2_W5 := below_block hbW5 (below_block hbw5 Fy2)
    have inx2_W5 := (inx2_W4.below hbw5).below hbW5
    have iny1_W5 := (iny1_W4.below hbw5).below hbW5
    have iny2_W5 := (iny2_W4.below hbw5).below hbW5
    have iny3_W5 := iny3.below hbW5
    have HAW5 : Hid (W5 = w5.alloc (.cells #[.slice y3.a0 y3.s.se.length y3.c0, .slice y3.a1 y3.s.ra.length y3.c1, .slice y3.a2 y3.s.fi.length y3.c2, .slice y3.a3 y3.s.co.length y3.c3, .int .i64 y3.s.rf, .int .i64 y3.s.ff, .int .i64 y3.s.ft, .int .i64 y3.s.cf, .int .i64 y3.s.ct] 27)) := hW5
    have HBy3 := hide hBy3
    have Hvy3 : Hid (y3.v = .agg #[.slice y3.a0 y3.s.se.length y3.c0, .slice y3.a1 y3.s.ra.length y3.c1, .slice y3.a2 y3.s.fi.length y3.c2, .slice y3.a3 y3.s.co.length y3.c3, .int .i64 y3.s.rf, .int .i64 y3.s.ff, .int .i64 y3.s.ft, .int .i64 y3.s.cf, .int .i64 y3.s.ct]) := rfl
    rw [Hvy3.out]
    clear hW5 hBy3 hy3 iny3 hbw5 hbW5 belW4'
    obtain ⟨E3, hE3⟩ : ∃ E, E = (Grain.sforg x.s tier tt).2 := ⟨_, rfl⟩
    rw [← hE3]
    have O3 : Hid (E3 = 0 → Grain.swrong y3.s = 0 ∧ Grain.Fwd x.s y3.s) := by
      intro h
      rw [hE3] at h
      have := Grain.sforg_right SRx.out h
      rw [Hy3.out]
      exact ⟨(Grain.sr_iff _).2 this.1, this.2⟩
    clear hE3 b0 b1 b2 b3 b4 b5 b6 b7 b8
    go_upto_region 8 with fail
    rw [← HAW5.out, ← HBy3.out]
    clear HAW5
    obtain ⟨b0, b1, b2, b3, b4, b5, b6, b7, b8⟩ := nine_cells Fy1_W5
    obtain ⟨c0, c1, c2, c3, c4, c5, c6, c7, c8⟩ := nine_cells Fy2_W5
    obtain ⟨d0, d1, d2, d3, d4, d5, d6, d7, d8⟩ := nine_cells Fy3
    obtain ⟨Q, hQ⟩ : ∃ Q, Q = W5.heap.size := ⟨_, rfl⟩
    obtain ⟨W6, hW6⟩ : ∃ W, W = W5.alloc (.cells #[.slice y1.a0 y1.s.se.length y1.c0, .slice y1.a1 y1.s.ra.length y1.c1, .slice y1.a2 y1.s.fi.length y1.c2, .slice y1.a3 y1.s.co.length y1.c3, .int .i64 y1.s.rf, .int .i64 y1.s.ff, .int .i64 y1.s.ft, .int .i64 y1.s.cf, .int .i64 y1.s.ct, .slice y2.a0 y2.s.se.length y2.c0, .slice y2.a1 y2.s.ra.length y2.c1, .slice y2.a2 y2.s.fi.length y2.c2, .slice y2.a3 y2.s.co.length y2.c3, .int .i64 y2.s.rf, .int .i64 y2.s.ff, .int .i64 y2.s.ft, .int .i64 y2.s.cf, .int .i64 y2.s.ct, .slice y3.a0 y3.s.se.length y3.c0, .slice y3.a1 y3.s.ra.length y3.c1, .slice y3.a2 y3.s.fi.length y3.c2, .slice y3.a3 y3.s.co.length y3.c3, .int .i64 y3.s.rf, .int .i64 y3.s.ff, .int .i64 y3.s.ft, .int .i64 y3.s.cf, .int .i64 y3.s.ct] 27) := ⟨_, rfl⟩
    have hbW6 : Below W5.heap.size W5 W6 := by rw [hW6]; exact (Below.refl _ _).alloc (Nat.le_refl _) _
    have bel6 : Below w.heap.size w W6 := belW5.trans (hbW6.mono belW5.size)
    have F6 : W6.heap[Q]? = some (.cells (threeCells y1 y2 y3).toArray 27 (0, 0)) := by rw [hW6, hQ]; exact heap_alloc_new W5 _
    have Fx6 := below_block hbW6 Fx2_W5
    have i1 := iny1_W5.below hbW6
    have i2 := iny2_W5.below hbW6
    have i3 := iny3_W5.below hbW6
    have HW6 := hide hW6
    have HQ := hide hQ
    clear hW6 hQ hbW6
    go_wp2_with fail
    rw [← HW6.out, ← HQ.out]
    clear b0 b1 b2 b3 b4 b5 b6 b7 b8 c0 c1 c2 c3 c4 c5 c6 c7 c8 d0 d1 d2 d3 d4 d5 d6 d7 d8 HW6
    go_loopw [46] (fun i wr => ∃ k : Nat, k ≤ 3 ∧ i = .int .i64 k ∧ Below W6.heap.size W6 wr) (fun i _ => 3 - (intOf i).toNat)
    case atStart => exact ⟨0, by omega, rfl, Below.refl _ _⟩
    case round =>
      obtain ⟨k, hk, rfl, belr⟩ := hrel
      have belw : Below w.heap.size w wr := bel6.trans (belr.mono bel6.size)
      have Fr := below_block belr F6
      have Fxr := below_block belr Fx6
      obtain ⟨A1, A2, A3⟩ := three_at Fr
      obtain ⟨x0, x1, x2, x3, x4, x5, x6, x7, x8⟩ := nine_cells Fxr
      rcases (show k = 0 ∨ k = 1 ∨ k = 2 ∨ k = 3 from by omega) with rfl | rfl | rfl | rfl
      · have in0 := i1.below belr
        have p0 : wr.cell? ⟨Q, 0, none⟩ = some (.slice y1.a0 y1.s.se.length y1.c0) := A1 0 (by decide)
        have p1 : wr.cell? ⟨Q, 1, none⟩ = some (.slice y1.a1 y1.s.ra.length y1.c1) := A1 1 (by decide)
        have p2 : wr.cell? ⟨Q, 2, none⟩ = some (.slice y1.a2 y1.s.fi.length y1.c2) := A1 2 (by decide)
        have p3 : wr.cell? ⟨Q, 3, none⟩ = some (.slice y1.a3 y1.s.co.length y1.c3) := A1 3 (by decide)
        have p4 : wr.cell? ⟨Q, 4, none⟩ = some (.int .i64 y1.s.rf) := A1 4 (by decide)
        have p5 : wr.cell? ⟨Q, 5, none⟩ = some (.int .i64 y1.s.ff) := A1 5 (by decide)
        have p6 : wr.cell? ⟨Q, 6, none⟩ = some (.int .i64 y1.s.ft) := A1 6 (by decide)
        have p7 : wr.cell? ⟨Q, 7, none⟩ = some (.int .i64 y1.s.cf) := A1 7 (by decide)
        have p8 : wr.cell? ⟨Q, 8, none⟩ = some (.int .i64 y1.s.ct) := A1 8 (by decide)
        clear A1 A2 A3 Fr
        obtain ⟨W7, hW7⟩ : ∃ W, W = wr.alloc (so y1) := ⟨_, rfl⟩
        obtain ⟨Y, hY⟩ : ∃ Y, Y = wr.heap.size := ⟨_, rfl⟩
        have hb7 : Below wr.heap.size wr W7 := by rw [hW7]; exact (Below.refl _ _).alloc (Nat.le_refl _) _
        have F7 : W7.heap[Y]? = some (so y1) := by rw [hW7, hY]; exact heap_alloc_new wr _
        obtain ⟨W8, hW8⟩ : ∃ W, W = W7.alloc (.cells #[.int .i64 E1, .int .i64 E2, .int .i64 E3] 31) := ⟨_, rfl⟩
        have hb8 : Below W7.heap.size W7 W8 := by rw [hW8]; exact (Below.refl _ _).alloc (Nat.le_refl _) _
        have hb78 : Below wr.heap.size wr W8 := hb7.trans (hb8.mono hb7.size)
        have F8 := below_block hb8 F7
        have Fx8 := below_block hb78 Fxr
        have in8 := in0.below hb78
        have bel8 : Below w.heap.size w W8 := belw.trans (hb78.mono belw.size)
        have belr8 : Below W6.heap.size W6 W8 := belr.trans (hb78.mono belr.size)
        have l8 : W8.cell? ⟨W7.heap.size, 0, none⟩ = some (.int .i64 E1) := by rw [hW8]; simp
        have HW7 : Hid (W7 = wr.alloc (.cells #[.slice y1.a0 y1.s.se.length y1.c0, .slice y1.a1 y1.s.ra.length y1.c1, .slice y1.a2 y1.s.fi.length y1.c2, .slice y1.a3 y1.s.co.length y1.c3, .int .i64 y1.s.rf, .int .i64 y1.s.ff, .int .i64 y1.s.ft, .int .i64 y1.s.cf, .int .i64 y1.s.ct] 27)) := hW7
        have HW8 := hide hW8
        have HY := hide hY
        have Hvy : Hid (y1.v = .agg #[.slice y1.a0 y1.s.se.length y1.c0, .slice y1.a1 y1.s.ra.length y1.c1, .slice y1.a2 y1.s.fi.length y1.c2, .slice y1.a3 y1.s.co.length y1.c3, .int .i64 y1.s.rf, .int .i64 y1.s.ff, .int .i64 y1.s.ft, .int .i64 y1.s.cf, .int .i64 y1.s.ct]) := rfl
        clear hW7 hW8 hY hb7 hb8 hb78 in0
        go_upto_region 11 with fail
        rw [← HW7.out, ← HY.out]
        obtain ⟨u0, u1, u2, u3, u4, u5, u6, u7, u8⟩ := nine_cells F8
        obtain ⟨v0, v1, v2, v3, v4, v5, v6, v7, v8⟩ := nine_cells Fx8
        by_cases z0 : E1 = 0
        · obtain ⟨sw, fw⟩ := O1.out z0
          obtain ⟨g4, g5, g6, g7, g8⟩ := fw
          have zb : (E1 == 0) = true := by rw [z0]; rfl
          rw [z0] at l8
          clear z0
          have q4 : decide (y1.s.rf < x.s.rf) = false := by simp; exact g4
          have q5 : decide (y1.s.ff < x.s.ff) = false := by simp; exact g5
          have q6 : decide (y1.s.ft < x.s.ft) = false := by simp; exact g6
          have q7 : decide (y1.s.cf < x.s.cf) = false := by simp; exact g7
          have q8 : decide (y1.s.ct < x.s.ct) = false := by simp; exact g8
          go_upto_region 12 with fail
          rw [← HW8.out]
          go_wp2_with fail
          have hc := swrong_any y1 W8 in8
          rw [Hvy.out] at hc
          refine hc.mono ?_
          rintro e w9 ⟨rfl, hb9⟩
          rw [sw]
          have bel9 : Below W6.heap.size W6 w9 := belr8.trans (hb9.mono belr8.size)
          have F9 := below_block hb9 F8
          have Fx9 := below_block hb9 Fx8
          clear hc u0 u1 u2 u3 u4 u5 u6 u7 u8 v0 v1 v2 v3 v4 v5 v6 v7 v8 sw hb9 F8 Fx8 in8 bel8 belr8 p0 p1 p2 p3 p4 p5 p6 p7 p8 x0 x1 x2 x3 x4 x5 x6 x7 x8 HW7 HW8 l8 belr belw
          obtain ⟨u0, u1, u2, u3, u4, u5, u6, u7, u8⟩ := nine_cells F9
          obtain ⟨v0, v1, v2, v3, v4, v5, v6, v7, v8⟩ := nine_cells Fx9
          go_wp2
          go_roundw
          case rel => exact ⟨0 + 1, by omega, by go_num, bel9⟩
          case measure => simp [intOf]
        · have nz := ne_beq z0
          go_wp2
          rw [← HW8.out]
          go_roundw
          case rel => exact ⟨0 + 1, by omega, by go_num, belr8⟩
          case measure => simp [intOf]
      · have in1 := i2.below belr
        have p0 : wr.cell? ⟨Q, 9, none⟩ = some (.slice y2.a0 y2.s.se.length y2.c0) := A2 0 (by decide)
        have p1 : wr.cell? ⟨Q, 10, none⟩ = some (.slice y2.a1 y2.s.ra.length y2.c1) := A2 1 (by decide)
        have p2 : wr.cell? ⟨Q, 11, none⟩ = some (.slice y2.a2 y2.s.fi.length y2.c2) := A2 2 (by decide)
        have p3 : wr.cell? ⟨Q, 12, none⟩ = some (.slice y2.a3 y2.s.co.length y2.c3) := A2 3 (by decide)
        have p4 : wr.cell? ⟨Q, 13, none⟩ = some (.int .i64 y2.s.rf) := A2 4 (by decide)
        have p5 : wr.cell? ⟨Q, 14, none⟩ = some (.int .i64 y2.s.ff) := A2 5 (by decide)
        have p6 : wr.cell? ⟨Q, 15, none⟩ = some (.int .i64 y2.s.ft) := A2 6 (by decide)
        have p7 : wr.cell? ⟨Q, 16, none⟩ = some (.int .i64 y2.s.cf) := A2 7 (by decide)
        have p8 : wr.cell? ⟨Q, 17, none⟩ = some (.int .i64 y2.s.ct) := A2 8 (by decide)
        clear A1 A2 A3 Fr
        obtain ⟨W7, hW7⟩ : ∃ W, W = wr.alloc (so y2) := ⟨_, rfl⟩
        obtain ⟨Y, hY⟩ : ∃ Y, Y = wr.heap.size := ⟨_, rfl⟩
        have hb7 : Below wr.heap.size wr W7 := by rw [hW7]; exact (Below.refl _ _).alloc (Nat.le_refl _) _
        have F7 : W7.heap[Y]? = some (so y2) := by rw [hW7, hY]; exact heap_alloc_new wr _
        obtain ⟨W8, hW8⟩ : ∃ W, W = W7.alloc (.cells #[.int .i64 E1, .int .i64 E2, .int .i64 E3] 31) := ⟨_, rfl⟩
        have hb8 : Below W7.heap.size W7 W8 := by rw [hW8]; exact (Below.refl _ _).alloc (Nat.le_refl _) _
        have hb78 : Below wr.heap.size wr W8 := hb7.trans (hb8.mono hb7.size)
        have F8 := below_block hb8 F7
        have Fx8 := below_block hb78 Fxr
        have in8 := in1.below hb78
        have bel8 : Below w.heap.size w W8 := belw.trans (hb78.mono belw.size)
        have belr8 : Below W6.heap.size W6 W8 := belr.trans (hb78.mono belr.size)
        have l8 : W8.cell? ⟨W7.heap.size, 1, none⟩ = some (.int .i64 E2) := by rw [hW8]; simp
        have HW7 : Hid (W7 = wr.alloc (.cells #[.slice y2.a0 y2.s.se.length y2.c0, .slice y2.a1 y2.s.ra.length y2.c1, .slice y2.a2 y2.s.fi.length y2.c2, .slice y2.a3 y2.s.co.length y2.c3, .int .i64 y2.s.rf, .int .i64 y2.s.ff, .int .i64 y2.s.ft, .int .i64 y2.s.cf, .int .i64 y2.s.ct] 27)) := hW7
        have HW8 := hide hW8
        have HY := hide hY
        have Hvy : Hid (y2.v = .agg #[.slice y2.a0 y2.s.se.length y2.c0, .slice y2.a1 y2.s.ra.length y2.c1, .slice y2.a2 y2.s.fi.length y2.c2, .slice y2.a3 y2.s.co.length y2.c3, .int .i64 y2.s.rf, .int .i64 y2.s.ff, .int .i64 y2.s.ft, .int .i64 y2.s.cf, .int .i64 y2.s.ct]) := rfl
        clear hW7 hW8 hY hb7 hb8 hb78 in1
        go_upto_region 11 with fail
        rw [← HW7.out, ← HY.out]
        obtain ⟨u0, u1, u2, u3, u4, u5, u6, u7, u8⟩ := nine_cells F8
        obtain ⟨v0, v1, v2, v3, v4, v5, v6, v7, v8⟩ := nine_cells Fx8
        by_cases z1 : E2 = 0
        · obtain ⟨sw, fw⟩ := O2.out z1
          obtain ⟨g4, g5, g6, g7, g8⟩ := fw
          have zb : (E2 == 0) = true := by rw [z1]; rfl
          rw [z1] at l8
          clear z1
          have q4 : decide (y2.s.rf < x.s.rf) = false := by simp; exact g4
          have q5 : decide (y2.s.ff < x.s.ff) = false := by simp; exact g5
          have q6 : decide (y2.s.ft < x.s.ft) = false := by simp; exact g6
          have q7 : decide (y2.s.cf < x.s.cf) = false := by simp; exact g7
          have q8 : decide (y2.s.ct < x.s.ct) = false := by simp; exact g8
          go_upto_region 12 with fail
          rw [← HW8.out]
          go_wp2_with fail
          have hc := swrong_any y2 W8 in8
          rw [Hvy.out] at hc
          refine hc.mono ?_
          rintro e w9 ⟨rfl, hb9⟩
          rw [sw]
          have bel9 : Below W6.heap.size W6 w9 := belr8.trans (hb9.mono belr8.size)
          have F9 := below_block hb9 F8
          have Fx9 := below_block hb9 Fx8
          clear hc u0 u1 u2 u3 u4 u5 u6 u7 u8 v0 v1 v2 v3 v4 v5 v6 v7 v8 sw hb9 F8 Fx8 in8 bel8 belr8 p0 p1 p2 p3 p4 p5 p6 p7 p8 x0 x1 x2 x3 x4 x5 x6 x7 x8 HW7 HW8 l8 belr belw
          obtain ⟨u0, u1, u2, u3, u4, u5, u6, u7, u8⟩ := nine_cells F9
          obtain ⟨v0, v1, v2, v3, v4, v5, v6, v7, v8⟩ := nine_cells Fx9
          go_wp2
          go_roundw
          case rel => exact ⟨1 + 1, by omega, by go_num, bel9⟩
          case measure => simp [intOf]
        · have nz := ne_beq z1
          go_wp2
          rw [← HW8.out]
          go_roundw
          case rel => exact ⟨1 + 1, by omega, by go_num, belr8⟩
          case measure => simp [intOf]
      · have in2 := i3.below belr
        have p0 : wr.cell? ⟨Q, 18, none⟩ = some (.slice y3.a0 y3.s.se.length y3.c0) := A3 0 (by decide)
        have p1 : wr.cell? ⟨Q, 19, none⟩ = some (.slice y3.a1 y3.s.ra.length y3.c1) := A3 1 (by decide)
        have p2 : wr.cell? ⟨Q, 20, none⟩ = some (.slice y3.a2 y3.s.fi.length y3.c2) := A3 2 (by decide)
        have p3 : wr.cell? ⟨Q, 21, none⟩ = some (.slice y3.a3 y3.s.co.length y3.c3) := A3 3 (by decide)
        have p4 : wr.cell? ⟨Q, 22, none⟩ = some (.int .i64 y3.s.rf) := A3 4 (by decide)
        have p5 : wr.cell? ⟨Q, 23, none⟩ = some (.int .i64 y3.s.ff) := A3 5 (by decide)
        have p6 : wr.cell? ⟨Q, 24, none⟩ = some (.int .i64 y3.s.ft) := A3 6 (by decide)
        have p7 : wr.cell? ⟨Q, 25, none⟩ = some (.int .i64 y3.s.cf) := A3 7 (by decide)
        have p8 : wr.cell? ⟨Q, 26, none⟩ = some (.int .i64 y3.s.ct) := A3 8 (by decide)
        clear A1 A2 A3 Fr
        obtain ⟨W7, hW7⟩ : ∃ W, W = wr.alloc (so y3) := ⟨_, rfl⟩
        obtain ⟨Y, hY⟩ : ∃ Y, Y = wr.heap.size := ⟨_, rfl⟩
        have hb7 : Below wr.heap.size wr W7 := by rw [hW7]; exact (Below.refl _ _).alloc (Nat.le_refl _) _
        have F7 : W7.heap[Y]? = some (so y3) := by rw [hW7, hY]; exact heap_alloc_new wr _
        obtain ⟨W8, hW8⟩ : ∃ W, W = W7.alloc (.cells #[.int .i64 E1, .int .i64 E2, .int .i64 E3] 31) := ⟨_, rfl⟩
        have hb8 : Below W7.heap.size W7 W8 := by rw [hW8]; exact (Below.refl _ _).alloc (Nat.le_refl _) _
        have hb78 : Below wr.heap.size wr W8 := hb7.trans (hb8.mono hb7.size)
        have F8 := below_block hb8 F7
        have Fx8 := below_block hb78 Fxr
        have in8 := in2.below hb78
        have bel8 : Below w.heap.size w W8 := belw.trans (hb78.mono belw.size)
        have belr8 : Below W6.heap.size W6 W8 := belr.trans (hb78.mono belr.size)
        have l8 : W8.cell? ⟨W7.heap.size, 2, none⟩ = some (.int .i64 E3) := by rw [hW8]; simp
        have HW7 : Hid (W7 = wr.alloc (.cells #[.slice y3.a0 y3.s.se.length y3.c0, .slice y3.a1 y3.s.ra.length y3.c1, .slice y3.a2 y3.s.fi.length y3.c2, .slice y3.a3 y3.s.co.length y3.c3, .int .i64 y3.s.rf, .int .i64 y3.s.ff, .int .i64 y3.s.ft, .int .i64 y3.s.cf, .int .i64 y3.s.ct] 27)) := hW7
        have HW8 := hide hW8
        have HY := hide hY
        have Hvy : Hid (y3.v = .agg #[.slice y3.a0 y3.s.se.length y3.c0, .slice y3.a1 y3.s.ra.length y3.c1, .slice y3.a2 y3.s.fi.length y3.c2, .slice y3.a3 y3.s.co.length y3.c3, .int .i64 y3.s.rf, .int .i64 y3.s.ff, .int .i64 y3.s.ft, .int .i64 y3.s.cf, .int .i64 y3.s.ct]) := rfl
        clear hW7 hW8 hY hb7 hb8 hb78 in2
        go_upto_region 11 with fail
        rw [← HW7.out, ← HY.out]
        obtain ⟨u0, u1, u2, u3, u4, u5, u6, u7, u8⟩ := nine_cells F8
        obtain ⟨v0, v1, v2, v3, v4, v5, v6, v7, v8⟩ := nine_cells Fx8
        by_cases z2 : E3 = 0
        · obtain ⟨sw, fw⟩ := O3.out z2
          obtain ⟨g4, g5, g6, g7, g8⟩ := fw
          have zb : (E3 == 0) = true := by rw [z2]; rfl
          rw [z2] at l8
          clear z2
          have q4 : decide (y3.s.rf < x.s.rf) = false := by simp; exact g4
          have q5 : decide (y3.s.ff < x.s.ff) = false := by simp; exact g5
          have q6 : decide (y3.s.ft < x.s.ft) = false := by simp; exact g6
          have q7 : decide (y3.s.cf < x.s.cf) = false := by simp; exact g7
          have q8 : decide (y3.s.ct < x.s.ct) = false := by simp; exact g8
          go_upto_region 12 with fail
          rw [← HW8.out]
          go_wp2_with fail
          have hc := swrong_any y3 W8 in8
          rw [Hvy.out] at hc
          refine hc.mono ?_
          rintro e w9 ⟨rfl, hb9⟩
          rw [sw]
          have bel9 : Below W6.heap.size W6 w9 := belr8.trans (hb9.mono belr8.size)
          have F9 := below_block hb9 F8
          have Fx9 := below_block hb9 Fx8
          clear hc u0 u1 u2 u3 u4 u5 u6 u7 u8 v0 v1 v2 v3 v4 v5 v6 v7 v8 sw hb9 F8 Fx8 in8 bel8 belr8 p0 p1 p2 p3 p4 p5 p6 p7 p8 x0 x1 x2 x3 x4 x5 x6 x7 x8 HW7 HW8 l8 belr belw
          obtain ⟨u0, u1, u2, u3, u4, u5, u6, u7, u8⟩ := nine_cells F9
          obtain ⟨v0, v1, v2, v3, v4, v5, v6, v7, v8⟩ := nine_cells Fx9
          go_wp2
          go_roundw
          case rel => exact ⟨2 + 1, by omega, by go_num, bel9⟩
          case measure => simp [intOf]
        · have nz := ne_beq z2
          go_wp2
          rw [← HW8.out]
          go_roundw
          case rel => exact ⟨2 + 1, by omega, by go_num, belr8⟩
          case measure => simp [intOf]
      · clear A1 A2 A3 Fr
        go_wp2
        go_ret
        exact ⟨rfl, belw⟩
  · have n := ne_beq z
    clear hE
    go_wp2
    go_ret
    exact ⟨rfl, bel2⟩

end Go.Proofs.Ytcgcefnfelmmkaa
