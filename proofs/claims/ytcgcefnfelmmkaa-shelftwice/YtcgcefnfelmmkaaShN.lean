/-
  The walks of SameSamples, Same (at shelves that are the same), New and alive.
-/
import Derived.Test.YtcgcefnfelmmkaaShL
import Derived.Test.YtcgcefnfelmmkaaRollSame
import Derived.Test.YtcgcefnfelmmkaaRefSameS
namespace Go.Proofs.Ytcgcefnfelmmkaa
open Go.RowKit Go.GrainU

set_option maxHeartbeats 400000 in
theorem smsame_any (l : List (Int × Int)) (ao bo : Option Addr) (n c c' : Nat) (w : World) (ha : Seg w ao (scells l)) (hb : Seg w bo (scells l)) (hn : n = l.length) (hc : n ≤ 9223372036854775807) :
    Calls Try.prog 12 #[.slice ao n c, .slice bo n c'] w fun e w' => e = .returned (.bool true) ∧ Below w.heap.size w w' := by
  have HN := hide hn
  clear hn
  have hz : ((n : Int) != (n : Int)) = false := by simp
  go_enter Try.func12, Try.ntmps12
  go_wp2
  go_loopw [13] (fun i wr => ∃ (k : Nat), k ≤ n ∧ i = .int .i64 k ∧ Below w.heap.size w wr) (fun i _ => n - (intOf i).toNat)
  case atStart => exact ⟨0, Nat.zero_le _, rfl, Below.refl _ _⟩
  case round =>
    obtain ⟨k, hk, rfl, bel⟩ := hrel
    by_cases hlt : k < n
    · have hlt' : k < l.length := by rw [← HN.out]; exact hlt
      obtain ⟨b, off, rfl, hcell⟩ := ha.sample hlt'
      obtain ⟨b', off', rfl, hcell'⟩ := hb.sample hlt'
      have hbl : b < w.heap.size := World.block_lt_of_cell? w ⟨b, off + k * 2, none⟩ (hcell k hlt').1
      have hbl' : b' < w.heap.size := World.block_lt_of_cell? w ⟨b', off' + k * 2, none⟩ (hcell' k hlt').1
      have c0 : wr.cell? ⟨b, off + k * 2, none⟩ = some (.int .i64 (Grain.tm l k)) := (bel.cell (by exact hbl)).trans (hcell k hlt').1
      have c1 : wr.cell? ⟨b, off + k * 2 + 1, none⟩ = some (.int .i64 (Grain.vl l k)) := (bel.cell (by exact hbl)).trans (hcell k hlt').2
      have d0 : wr.cell? ⟨b', off' + k * 2, none⟩ = some (.int .i64 (Grain.tm l k)) := (bel.cell (by exact hbl')).trans (hcell' k hlt').1
      have d1 : wr.cell? ⟨b', off' + k * 2 + 1, none⟩ = some (.int .i64 (Grain.vl l k)) := (bel.cell (by exact hbl')).trans (hcell' k hlt').2
      clear hcell hcell' hlt'
      go_wp2
      go_quiet (fail)
      go_wp2
      go_roundw
      case rel => exact ⟨k + 1, by omega, by go_num, below_drewN bel _⟩
      case measure => simp [intOf]; omega
    · go_wp2
      go_ret
      exact ⟨rfl, bel⟩

set_option maxHeartbeats 2000000 in
theorem ssame_any (x z : ShT) (w : World) (hx : ShIn w x) (hz : ShIn w z) (he : z.s = x.s) (h2 : x.s.fi.length ≤ 1000000) (h3 : x.s.co.length ≤ 1000000) :
    Calls Try.prog 16 #[x.v, z.v] w fun e w' => e = .returned (.bool true) ∧ Below w.heap.size w w' := by
  obtain ⟨zs, A0, D0, A1, D1, A2, D2, A3, D3⟩ := z
  simp only at he
  subst he
  obtain ⟨m0, e0⟩ : ∃ m, m = x.s.se.length := ⟨_, rfl⟩
  obtain ⟨m1, e1⟩ : ∃ m, m = x.s.ra.length := ⟨_, rfl⟩
  obtain ⟨m2, e2⟩ : ∃ m, m = x.s.fi.length := ⟨_, rfl⟩
  obtain ⟨m3, e3⟩ : ∃ m, m = x.s.co.length := ⟨_, rfl⟩
  simp only [ShT.v, ← e0, ← e1, ← e2, ← e3]
  rw [← e2] at h2
  rw [← e3] at h3
  have hl0 : m0 ≤ 9223372036854775807 := by have := hx.n0; omega
  have hl1 : m1 ≤ 9223372036854775807 := by have := hx.n1; omega
  obtain ⟨X, hX⟩ : ∃ X, X = w.heap.size := ⟨_, rfl⟩
  obtain ⟨U, hU⟩ : ∃ U, U = w.alloc (.cells #[.slice x.a0 m0 x.c0, .slice x.a1 m1 x.c1, .slice x.a2 m2 x.c2, .slice x.a3 m3 x.c3, .int .i64 x.s.rf, .int .i64 x.s.ff, .int .i64 x.s.ft, .int .i64 x.s.cf, .int .i64 x.s.ct] 27) := ⟨_, rfl⟩
  obtain ⟨V, hV⟩ : ∃ V, V = U.alloc (.cells #[.slice A0 m0 D0, .slice A1 m1 D1, .slice A2 m2 D2, .slice A3 m3 D3, .int .i64 x.s.rf, .int .i64 x.s.ff, .int .i64 x.s.ft, .int .i64 x.s.cf, .int .i64 x.s.ct] 27) := ⟨_, rfl⟩
  have hUs : U.heap.size = X + 1 := by rw [hU, hX]; simp
  have bel : Below w.heap.size w V := by rw [hV, hU]; exact ((Below.refl _ _).alloc (Nat.le_refl _) _).alloc (by simp) _
  have B0 : V.heap[X]? = some (sob (.slice x.a0 m0 x.c0) (.slice x.a1 m1 x.c1) (.slice x.a2 m2 x.c2) (.slice x.a3 m3 x.c3) (.int .i64 x.s.rf) (.int .i64 x.s.ff) (.int .i64 x.s.ft) (.int .i64 x.s.cf) (.int .i64 x.s.ct)) := by
    rw [hV, Below.heap_alloc _ _ _ (by omega), hU, hX]; exact heap_alloc_new w _
  have C0 : V.heap[X + 1]? = some (sob (.slice A0 m0 D0) (.slice A1 m1 D1) (.slice A2 m2 D2) (.slice A3 m3 D3) (.int .i64 x.s.rf) (.int .i64 x.s.ff) (.int .i64 x.s.ft) (.int .i64 x.s.cf) (.int .i64 x.s.ct)) := by
    rw [hV, ← hUs]; exact heap_alloc_new _ _
  have HV : Hid (V = (w.alloc (.cells #[.slice x.a0 m0 x.c0, .slice x.a1 m1 x.c1, .slice x.a2 m2 x.c2, .slice x.a3 m3 x.c3, .int .i64 x.s.rf, .int .i64 x.s.ff, .int .i64 x.s.ft, .int .i64 x.s.cf, .int .i64 x.s.ct] 27)).alloc (.cells #[.slice A0 m0 D0, .slice A1 m1 D1, .slice A2 m2 D2, .slice A3 m3 D3, .int .i64 x.s.rf, .int .i64 x.s.ff, .int .i64 x.s.ft, .int .i64 x.s.cf, .int .i64 x.s.ct] 27)) := by rw [hV, hU]; exact rfl
  have HX := hide hX
  have hxV := hx.below bel
  have hzV := hz.below bel
  have H0 := hide e0
  have H1 := hide e1
  have H2 := hide e2
  have H3 := hide e3
  clear hU hV hX hUs hx hz e0 e1 e2 e3
  go_enter Try.func16, Try.ntmps16
  go_wp2_with fail
  rw [← HV.out, ← HX.out]
  refine (sames_any x.s.se x.s.se x.a0 A0 m0 m0 x.c0 D0 V hxV.g0 hzV.g0 H0.out H0.out hl0).mono ?_
  rintro e w1 ⟨rfl, hb1⟩
  rw [show decide (x.s.se = x.s.se) = true from by simp]
  have bel1 : Below w.heap.size w w1 := bel.trans (hb1.mono bel.size)
  have B1 := below_block hb1 B0
  have C1 := below_block hb1 C0
  have hx1 := hxV.below hb1
  have hz1 := hzV.below hb1
  obtain ⟨b0, b1, b2, b3, b4, b5, b6, b7, b8⟩ := sob_cells B1
  obtain ⟨c0, c1, c2, c3, c4, c5, c6, c7, c8⟩ := sob_cells C1
  clear HV hb1 B0 C0 hxV hzV bel
  go_wp2_with fail
  refine (smsame_any x.s.ra x.a1 A1 m1 x.c1 D1 w1 hx1.g1 hz1.g1 H1.out hl1).mono ?_
  rintro e w2 ⟨rfl, hb2⟩
  have bel2 : Below w.heap.size w w2 := bel1.trans (hb2.mono bel1.size)
  have B2 := below_block hb2 B1
  have C2 := below_block hb2 C1
  have hx2 := hx1.below hb2
  have hz2 := hz1.below hb2
  clear b0 b1 b2 b3 b4 b5 b6 b7 b8 c0 c1 c2 c3 c4 c5 c6 c7 c8 hb2 B1 C1 hx1 hz1 bel1
  obtain ⟨b0, b1, b2, b3, b4, b5, b6, b7, b8⟩ := sob_cells B2
  obtain ⟨c0, c1, c2, c3, c4, c5, c6, c7, c8⟩ := sob_cells C2
  go_wp2_with fail
  refine (ksame_any x.s.fi x.a2 A2 m2 x.c2 D2 w2 hx2.g2 hz2.g2 H2.out h2).mono ?_
  rintro e w3 ⟨rfl, hb3⟩
  have bel3 : Below w.heap.size w w3 := bel2.trans (hb3.mono bel2.size)
  have B3 := below_block hb3 B2
  have C3 := below_block hb3 C2
  have hx3 := hx2.below hb3
  have hz3 := hz2.below hb3
  clear b0 b1 b2 b3 b4 b5 b6 b7 b8 c0 c1 c2 c3 c4 c5 c6 c7 c8 hb3 B2 C2 hx2 hz2 bel2
  obtain ⟨b0, b1, b2, b3, b4, b5, b6, b7, b8⟩ := sob_cells B3
  obtain ⟨c0, c1, c2, c3, c4, c5, c6, c7, c8⟩ := sob_cells C3
  go_wp2_with fail
  refine (ksame_any x.s.co x.a3 A3 m3 x.c3 D3 w3 hx3.g3 hz3.g3 H3.out h3).mono ?_
  rintro e w4 ⟨rfl, hb4⟩
  have bel4 : Below w.heap.size w w4 := bel3.trans (hb4.mono bel3.size)
  have B4 := below_block hb4 B3
  have C4 := below_block hb4 C3
  clear b0 b1 b2 b3 b4 b5 b6 b7 b8 c0 c1 c2 c3 c4 c5 c6 c7 c8 hb4 B3 C3 hx3 hz3 bel3
  obtain ⟨b0, b1, b2, b3, b4, b5, b6, b7, b8⟩ := sob_cells B4
  obtain ⟨c0, c1, c2, c3, c4, c5, c6, c7, c8⟩ := sob_cells C4
  go_wp2
  go_ret
  exact ⟨rfl, bel4⟩

set_option maxHeartbeats 1000000 in
theorem snew_any (l : List (ByteArray × ByteArray)) (ao : Option Addr) (n c : Nat) (w : World) (hs : Seg w ao (lcells l)) (hn : n = l.length) (hf : Fits l) (hL : n * 32 ≤ 140737488355328) (hnil : ao = none → n = 0 ∧ c = 0) :
    Calls Try.prog 17 #[.slice ao n c] w fun e w' => ∃ y : ShT, e = .returned y.v ∧ y.s = { Grain.szero with se := l } ∧ ShO w.heap.size w' y ∧ Below w.heap.size w w' := by
  have HN := hide hn
  have HZ := hide hnil
  have HL := hide hL
  obtain ⟨X, hX⟩ : ∃ X, X = w.heap.size := ⟨_, rfl⟩
  obtain ⟨V, hV⟩ : ∃ V, V = w.alloc (.cells #[.slice none 0 0, .slice none 0 0, .slice none 0 0, .slice none 0 0, .int .i64 0, .int .i64 0, .int .i64 0, .int .i64 0, .int .i64 0] 27) := ⟨_, rfl⟩
  have bel : Below w.heap.size w V := by rw [hV]; exact (Below.refl _ _).alloc (Nat.le_refl _) _
  have R0 : V.heap[X]? = some (so szT) := by rw [hV, hX]; exact heap_alloc_new w _
  have hVs : V.heap.size = X + 1 := by rw [hV, hX]; simp
  have HV := hide hV
  have HX := hide hX
  have hsV := hs.below bel
  clear hV hX hn hnil hL
  go_enter Try.func17, Try.ntmps17
  go_wp2_with fail
  rw [← HV.out, ← HX.out]
  refine (lcopy_any l ao n c V hsV HN.out HL.out HZ.out).mono ?_
  rintro e w1 ⟨A, M, D, rfl, own, hb1⟩
  have hM : M = n := by have := own.1; rw [lcells_length, ← HN.out] at this; omega
  have HM := hide hM
  have bel1 : Below w.heap.size w w1 := bel.trans (hb1.mono bel.size)
  have R1 := below_block hb1 R0
  clear HV hb1 R0 hM
  obtain ⟨q0, q1, q2, q3, q4, q5, q6, q7, q8⟩ := sz_cells R1
  obtain ⟨f0, f1, f2, f3, f4, f5, f6, f7, f8⟩ := so_free R1
  go_wp2
  refine bodyPost_ret (v := .agg #[.slice A M D, .slice none 0 0, .slice none 0 0, .slice none 0 0, .int .i64 0, .int .i64 0, .int .i64 0, .int .i64 0, .int .i64 0]) (by simp [results, Try.results17, go_sem, q0, q1, q2, q3, q4, q5, q6, q7, q8]) rfl ?_
  have hml : M = l.length := HM.out.trans HN.out
  refine ⟨⟨{ Grain.szero with se := l }, A, D, none, 0, none, 0, none, 0⟩, ?_, rfl, ⟨?_, World.ownsRow_nil _ _ _ _, World.ownsRow_nil _ _ _ _, World.ownsRow_nil _ _ _ _, fun g h => ?_, hf, ?_, ?_, ?_, ?_⟩, below_set9 bel1 (by have := HX.out; omega) _ _ _ _ _ _ _ _ _⟩
  · simp only [ShT.v, ← hml]; rfl
  · simp only [← hml]; exact own_down (own_set9 own (by omega) _ _ _ _ _ _ _ _ _) (by have := HX.out; omega)
  · simp [Value.ownBlock] at h
  · show l.length * 32 ≤ _; rw [← HN.out]; exact HL.out
  · simp [Grain.szero]
  · simp [Grain.szero]
  · simp [Grain.szero]

/-- the first shelf that alive asks, with a sample -/
def al1 : Grain.Shf := { Grain.szero with ra := [(5, 7)] }

theorem al1_eq : Grain.sapp { Grain.szero with se := [] } 5 7 = (al1, 0) := rfl
theorem al2_eq : (Grain.sroll al1 70).2 = 0 ∧ (Grain.sroll al1 70).1.fi.length = 1 ∧ (Grain.sroll al1 70).1.co.length = 1 ∧ (Grain.sroll al1 70).1.ft = 70 ∧ (Grain.sroll al1 70).1.ct = 60 := ⟨rfl, rfl, rfl, rfl, rfl⟩

set_option maxHeartbeats 1000000 in
theorem shalive_any (w : World) : Calls Try.prog 6 #[] w fun e w' => e = .returned (.bool true) ∧ Below w.heap.size w w' := by
  go_enter Try.func6, Try.ntmps6
  go_wp2_with fail
  refine (snew_any [] none 0 0 w (.inl rfl) rfl (fun k hk => by simp at hk) (by decide) (fun _ => ⟨rfl, rfl⟩)).mono ?_
  rintro e w1 ⟨y, rfl, hy, iny, hb1⟩
  have HY := hide hy
  clear hy
  go_wp2_with fail
  refine (sapp_any y 5 7 w1 iny.shIn).mono ?_
  rintro e w2 ⟨y1, rfl, hy1, in1o, hb2⟩
  have in1 := in1o.shIn
  have bel2 : Below w.heap.size w w2 := hb1.trans (hb2.mono hb1.size)
  rw [HY.out, al1_eq] at hy1 ⊢
  have HY1 : Hid (y1.s = al1) := hy1
  obtain ⟨W2, hW2⟩ : ∃ W, W = w2.alloc (so y1) := ⟨_, rfl⟩
  have hbW : Below w2.heap.size w2 W2 := by rw [hW2]; exact (Below.refl _ _).alloc (Nat.le_refl _) _
  have bel3 : Below w.heap.size w W2 := bel2.trans (hbW.mono bel2.size)
  have in2 := in1.below hbW
  have Y2 : W2.heap[w2.heap.size]? = some (so y1) := by rw [hW2]; exact heap_alloc_new w2 _
  have HW2 : Hid (W2 = w2.alloc (.cells #[.slice y1.a0 y1.s.se.length y1.c0, .slice y1.a1 y1.s.ra.length y1.c1, .slice y1.a2 y1.s.fi.length y1.c2, .slice y1.a3 y1.s.co.length y1.c3, .int .i64 y1.s.rf, .int .i64 y1.s.ff, .int .i64 y1.s.ft, .int .i64 y1.s.cf, .int .i64 y1.s.ct] 27)) := hW2
  have Hv : Hid (y1.v = .agg #[.slice y1.a0 y1.s.se.length y1.c0, .slice y1.a1 y1.s.ra.length y1.c1, .slice y1.a2 y1.s.fi.length y1.c2, .slice y1.a3 y1.s.co.length y1.c3, .int .i64 y1.s.rf, .int .i64 y1.s.ff, .int .i64 y1.s.ft, .int .i64 y1.s.cf, .int .i64 y1.s.ct]) := rfl
  rw [Hv.out]
  clear hW2 hy1 hb1 hb2 iny HY
  go_upto_region 2 with fail
  rw [← HW2.out]
  obtain ⟨b0, b1, b2, b3, b4, b5, b6, b7, b8⟩ := nine_cells Y2
  go_wp2_with fail
  rw [← Hv.out]
  refine (sroll_any y1 70 W2 in2).mono ?_
  rintro e w3 ⟨y2, rfl, hy2, _, hb3⟩
  rw [HY1.out] at hy2 ⊢
  obtain ⟨z0, z1, z2, z3, z4⟩ := al2_eq
  rw [← hy2] at z1 z2 z3 z4
  rw [z0]
  have bel4 : Below w.heap.size w w3 := bel3.trans (hb3.mono bel3.size)
  obtain ⟨W3, hW3⟩ : ∃ W, W = w3.alloc (so y2) := ⟨_, rfl⟩
  have Y3 : W3.heap[w3.heap.size]? = some (so y2) := by rw [hW3]; exact heap_alloc_new w3 _
  have bel5 : Below w.heap.size w W3 := by rw [hW3]; exact bel4.alloc bel4.size _
  have HW3 : Hid (W3 = w3.alloc (.cells #[.slice y2.a0 y2.s.se.length y2.c0, .slice y2.a1 y2.s.ra.length y2.c1, .slice y2.a2 y2.s.fi.length y2.c2, .slice y2.a3 y2.s.co.length y2.c3, .int .i64 y2.s.rf, .int .i64 y2.s.ff, .int .i64 y2.s.ft, .int .i64 y2.s.cf, .int .i64 y2.s.ct] 27)) := hW3
  obtain ⟨d0, d1, d2, d3, d4, d5, d6, d7, d8⟩ := nine_cells Y3
  rw [z1] at d2
  rw [z2] at d3
  rw [z3] at d6
  rw [z4] at d8
  simp only [ShT.v]
  clear hW3 hy2 hb3 z0 z1 z2 z3 z4 b0 b1 b2 b3 b4 b5 b6 b7 b8
  go_upto_region 3 with fail
  rw [← HW3.out]
  go_wp2
  go_ret
  exact ⟨rfl, bel5⟩

end Go.Proofs.Ytcgcefnfelmmkaa
