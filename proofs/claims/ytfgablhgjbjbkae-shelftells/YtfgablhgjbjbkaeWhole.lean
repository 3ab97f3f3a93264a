/-
  For every input, ShelfTells returns true: New, Wrong, Append, Roll and Forget tell what is wrong with any shelf, and what comes of it, as the document's answer does. No condition.
-/
import Derived.Test.YtfgablhgjbjbkaeRollU
import Derived.Test.YtfgablhgjbjbkaeRows
import Derived.Test.YtfgablhgjbjbkaeLabU
import Derived.Test.YtfgablhgjbjbkaeShL
import Derived.Test.YtfgablhgjbjbkaeUtilC
import Derived.Test.YtfgablhgjbjbkaeUtilD
import Derived.Test.YtfgablhgjbjbkaePlM
import Derived.Test.YtfgablhgjbjbkaeRollPut
import Derived.Test.YtfgablhgjbjbkaeShA
import Derived.Test.YtfgablhgjbjbkaeShY
import Derived.Test.YtfgablhgjbjbkaeShZ
import Derived.Deep.RegionWith
import Derived.Test.YtfgablhgjbjbkaeShK
import Derived.Test.YtfgablhgjbjbkaeRefIn
import Derived.Test.YtfgablhgjbjbkaeRefOf
import Derived.Deep.RegionHeld3
import Derived.Test.YtfgablhgjbjbkaeOpenShelf
/-
  The walk of SameBuckets, at the same buckets.
-/
namespace Go.Proofs.Ytfgablhgjbjbkae
open Go.RowKit Go.GrainU

set_option maxHeartbeats 1000000 in
theorem ksame_any (l : List Grain.Bk) (ao bo : Option Addr) (n c c' : Nat) (w : World) (ha : Seg w ao (kcells l)) (hb : Seg w bo (kcells l)) (hn : n = l.length) (hc : n ≤ 1000000) :
    Calls Try.prog 25 #[.slice ao n c, .slice bo n c'] w fun e w' => e = .returned (.bool true) ∧ Below w.heap.size w w' := by
  have HN := hide hn
  clear hn
  have hz : ((n : Int) != (n : Int)) = false := by simp
  go_enter Try.func25, Try.ntmps25
  go_wp2
  go_loopw [13] (fun i wr => ∃ (k : Nat), k ≤ n ∧ i = .int .i64 k ∧ Below w.heap.size w wr) (fun i _ => n - (intOf i).toNat)
  case atStart => exact ⟨0, Nat.zero_le _, rfl, Below.refl _ _⟩
  case round =>
    obtain ⟨k, hk, rfl, bel⟩ := hrel
    by_cases hlt : k < n
    · have hlt' : k < l.length := by rw [← HN.out]; exact hlt
      obtain ⟨b, off, rfl, hbl, hcell⟩ := seg_bucket ha hlt'
      obtain ⟨b', off', rfl, hbl', hcell'⟩ := seg_bucket hb hlt'
      obtain ⟨K, hK⟩ : ∃ K, K = Grain.bk l k := ⟨_, rfl⟩
      have q := (hcell k hlt').below bel hbl
      have q' := (hcell' k hlt').below bel hbl'
      rw [← hK] at q q'
      obtain ⟨c0, c1, c2, c3, c4, c5, c6, c7⟩ := q
      obtain ⟨d0, d1, d2, d3, d4, d5, d6, d7⟩ := q'
      clear hcell hcell' hlt' hK
      go_wp2
      go_quiet (fail)
      go_wp2
      go_roundw
      case rel => exact ⟨k + 1, by omega, by go_num, below_drewN bel _⟩
      case measure => simp [intOf]; omega
    · go_wp2
      go_ret
      exact ⟨rfl, bel⟩

end Go.Proofs.Ytfgablhgjbjbkae

/-
  The walk of SameSeries.
-/
namespace Go.Proofs.Ytfgablhgjbjbkae
open Go.RowKit Go.GrainU

set_option maxHeartbeats 1000000 in
theorem sames_any (a b : List (ByteArray × ByteArray)) (ao bo : Option Addr) (n m c c' : Nat) (w : World) (ha : Seg w ao (lcells a)) (hb : Seg w bo (lcells b)) (hn : n = a.length) (hm : m = b.length) (hc : n ≤ 9223372036854775807) :
    Calls Try.prog 41 #[.slice ao n c, .slice bo m c'] w fun e w' => e = .returned (.bool (decide (a = b))) ∧ Below w.heap.size w w' := by
  have HN := hide hn
  have HM := hide hm
  clear hn hm
  by_cases hl : n = m
  · subst hl
    have hz : ((n : Int) != (n : Int)) = false := by simp
    go_enter Try.func41, Try.ntmps41
    go_wp2
    go_loopw [13] (fun i wr => ∃ (k : Nat), k ≤ n ∧ i = .int .i64 k ∧ Hid (a.take k = b.take k) ∧ Below w.heap.size w wr) (fun i _ => n - (intOf i).toNat)
    case atStart => exact ⟨0, Nat.zero_le _, rfl, rfl, Below.refl _ _⟩
    case round =>
      obtain ⟨k, hk, rfl, HT, bel⟩ := hrel
      by_cases hlt : k < n
      · have h1 : k < a.length := by rw [← HN.out]; exact hlt
        have h2 : k < b.length := by rw [← HM.out]; exact hlt
        obtain ⟨p, off, rfl, hbl, hcell⟩ := seg_label ha h1
        obtain ⟨p', off', rfl, hbl', hcell'⟩ := seg_label hb h2
        obtain ⟨x, hx⟩ : ∃ x, x = lk a k := ⟨_, rfl⟩
        obtain ⟨y, hy⟩ : ∃ y, y = lv a k := ⟨_, rfl⟩
        obtain ⟨x', hx'⟩ : ∃ x, x = lk b k := ⟨_, rfl⟩
        obtain ⟨y', hy'⟩ : ∃ y, y = lv b k := ⟨_, rfl⟩
        have c0 : wr.cell? ⟨p, off + k * 2, none⟩ = some (.string x) := by rw [hx]; exact (bel.cell (by exact hbl)).trans (hcell k h1).1
        have c1 : wr.cell? ⟨p, off + k * 2 + 1, none⟩ = some (.string y) := by rw [hy]; exact (bel.cell (by exact hbl)).trans (hcell k h1).2
        have d0 : wr.cell? ⟨p', off' + k * 2, none⟩ = some (.string x') := by rw [hx']; exact (bel.cell (by exact hbl')).trans (hcell' k h2).1
        have d1 : wr.cell? ⟨p', off' + k * 2 + 1, none⟩ = some (.string y') := by rw [hy']; exact (bel.cell (by exact hbl')).trans (hcell' k h2).2
        clear hcell hcell'
        have HA := take_lab h1
        have HB := take_lab h2
        rw [← hx, ← hy] at HA
        rw [← hx', ← hy'] at HB
        have HA' := hide HA
        have HB' := hide HB
        have NO : Hid ((x, y) ≠ (x', y') → decide (a = b) = false) := by
          intro hne
          have : a ≠ b := by
            intro e
            have e2 := congrArg (List.take (k + 1)) e
            rw [HA'.out, HB'.out] at e2
            have e3 := (List.append_inj' e2 rfl).2
            simp at e3
            exact hne (by rw [e3.1, e3.2])
          simpa using this
        clear HA HB h1 h2 hx hy hx' hy'
        by_cases e1 : x = x'
        · subst e1
          obtain ⟨v1, v2⟩ := word_self x
          by_cases e2 : y = y'
          · subst e2
            obtain ⟨v3, v4⟩ := word_self y
            have HT' : Hid (a.take (k + 1) = b.take (k + 1)) := by
              show a.take (k + 1) = b.take (k + 1)
              rw [HA'.out, HB'.out, HT.out]
            clear HA' HB' HT NO
            go_wp2
            go_quiet (fail)
            go_wp2
            go_roundw
            case rel => exact ⟨k + 1, by omega, by go_num, HT', below_drewN bel _⟩
            case measure => simp [intOf]; omega
          · obtain ⟨v3, v4⟩ := word_ne e2
            have NN := hide (NO.out (by intro h; simp at h; exact e2 h))
            clear HA' HB' HT NO e2
            go_wp2
            go_quiet (fail)
            go_wp2
            go_ret
            exact ⟨ret_bool NN.out.symm, below_drewN bel _⟩
        · obtain ⟨v1, v2⟩ := word_ne e1
          have NN := hide (NO.out (by intro h; simp at h; exact e1 h.1))
          clear HA' HB' HT NO e1
          go_wp2
          go_quiet (fail)
          go_wp2
          go_ret
          exact ⟨ret_bool NN.out.symm, below_drewN bel _⟩
      · have he : k = n := by omega
        subst he
        have hab : a = b := by
          have := HT.out
          rwa [List.take_of_length_le (by rw [← HN.out]; omega), List.take_of_length_le (by rw [← HM.out]; omega)] at this
        clear HT
        go_wp2
        go_ret
        exact ⟨ret_bool (by simp [hab]), bel⟩
  · have hz : ((n : Int) != (m : Int)) = true := by simp; omega
    have hab : Hid (decide (a = b) = false) := by
      show decide (a = b) = false
      have : a ≠ b := by
        intro e
        apply hl
        rw [HN.out, HM.out, e]
      simpa using this
    clear hl
    go_enter Try.func41, Try.ntmps41
    go_wp2
    go_ret
    exact ⟨ret_bool hab.out.symm, Below.refl _ _⟩

end Go.Proofs.Ytfgablhgjbjbkae

/-
  The walks of SameSamples, Same (at shelves that are the same), New and alive.
-/
namespace Go.Proofs.Ytfgablhgjbjbkae
open Go.RowKit Go.GrainU

set_option maxHeartbeats 400000 in
theorem smsame_any (l : List (Int × Int)) (ao bo : Option Addr) (n c c' : Nat) (w : World) (ha : Seg w ao (scells l)) (hb : Seg w bo (scells l)) (hn : n = l.length) (hc : n ≤ 9223372036854775807) :
    Calls Try.prog 24 #[.slice ao n c, .slice bo n c'] w fun e w' => e = .returned (.bool true) ∧ Below w.heap.size w w' := by
  have HN := hide hn
  clear hn
  have hz : ((n : Int) != (n : Int)) = false := by simp
  go_enter Try.func24, Try.ntmps24
  go_wp2
  go_loopw [13] (fun i wr => ∃ (k : Nat), k ≤ n ∧ i = .int .i64 k ∧ Below w.heap.size w wr) (fun i _ => n - (intOf i).toNat)
  case atStart => exact ⟨0, Nat.zero_le _, rfl, Below.refl _ _⟩
  case round =>
    obtain ⟨k, hk, rfl, bel⟩ := hrel
    by_cases hlt : k < n
    · have hlt' : k < l.length := by rw [← HN.out]; exact hlt
      obtain ⟨b, off, rfl, hcell⟩ := ha.sample hlt'
      obtain ⟨b', off', rfl, hcell'⟩ := hb.sample hlt'
      have hbl : b < w.heap.size := World.block_lt_of_cell? w ⟨b, off + k * 2, none⟩ (hcell k hlt').1
      have hbl' : b' < w.heap.size := World.block_lt_of_cell? w ⟨b', off' + k * 2, none⟩ (hcell' k hlt').1
      have c0 : wr.cell? ⟨b, off + k * 2, none⟩ = some (.int .i64 (Grain.tm l k)) := (bel.cell (by exact hbl)).trans (hcell k hlt').1
      have c1 : wr.cell? ⟨b, off + k * 2 + 1, none⟩ = some (.int .i64 (Grain.vl l k)) := (bel.cell (by exact hbl)).trans (hcell k hlt').2
      have d0 : wr.cell? ⟨b', off' + k * 2, none⟩ = some (.int .i64 (Grain.tm l k)) := (bel.cell (by exact hbl')).trans (hcell' k hlt').1
      have d1 : wr.cell? ⟨b', off' + k * 2 + 1, none⟩ = some (.int .i64 (Grain.vl l k)) := (bel.cell (by exact hbl')).trans (hcell' k hlt').2
      clear hcell hcell' hlt'
      go_wp2
      go_quiet (fail)
      go_wp2
      go_roundw
      case rel => exact ⟨k + 1, by omega, by go_num, below_drewN bel _⟩
      case measure => simp [intOf]; omega
    · go_wp2
      go_ret
      exact ⟨rfl, bel⟩

set_option maxHeartbeats 2000000 in
theorem ssame_any (x z : ShT) (w : World) (hx : ShIn w x) (hz : ShIn w z) (he : z.s = x.s) (h2 : x.s.fi.length ≤ 1000000) (h3 : x.s.co.length ≤ 1000000) :
    Calls Try.prog 14 #[x.v, z.v] w fun e w' => e = .returned (.bool true) ∧ Below w.heap.size w w' := by
  obtain ⟨zs, A0, D0, A1, D1, A2, D2, A3, D3⟩ := z
  simp only at he
  subst he
  obtain ⟨m0, e0⟩ : ∃ m, m = x.s.se.length := ⟨_, rfl⟩
  obtain ⟨m1, e1⟩ : ∃ m, m = x.s.ra.length := ⟨_, rfl⟩
  obtain ⟨m2, e2⟩ : ∃ m, m = x.s.fi.length := ⟨_, rfl⟩
  obtain ⟨m3, e3⟩ : ∃ m, m = x.s.co.length := ⟨_, rfl⟩
  simp only [ShT.v, ← e0, ← e1, ← e2, ← e3]
  rw [← e2] at h2
  rw [← e3] at h3
  have hl0 : m0 ≤ 9223372036854775807 := by have := hx.n0; omega
  have hl1 : m1 ≤ 9223372036854775807 := by have := hx.n1; omega
  obtain ⟨X, hX⟩ : ∃ X, X = w.heap.size := ⟨_, rfl⟩
  obtain ⟨U, hU⟩ : ∃ U, U = w.alloc (.cells #[.slice x.a0 m0 x.c0, .slice x.a1 m1 x.c1, .slice x.a2 m2 x.c2, .slice x.a3 m3 x.c3, .int .i64 x.s.rf, .int .i64 x.s.ff, .int .i64 x.s.ft, .int .i64 x.s.cf, .int .i64 x.s.ct] 44) := ⟨_, rfl⟩
  obtain ⟨V, hV⟩ : ∃ V, V = U.alloc (.cells #[.slice A0 m0 D0, .slice A1 m1 D1, .slice A2 m2 D2, .slice A3 m3 D3, .int .i64 x.s.rf, .int .i64 x.s.ff, .int .i64 x.s.ft, .int .i64 x.s.cf, .int .i64 x.s.ct] 44) := ⟨_, rfl⟩
  have hUs : U.heap.size = X + 1 := by rw [hU, hX]; simp
  have bel : Below w.heap.size w V := by rw [hV, hU]; exact ((Below.refl _ _).alloc (Nat.le_refl _) _).alloc (by simp) _
  have B0 : V.heap[X]? = some (sob (.slice x.a0 m0 x.c0) (.slice x.a1 m1 x.c1) (.slice x.a2 m2 x.c2) (.slice x.a3 m3 x.c3) (.int .i64 x.s.rf) (.int .i64 x.s.ff) (.int .i64 x.s.ft) (.int .i64 x.s.cf) (.int .i64 x.s.ct)) := by
    rw [hV, Below.heap_alloc _ _ _ (by omega), hU, hX]; exact heap_alloc_new w _
  have C0 : V.heap[X + 1]? = some (sob (.slice A0 m0 D0) (.slice A1 m1 D1) (.slice A2 m2 D2) (.slice A3 m3 D3) (.int .i64 x.s.rf) (.int .i64 x.s.ff) (.int .i64 x.s.ft) (.int .i64 x.s.cf) (.int .i64 x.s.ct)) := by
    rw [hV, ← hUs]; exact heap_alloc_new _ _
  have HV : Hid (V = (w.alloc (.cells #[.slice x.a0 m0 x.c0, .slice x.a1 m1 x.c1, .slice x.a2 m2 x.c2, .slice x.a3 m3 x.c3, .int .i64 x.s.rf, .int .i64 x.s.ff, .int .i64 x.s.ft, .int .i64 x.s.cf, .int .i64 x.s.ct] 44)).alloc (.cells #[.slice A0 m0 D0, .slice A1 m1 D1, .slice A2 m2 D2, .slice A3 m3 D3, .int .i64 x.s.rf, .int .i64 x.s.ff, .int .i64 x.s.ft, .int .i64 x.s.cf, .int .i64 x.s.ct] 44)) := by rw [hV, hU]; exact rfl
  have HX := hide hX
  have hxV := hx.below bel
  have hzV := hz.below bel
  have H0 := hide e0
  have H1 := hide e1
  have H2 := hide e2
  have H3 := hide e3
  clear hU hV hX hUs hx hz e0 e1 e2 e3
  go_enter Try.func14, Try.ntmps14
  go_wp2_with fail
  rw [← HV.out, ← HX.out]
  refine (sames_any x.s.se x.s.se x.a0 A0 m0 m0 x.c0 D0 V hxV.g0 hzV.g0 H0.out H0.out hl0).mono ?_
  rintro e w1 ⟨rfl, hb1⟩
  rw [show decide (x.s.se = x.s.se) = true from by simp]
  have bel1 : Below w.heap.size w w1 := bel.trans (hb1.mono bel.size)
  have B1 := below_block hb1 B0
  have C1 := below_block hb1 C0
  have hx1 := hxV.below hb1
  have hz1 := hzV.below hb1
  obtain ⟨b0, b1, b2, b3, b4, b5, b6, b7, b8⟩ := sob_cells B1
  obtain ⟨c0, c1, c2, c3, c4, c5, c6, c7, c8⟩ := sob_cells C1
  clear HV hb1 B0 C0 hxV hzV bel
  go_wp2_with fail
  refine (smsame_any x.s.ra x.a1 A1 m1 x.c1 D1 w1 hx1.g1 hz1.g1 H1.out hl1).mono ?_
  rintro e w2 ⟨rfl, hb2⟩
  have bel2 : Below w.heap.size w w2 := bel1.trans (hb2.mono bel1.size)
  have B2 := below_block hb2 B1
  have C2 := below_block hb2 C1
  have hx2 := hx1.below hb2
  have hz2 := hz1.below hb2
  clear b0 b1 b2 b3 b4 b5 b6 b7 b8 c0 c1 c2 c3 c4 c5 c6 c7 c8 hb2 B1 C1 hx1 hz1 bel1
  obtain ⟨b0, b1, b2, b3, b4, b5, b6, b7, b8⟩ := sob_cells B2
  obtain ⟨c0, c1, c2, c3, c4, c5, c6, c7, c8⟩ := sob_cells C2
  go_wp2_with fail
  refine (ksame_any x.s.fi x.a2 A2 m2 x.c2 D2 w2 hx2.g2 hz2.g2 H2.out h2).mono ?_
  rintro e w3 ⟨rfl, hb3⟩
  have bel3 : Below w.heap.size w w3 := bel2.trans (hb3.mono bel2.size)
  have B3 := below_block hb3 B2
  have C3 := below_block hb3 C2
  have hx3 := hx2.below hb3
  have hz3 := hz2.below hb3
  clear b0 b1 b2 b3 b4 b5 b6 b7 b8 c0 c1 c2 c3 c4 c5 c6 c7 c8 hb3 B2 C2 hx2 hz2 bel2
  obtain ⟨b0, b1, b2, b3, b4, b5, b6, b7, b8⟩ := sob_cells B3
  obtain ⟨c0, c1, c2, c3, c4, c5, c6, c7, c8⟩ := sob_cells C3
  go_wp2_with fail
  refine (ksame_any x.s.co x.a3 A3 m3 x.c3 D3 w3 hx3.g3 hz3.g3 H3.out h3).mono ?_
  rintro e w4 ⟨rfl, hb4⟩
  have bel4 : Below w.heap.size w w4 := bel3.trans (hb4.mono bel3.size)
  have B4 := below_block hb4 B3
  have C4 := below_block hb4 C3
  clear b0 b1 b2 b3 b4 b5 b6 b7 b8 c0 c1 c2 c3 c4 c5 c6 c7 c8 hb4 B3 C3 hx3 hz3 bel3
  obtain ⟨b0, b1, b2, b3, b4, b5, b6, b7, b8⟩ := sob_cells B4
  obtain ⟨c0, c1, c2, c3, c4, c5, c6, c7, c8⟩ := sob_cells C4
  go_wp2
  go_ret
  exact ⟨rfl, bel4⟩

set_option maxHeartbeats 1000000 in
theorem snew_any (l : List (ByteArray × ByteArray)) (ao : Option Addr) (n c : Nat) (w : World) (hs : Seg w ao (lcells l)) (hn : n = l.length) (hf : Fits l) (hL : n * 32 ≤ 140737488355328) (hnil : ao = none → n = 0 ∧ c = 0) :
    Calls Try.prog 15 #[.slice ao n c] w fun e w' => ∃ y : ShT, e = .returned y.v ∧ y.s = { Grain.szero with se := l } ∧ ShO w.heap.size w' y ∧ Below w.heap.size w w' := by
  have HN := hide hn
  have HZ := hide hnil
  have HL := hide hL
  obtain ⟨X, hX⟩ : ∃ X, X = w.heap.size := ⟨_, rfl⟩
  obtain ⟨V, hV⟩ : ∃ V, V = w.alloc (.cells #[.slice none 0 0, .slice none 0 0, .slice none 0 0, .slice none 0 0, .int .i64 0, .int .i64 0, .int .i64 0, .int .i64 0, .int .i64 0] 44) := ⟨_, rfl⟩
  have bel : Below w.heap.size w V := by rw [hV]; exact (Below.refl _ _).alloc (Nat.le_refl _) _
  have R0 : V.heap[X]? = some (so szT) := by rw [hV, hX]; exact heap_alloc_new w _
  have hVs : V.heap.size = X + 1 := by rw [hV, hX]; simp
  have HV := hide hV
  have HX := hide hX
  have hsV := hs.below bel
  clear hV hX hn hnil hL
  go_enter Try.func15, Try.ntmps15
  go_wp2_with fail
  rw [← HV.out, ← HX.out]
  refine (lcopy_any l ao n c V hsV HN.out HL.out HZ.out).mono ?_
  rintro e w1 ⟨A, M, D, rfl, own, hb1⟩
  have hM : M = n := by have := own.1; rw [lcells_length, ← HN.out] at this; omega
  have HM := hide hM
  have bel1 : Below w.heap.size w w1 := bel.trans (hb1.mono bel.size)
  have R1 := below_block hb1 R0
  clear HV hb1 R0 hM
  obtain ⟨q0, q1, q2, q3, q4, q5, q6, q7, q8⟩ := sz_cells R1
  obtain ⟨f0, f1, f2, f3, f4, f5, f6, f7, f8⟩ := so_free R1
  go_wp2
  refine bodyPost_ret (v := .agg #[.slice A M D, .slice none 0 0, .slice none 0 0, .slice none 0 0, .int .i64 0, .int .i64 0, .int .i64 0, .int .i64 0, .int .i64 0]) (by simp [results, Try.results15, go_sem, q0, q1, q2, q3, q4, q5, q6, q7, q8]) rfl ?_
  have hml : M = l.length := HM.out.trans HN.out
  refine ⟨⟨{ Grain.szero with se := l }, A, D, none, 0, none, 0, none, 0⟩, ?_, rfl, ⟨?_, World.ownsRow_nil _ _ _ _, World.ownsRow_nil _ _ _ _, World.ownsRow_nil _ _ _ _, fun g h => ?_, hf, ?_, ?_, ?_, ?_⟩, below_set9 bel1 (by have := HX.out; omega) _ _ _ _ _ _ _ _ _⟩
  · simp only [ShT.v, ← hml]; rfl
  · simp only [← hml]; exact own_down (own_set9 own (by omega) _ _ _ _ _ _ _ _ _) (by have := HX.out; omega)
  · simp [Value.ownBlock] at h
  · show l.length * 32 ≤ _; rw [← HN.out]; exact HL.out
  · simp [Grain.szero]
  · simp [Grain.szero]
  · simp [Grain.szero]

/-- the first shelf that alive asks, with a sample -/
def al1 : Grain.Shf := { Grain.szero with ra := [(5, 7)] }

theorem al1_eq : Grain.sapp { Grain.szero with se := [] } 5 7 = (al1, 0) := rfl
theorem al2_eq : (Grain.sroll al1 70).2 = 0 ∧ (Grain.sroll al1 70).1.fi.length = 1 ∧ (Grain.sroll al1 70).1.co.length = 1 ∧ (Grain.sroll al1 70).1.ft = 70 ∧ (Grain.sroll al1 70).1.ct = 60 := ⟨rfl, rfl, rfl, rfl, rfl⟩

set_option maxHeartbeats 1000000 in
theorem shalive_any (w : World) : Calls Try.prog 22 #[] w fun e w' => e = .returned (.bool true) ∧ Below w.heap.size w w' := by
  go_enter Try.func22, Try.ntmps22
  go_wp2_with fail
  refine (snew_any [] none 0 0 w (.inl rfl) rfl (fun k hk => by simp at hk) (by decide) (fun _ => ⟨rfl, rfl⟩)).mono ?_
  rintro e w1 ⟨y, rfl, hy, iny, hb1⟩
  have HY := hide hy
  clear hy
  go_wp2_with fail
  refine (sapp_any y 5 7 w1 iny.shIn).mono ?_
  rintro e w2 ⟨y1, rfl, hy1, in1o, hb2⟩
  have in1 := in1o.shIn
  have bel2 : Below w.heap.size w w2 := hb1.trans (hb2.mono hb1.size)
  rw [HY.out, al1_eq] at hy1 ⊢
  have HY1 : Hid (y1.s = al1) := hy1
  obtain ⟨W2, hW2⟩ : ∃ W, W = w2.alloc (so y1) := ⟨_, rfl⟩
  have hbW : Below w2.heap.size w2 W2 := by rw [hW2]; exact (Below.refl _ _).alloc (Nat.le_refl _) _
  have bel3 : Below w.heap.size w W2 := bel2.trans (hbW.mono bel2.size)
  have in2 := in1.below hbW
  have Y2 : W2.heap[w2.heap.size]? = some (so y1) := by rw [hW2]; exact heap_alloc_new w2 _
  have HW2 : Hid (W2 = w2.alloc (.cells #[.slice y1.a0 y1.s.se.length y1.c0, .slice y1.a1 y1.s.ra.length y1.c1, .slice y1.a2 y1.s.fi.length y1.c2, .slice y1.a3 y1.s.co.length y1.c3, .int .i64 y1.s.rf, .int .i64 y1.s.ff, .int .i64 y1.s.ft, .int .i64 y1.s.cf, .int .i64 y1.s.ct] 44)) := hW2
  have Hv : Hid (y1.v = .agg #[.slice y1.a0 y1.s.se.length y1.c0, .slice y1.a1 y1.s.ra.length y1.c1, .slice y1.a2 y1.s.fi.length y1.c2, .slice y1.a3 y1.s.co.length y1.c3, .int .i64 y1.s.rf, .int .i64 y1.s.ff, .int .i64 y1.s.ft, .int .i64 y1.s.cf, .int .i64 y1.s.ct]) := rfl
  rw [Hv.out]
  clear hW2 hy1 hb1 hb2 iny HY
  go_upto_region 2 with fail
  rw [← HW2.out]
  obtain ⟨b0, b1, b2, b3, b4, b5, b6, b7, b8⟩ := nine_cells Y2
  go_wp2_with fail
  rw [← Hv.out]
  refine (sroll_any y1 70 W2 in2).mono ?_
  rintro e w3 ⟨y2, rfl, hy2, _, hb3⟩
  rw [HY1.out] at hy2 ⊢
  obtain ⟨z0, z1, z2, z3, z4⟩ := al2_eq
  rw [← hy2] at z1 z2 z3 z4
  rw [z0]
  have bel4 : Below w.heap.size w w3 := bel3.trans (hb3.mono bel3.size)
  obtain ⟨W3, hW3⟩ : ∃ W, W = w3.alloc (so y2) := ⟨_, rfl⟩
  have Y3 : W3.heap[w3.heap.size]? = some (so y2) := by rw [hW3]; exact heap_alloc_new w3 _
  have bel5 : Below w.heap.size w W3 := by rw [hW3]; exact bel4.alloc bel4.size _
  have HW3 : Hid (W3 = w3.alloc (.cells #[.slice y2.a0 y2.s.se.length y2.c0, .slice y2.a1 y2.s.ra.length y2.c1, .slice y2.a2 y2.s.fi.length y2.c2, .slice y2.a3 y2.s.co.length y2.c3, .int .i64 y2.s.rf, .int .i64 y2.s.ff, .int .i64 y2.s.ft, .int .i64 y2.s.cf, .int .i64 y2.s.ct] 44)) := hW3
  obtain ⟨d0, d1, d2, d3, d4, d5, d6, d7, d8⟩ := nine_cells Y3
  rw [z1] at d2
  rw [z2] at d3
  rw [z3] at d6
  rw [z4] at d8
  simp only [ShT.v]
  clear hW3 hy2 hb3 z0 z1 z2 z3 z4 b0 b1 b2 b3 b4 b5 b6 b7 b8
  go_upto_region 3 with fail
  rw [← HW3.out]
  go_wp2
  go_ret
  exact ⟨rfl, bel5⟩

end Go.Proofs.Ytfgablhgjbjbkae

/-
  Parts as cells: read, written in place, put behind others.
-/
namespace Go.GrainU
open Go.RowKit

/-- a part's cells -/
def ptc (p : Grain.Pt) : List Value := [.int .i64 p.k, .int .i64 p.f, .int .i64 p.t]

/-- parts' cells -/
def pcells : List Grain.Pt → List Value
  | [] => []
  | b :: r => ptc b ++ pcells r

theorem pcells_length (l : List Grain.Pt) : (pcells l).length = l.length * 3 := by
  induction l with
  | nil => rfl
  | cons b r ih => simp only [pcells, List.length_append, List.length_cons, ih, ptc, List.length_nil]; omega

theorem pcells_append (a b : List Grain.Pt) : pcells (a ++ b) = pcells a ++ pcells b := by
  induction a with
  | nil => rfl
  | cons x r ih => simp only [List.cons_append, pcells, ih, List.append_assoc]

theorem pcells_snoc (a : List Grain.Pt) (b : Grain.Pt) : pcells (a ++ [b]) = pcells a ++ ptc b := by rw [pcells_append]; simp [pcells]

theorem pcells_at (l : List Grain.Pt) : ∀ k i, k < l.length → i < 3 → (pcells l)[k * 3 + i]? = (ptc (Grain.pt l k))[i]? := by
  induction l with
  | nil => intro k i hk; simp at hk
  | cons b r ih =>
    intro k i hk hi
    have hl : (ptc b).length = 3 := rfl
    match k with
    | 0 =>
      rw [pcells, List.getElem?_append_left (by omega)]
      simp [Grain.pt]
    | k + 1 =>
      rw [pcells, List.getElem?_append_right (by omega), hl, show (k + 1) * 3 + i - 3 = k * 3 + i from by omega, ih k i (by simpa using hk) hi]
      simp [Grain.pt]

theorem pcells_one (l : List Grain.Pt) : ∀ u ∈ pcells l, u.oneCell' = true := by
  induction l with
  | nil => intro u hu; simp [pcells] at hu
  | cons b r ih =>
    intro u hu
    simp only [pcells, List.mem_append] at hu
    rcases hu with e | e
    · simp [ptc] at e
      rcases e with rfl | rfl | rfl <;> rfl
    · exact ih u e

/-- the three cells of a part at an offset -/
def Cells3 (w : World) (b off : Nat) (p : Grain.Pt) : Prop :=
  w.cell? ⟨b, off, none⟩ = some (.int .i64 p.k) ∧ w.cell? ⟨b, off + 1, none⟩ = some (.int .i64 p.f) ∧ w.cell? ⟨b, off + 2, none⟩ = some (.int .i64 p.t)

theorem seg_part {w : World} {ao : Option Addr} {l : List Grain.Pt} (h : Seg w ao (pcells l)) {k : Nat} (hk : k < l.length) :
    ∃ b off, ao = some ⟨b, off, none⟩ ∧ b < w.heap.size ∧ ∀ j, j < l.length → Cells3 w b (off + j * 3) (Grain.pt l j) := by
  have hs := pcells_length l
  rcases h with h | ⟨b, off, rfl, h⟩
  · rw [h] at hs; simp at hs; omega
  · have hc : ∀ j i, j < l.length → i < 3 → w.cell? ⟨b, off + j * 3 + i, none⟩ = (ptc (Grain.pt l j))[i]? := fun j i hj hi => by
      rw [Nat.add_assoc, h (j * 3 + i) (by omega)]
      exact pcells_at l j i hj hi
    refine ⟨b, off, rfl, World.block_lt_of_cell? w ⟨b, off + k * 3 + 0, none⟩ (hc k 0 hk (by omega)), fun j hj => ?_⟩
    exact ⟨hc j 0 hj (by omega), hc j 1 hj (by omega), hc j 2 hj (by omega)⟩

theorem Cells3.below {w w' : World} {B b off : Nat} {p : Grain.Pt} (h : Cells3 w b off p) (hb : Below B w w') (hl : b < B) : Cells3 w' b off p := by
  obtain ⟨h0, h1, h2⟩ := h
  exact ⟨(hb.cell (p := ⟨b, off, none⟩) hl).trans h0, (hb.cell (p := ⟨b, off + 1, none⟩) hl).trans h1, (hb.cell (p := ⟨b, off + 2, none⟩) hl).trans h2⟩

theorem own_plen {w : World} {base e N : Nat} {v : Value} {l : List Grain.Pt} (h : w.ownsRow base e 3 v N (pcells l)) : N = l.length := by
  have := h.1; rw [pcells_length] at this; omega

theorem pset (R : List Grain.Pt) (q : Grain.Pt) (t : Int) : (pcells (R ++ [q])).set (R.length * 3 + 2) (.int .i64 t) = pcells (R ++ [⟨q.k, q.f, t⟩]) := by
  have hl := pcells_length R
  rw [pcells_snoc, pcells_snoc]
  rw [List.set_append_right _ _ (by omega), hl]
  congr 1
  simp [ptc]

end Go.GrainU
namespace Go.Proofs.Ytfgablhgjbjbkae
theorem Try.infoPart : (Try.prog.info? 112).map (fun i => (i.zero, i.size, i.bytes)) = some (some (.agg #[.int .i64 0, .int .i64 0, .int .i64 0]), 3, 24) := by kernel_rfl
end Go.Proofs.Ytfgablhgjbjbkae

/-
  The walks of plan's isWhole and mayRead.
-/
namespace Go.Proofs.Ytfgablhgjbjbkae
open Go.RowKit Go.GrainU

theorem below_pl {W V w' : World} (hb : Below V.heap.size V w') (h : Below W.heap.size W V) : Below W.heap.size W w' := h.trans (hb.mono h.size)

theorem nine9 {w : World} {B : Nat} {x0 x1 x2 x3 x4 x5 x6 x7 x8 : Value} {t : TypeId} (h : w.heap[B]? = some (.cells #[x0, x1, x2, x3, x4, x5, x6, x7, x8] t (0, 0))) :
    w.cell? ⟨B, 0, none⟩ = some x0 ∧ w.cell? ⟨B, 1, none⟩ = some x1 ∧ w.cell? ⟨B, 2, none⟩ = some x2 ∧ w.cell? ⟨B, 3, none⟩ = some x3 ∧ w.cell? ⟨B, 4, none⟩ = some x4 ∧ w.cell? ⟨B, 5, none⟩ = some x5 ∧ w.cell? ⟨B, 6, none⟩ = some x6 ∧ w.cell? ⟨B, 7, none⟩ = some x7 ∧ w.cell? ⟨B, 8, none⟩ = some x8 := by
  refine ⟨?_, ?_, ?_, ?_, ?_, ?_, ?_, ?_, ?_⟩ <;> (rw [cell_of_row w B _ _ t (0, 0) h]; rfl)

theorem three3 {w : World} {B : Nat} {x0 x1 x2 : Value} {t : TypeId} (h : w.heap[B]? = some (.cells #[x0, x1, x2] t (0, 0))) :
    w.cell? ⟨B, 0, none⟩ = some x0 ∧ w.cell? ⟨B, 1, none⟩ = some x1 ∧ w.cell? ⟨B, 2, none⟩ = some x2 := by
  refine ⟨?_, ?_, ?_⟩ <;> (rw [cell_of_row w B _ _ t (0, 0) h]; rfl)

set_option maxHeartbeats 1000000 in
theorem whole_any (k f t st : Int) (b : Bool) (w : World) (hk : k = 1 ∧ st = 10 ∨ k = 2 ∧ st = 60) (hb : b = decide (f % st = 0 ∧ t % st = 0)) :
    Calls Try.prog 102 #[.agg #[.int .i64 k, .int .i64 f, .int .i64 t]] w fun e w' => e = .returned (.bool b) ∧ Below w.heap.size w w' := by
  have H1 := hide (tmod_emod f st)
  have H2 := hide (tmod_emod t st)
  have HB := hide hb
  clear hb
  have bel : Below w.heap.size w (w.alloc (.cells #[.int .i64 k, .int .i64 f, .int .i64 t] 112)) := (Below.refl _ _).alloc (Nat.le_refl _) _
  rcases hk with ⟨rfl, rfl⟩ | ⟨rfl, rfl⟩
  all_goals
    go_enter Try.func102, Try.ntmps102
    go_wp2_with fail
    refine (step_any _ _).mono ?_
    rintro e w1 ⟨rfl, rfl⟩
    simp only [stepOf]
    go_wp2
    all_goals
      go_ret
      refine ⟨ret_bool ?_, bel⟩
      have h1 := H1.out
      have h2 := H2.out
      rw [HB.out]
      clear H1 H2 HB
      rw [Bool.eq_iff_iff]
      simp
      omega

set_option maxHeartbeats 2000000 in
theorem may_any (s : Grain.Shf) (v0 v1 v2 v3 : Value) (p : Grain.Pt) (b : Bool) (w : World) (hb : b = Grain.may s p) :
    Calls Try.prog 76 #[.agg #[v0, v1, v2, v3, .int .i64 s.rf, .int .i64 s.ff, .int .i64 s.ft, .int .i64 s.cf, .int .i64 s.ct], .agg #[.int .i64 p.k, .int .i64 p.f, .int .i64 p.t]] w fun e w' => e = .returned (.bool b) ∧ Below w.heap.size w w' := by
  obtain ⟨se, ra, fi, co, rf, ff, ft, cf, ct⟩ := s
  obtain ⟨k, f, t⟩ := p
  have HB := hide hb
  clear hb
  obtain ⟨V, hV⟩ : ∃ V, V = (w.alloc (.cells #[v0, v1, v2, v3, .int .i64 rf, .int .i64 ff, .int .i64 ft, .int .i64 cf, .int .i64 ct] 44)).alloc (.cells #[.int .i64 k, .int .i64 f, .int .i64 t] 112) := ⟨_, rfl⟩
  have bel : Below w.heap.size w V := by rw [hV]; exact ((Below.refl _ _).alloc (Nat.le_refl _) _).alloc (by simp) _
  have S0 : V.heap[w.heap.size]? = some (.cells #[v0, v1, v2, v3, .int .i64 rf, .int .i64 ff, .int .i64 ft, .int .i64 cf, .int .i64 ct] 44 (0, 0)) := by
    rw [hV, Below.heap_alloc _ _ _ (by simp)]; exact heap_alloc_new w _
  have P0 : V.heap[w.heap.size + 1]? = some (.cells #[.int .i64 k, .int .i64 f, .int .i64 t] 112 (0, 0)) := by
    rw [hV]; have := heap_alloc_new (w.alloc (.cells #[v0, v1, v2, v3, .int .i64 rf, .int .i64 ff, .int .i64 ft, .int .i64 cf, .int .i64 ct] 44)) (.cells #[.int .i64 k, .int .i64 f, .int .i64 t] 112); rwa [World.size_alloc] at this
  have HV := hide hV
  clear hV
  by_cases hft : t ≤ f
  · have e : b = false := by rw [HB.out]; simp [Grain.may, hft]
    subst e
    clear HB
    go_enter Try.func76, Try.ntmps76
    go_wp2
    go_ret
    rw [← HV.out]
    exact ⟨rfl, bel⟩
  · have hlt : f < t := by omega
    clear hft
    by_cases k0 : k = 0
    · subst k0
      go_enter Try.func76, Try.ntmps76
      go_wp2
      all_goals
        go_ret
        refine ⟨ret_bool ?_, by rw [← HV.out]; exact bel⟩
        rw [HB.out]
        clear HB HV bel S0 P0
        rw [Bool.eq_iff_iff]
        simp [Grain.may]
        omega
    · by_cases k1 : k = 1
      · subst k1
        obtain ⟨b', hb'⟩ : ∃ b', b' = decide (f % 10 = 0 ∧ t % 10 = 0) := ⟨_, rfl⟩
        have HB' := hide hb'
        clear hb'
        go_enter Try.func76, Try.ntmps76
        go_wp2_with fail
        rw [← HV.out]
        refine (whole_any 1 f t 10 b' _ (.inl ⟨rfl, rfl⟩) HB'.out).mono ?_
        rintro e w1 ⟨rfl, hb1⟩
        have bel1 : Below w.heap.size w w1 := bel.trans (hb1.mono bel.size)
        obtain ⟨c0, c1, c2, c3, c4, c5, c6, c7, c8⟩ := nine9 (below_block hb1 S0)
        obtain ⟨d0, d1, d2⟩ := three3 (below_block hb1 P0)
        clear HV bel S0 P0 hb1
        go_wp2
        all_goals
          go_ret
          refine ⟨ret_bool ?_, bel1⟩
          have hb2 := HB'.out
          rw [HB.out]
          clear HB HB' bel1 c0 c1 c2 c3 c4 c5 c6 c7 c8 d0 d1 d2
          rw [Bool.eq_iff_iff]
          simp_all [Grain.may]
          try omega
      · by_cases k2 : k = 2
        · subst k2
          obtain ⟨b', hb'⟩ : ∃ b', b' = decide (f % 60 = 0 ∧ t % 60 = 0) := ⟨_, rfl⟩
          have HB' := hide hb'
          clear hb'
          go_enter Try.func76, Try.ntmps76
          go_wp2_with fail
          rw [← HV.out]
          refine (whole_any 2 f t 60 b' _ (.inr ⟨rfl, rfl⟩) HB'.out).mono ?_
          rintro e w1 ⟨rfl, hb1⟩
          have bel1 : Below w.heap.size w w1 := bel.trans (hb1.mono bel.size)
          obtain ⟨c0, c1, c2, c3, c4, c5, c6, c7, c8⟩ := nine9 (below_block hb1 S0)
          obtain ⟨d0, d1, d2⟩ := three3 (below_block hb1 P0)
          clear HV bel S0 P0 hb1
          go_wp2
          all_goals
            go_ret
            refine ⟨ret_bool ?_, bel1⟩
            have hb2 := HB'.out
            rw [HB.out]
            clear HB HB' bel1 c0 c1 c2 c3 c4 c5 c6 c7 c8 d0 d1 d2
            rw [Bool.eq_iff_iff]
            simp_all [Grain.may]
            try omega
        · have e : b = false := by rw [HB.out]; simp [Grain.may, k0, k1, k2]
          subst e
          have e0 : (k == 0) = false := by simpa using k0
          have e1 : (k == 1) = false := by simpa using k1
          have e2 : (k == 2) = false := by simpa using k2
          clear HB k0 k1 k2
          go_enter Try.func76, Try.ntmps76
          go_wp2
          go_ret
          rw [← HV.out]
          exact ⟨rfl, bel⟩

end Go.Proofs.Ytfgablhgjbjbkae

/-
  The walk of the document's own Forget.
-/
namespace Go.Proofs.Ytfgablhgjbjbkae
open Go.RowKit Go.GrainU

theorem beg_quo (M : Int) {st : Int} (hst : st = 10 ∨ st = 60) : M / st * st = Grain.beg M st := by
  unfold Grain.beg
  rcases hst with e | e <;> subst e <;> omega

set_option maxRecDepth 20000 in
set_option maxHeartbeats 8000000 in
theorem rforg_any (x : ShT) (tier tt : Int) (w : World) (hx : ShIn w x) :
    Calls Try.prog 21 #[x.v, .int .i64 tier, .int .i64 tt] w (RPost w x (Grain.sforg x.s tier tt)) := by
  obtain ⟨i0, hi, hz0, hz1, hz2⟩ := sinfo_parts Try.infoSmp
  obtain ⟨r, hr⟩ : ∃ r, r = Grain.sforg x.s tier tt := ⟨_, rfl⟩
  rw [← hr]
  have HR := hide hr
  obtain ⟨X, hX⟩ : ∃ X, X = w.heap.size := ⟨_, rfl⟩
  obtain ⟨V, hV⟩ : ∃ V, V = (w.alloc (so x)).alloc (so szT) := ⟨_, rfl⟩
  have bel : Below w.heap.size w V := by rw [hV]; exact ((Below.refl _ _).alloc (Nat.le_refl _) _).alloc (by simp) _
  have S0 : V.heap[X]? = some (so x) := by rw [hV, hX, Below.heap_alloc _ _ _ (by simp)]; exact heap_alloc_new w _
  have Z0 : V.heap[X + 1]? = some (so szT) := by rw [hV, hX]; have := heap_alloc_new (w.alloc (so x)) (so szT); rwa [World.size_alloc] at this
  have hxV := hx.below bel
  have HV : Hid (V = (w.alloc (.cells #[.slice x.a0 x.s.se.length x.c0, .slice x.a1 x.s.ra.length x.c1, .slice x.a2 x.s.fi.length x.c2, .slice x.a3 x.s.co.length x.c3, .int .i64 x.s.rf, .int .i64 x.s.ff, .int .i64 x.s.ft, .int .i64 x.s.cf, .int .i64 x.s.ct] 44)).alloc (.cells #[.slice none 0 0, .slice none 0 0, .slice none 0 0, .slice none 0 0, .int .i64 0, .int .i64 0, .int .i64 0, .int .i64 0, .int .i64 0] 44)) := hV
  have HX := hide hX
  have Hv : Hid (x.v = .agg #[.slice x.a0 x.s.se.length x.c0, .slice x.a1 x.s.ra.length x.c1, .slice x.a2 x.s.fi.length x.c2, .slice x.a3 x.s.co.length x.c3, .int .i64 x.s.rf, .int .i64 x.s.ff, .int .i64 x.s.ft, .int .i64 x.s.cf, .int .i64 x.s.ct]) := rfl
  obtain ⟨E, hE⟩ : ∃ E, E = Grain.swrong x.s := ⟨_, rfl⟩
  have HE := hide hE
  have HXW := hide hx
  have wX : w.heap.size ≤ X := by omega
  clear hV hX hE hx hr
  rw [Hv.out]
  go_enter Try.func21, Try.ntmps21
  go_wp2_with fail
  rw [← HV.out, ← Hv.out]
  refine (rshwrong_any x V hxV).mono ?_
  rintro e w1 ⟨rfl, hb1⟩
  rw [← HE.out, ← HX.out]
  have bel1 : Below w.heap.size w w1 := below_pl hb1 bel
  have S1 := below_block hb1 S0
  have Z1 := below_block hb1 Z0
  obtain ⟨z0, z1, z2, z3, z4, z5, z6, z7, z8⟩ := sz_cells Z1
  obtain ⟨f0, f1, f2, f3, f4, f5, f6, f7, f8⟩ := so_free Z1
  clear hb1 S0 Z0 hxV bel HV
  by_cases hw : E = 0
  · subst hw
    by_cases h1 : tt < 0
    · have e : r = (Grain.szero, 3) := by rw [HR.out, Grain.sforg, show Grain.wrongAt x.s tt = 3 by rw [Grain.wrongAt, if_neg (by simp [← HE.out]), if_pos (.inl h1)]]; rfl
      go_wp2
      exact bodyPost_ret (v := .tuple #[.agg #[.slice none 0 0, .slice none 0 0, .slice none 0 0, .slice none 0 0, .int .i64 0, .int .i64 0, .int .i64 0, .int .i64 0, .int .i64 0], .int .i64 3]) (by simp [results, Try.results21, go_sem, z0, z1, z2, z3, z4, z5, z6, z7, z8]) rfl (rpost_no e (below_set9 bel1 (by omega) _ _ _ _ _ _ _ _ _))
    · by_cases h2 : 1000000 < tt
      · have e : r = (Grain.szero, 3) := by rw [HR.out, Grain.sforg, show Grain.wrongAt x.s tt = 3 by rw [Grain.wrongAt, if_neg (by simp [← HE.out]), if_pos (.inr h2)]]; rfl
        go_wp2
        exact bodyPost_ret (v := .tuple #[.agg #[.slice none 0 0, .slice none 0 0, .slice none 0 0, .slice none 0 0, .int .i64 0, .int .i64 0, .int .i64 0, .int .i64 0, .int .i64 0], .int .i64 3]) (by simp [results, Try.results21, go_sem, z0, z1, z2, z3, z4, z5, z6, z7, z8]) rfl (rpost_no e (below_set9 bel1 (by omega) _ _ _ _ _ _ _ _ _))
      · have t0 : 0 ≤ tt := by omega
        have t1 : tt ≤ 1000000 := by omega
        have hwa : Hid (Grain.wrongAt x.s tt = 0) := by show _ = _; rw [Grain.wrongAt, if_neg (by simp [← HE.out]), if_neg (by omega)]
        have sr := (Grain.sr_iff x.s).1 HE.out.symm
        have HSR := hide sr
        have hsp := sr.csp
        have hfp := sr.fsp
        clear h1 h2 sr
        by_cases k1 : tier = 1
        · subst k1
          have fpos := hfp
          obtain ⟨N, hN⟩ : ∃ N, N = Grain.nff x.s tt := ⟨_, rfl⟩
          obtain ⟨M0, hM0⟩ : ∃ M0, M0 = min tt x.s.ct := ⟨_, rfl⟩
          have m0 : 0 ≤ M0 := by omega
          have m1 : M0 ≤ 1000000 := by omega
          have eN : max (M0 / 10 * 10) x.s.ff = N := by rw [beg_quo M0 (.inl rfl), hN, hM0]; unfold Grain.nff; omega
          have e : r = ({ x.s with ff := N, fi := x.s.fi.filter fun b => decide (N ≤ b.a) }, 0) := by rw [HR.out, Grain.sforg, if_neg (by simp [hwa.out]), if_neg (by decide), if_pos rfl, hN]
          have HEQ := hide e
          have HEN := hide eN
          have HQQ : Hid (IntKind.i64.wrap (IntKind.i64.wrap (M0.tdiv 10) * 10) = M0 / 10 * 10) := by
            show _ = _
            rw [show M0.tdiv 10 = M0 / 10 from Int.tdiv_eq_ediv_of_nonneg m0, IntKind.wrap_i64, IntKind.wrap_i64]; omega
          have HM0 := hide hM0
          have lfi : x.s.fi.length ≤ 500 := HSR.out.flen
          obtain ⟨b0, b1, b2, b3, b4, b5, b6, b7, b8⟩ := nine_cells S1
          obtain ⟨g0, g1, g2, g3, g4, g5, g6, g7, g8⟩ := so_free S1
          clear hN hM0 eN e HR
          go_upto_region 19 with fail
          go_cut [] from 58 to 68 (fun wx => wx.heap = (w1.setCell ⟨X, 5, none⟩ (.int .i64 N)).heap ∧ Below w.heap.size w wx)
          case first =>
            have BB : Hid (∀ (W : World) (u : Value), Below w.heap.size w W → Below w.heap.size w (W.setCell ⟨X, 5, none⟩ u)) := fun W u h => h.setCell (by show w.heap.size ≤ X; omega) u
            go_region_with
              (first
                | (go_at_call 66; refine (least_any tt x.s.ct _).mono ?_; intro e w9 hh; rw [hh.1, hh.2, ← HM0.out]; clear hh)
                | (go_at_call 65; rw [HQQ.out]; refine (most_any x.s.ff (M0 / 10 * 10) _).mono ?_; intro e w9 hh; rw [hh.1, hh.2, HEN.out]; clear hh))
            all_goals
              go_wp2_with fail
              go_meet
              exact ⟨rfl, by first | exact below_drewN (BB.out _ _ bel1) 1 | exact BB.out _ _ (below_drewN bel1 1)⟩
          case rest =>
          obtain ⟨hh2, bel2⟩ := hcut
          obtain ⟨w2, hw2⟩ : ∃ w2, w2 = wc := ⟨_, rfl⟩
          rw [← hw2] at hh2 bel2 ⊢
          have S2 : w2.heap[X]? = some (sob (.slice x.a0 x.s.se.length x.c0) (.slice x.a1 x.s.ra.length x.c1) (.slice x.a2 x.s.fi.length x.c2) (.slice x.a3 x.s.co.length x.c3) (.int .i64 x.s.rf) (.int .i64 N) (.int .i64 x.s.ft) (.int .i64 x.s.cf) (.int .i64 x.s.ct)) := by rw [hh2]; exact set_block S1 _
          have Z2 : w2.heap[X + 1]? = some (so szT) := by rw [hh2, setCell_far (by simp)]; exact Z1
          clear hw2 hh2 b0 b1 b2 b3 b4 b5 b6 b7 b8 g0 g1 g2 g3 g4 g5 g6 g7 g8 z0 z1 z2 z3 z4 z5 z6 z7 z8 f0 f1 f2 f3 f4 f5 f6 f7 f8 S1 Z1
          obtain ⟨b0, b1, b2, b3, b4, b5, b6, b7, b8⟩ := sob_cells S2
          go_wp2_with fail
          refine (later_any x.s.fi N x.a2 _ x.c2 w2 (HXW.out.g2.below bel2) rfl (by omega)).mono ?_
          rintro e w3 ⟨co, M, d, rfl, own3, hb3⟩
          have S3 := below_block hb3 S2
          have Z3 := below_block hb3 Z2
          have bel3 : Below w.heap.size w w3 := below_pl hb3 bel2
          have lX : X + 1 < w2.heap.size := lt_of_block Z2
          have hM : M = (x.s.fi.filter fun b => decide (N ≤ b.a)).length := own_klen own3
          have HMM := hide hM
          obtain ⟨u0, u1, u2, u3, u4, u5, u6, u7, u8⟩ := sob_free S3
          obtain ⟨W4, hW4⟩ : ∃ W4, W4 = w3.setCell ⟨X, 2, none⟩ (.slice co M d) := ⟨_, rfl⟩
          have S4 : W4.heap[X]? = some (sob (.slice x.a0 x.s.se.length x.c0) (.slice x.a1 x.s.ra.length x.c1) (.slice co M d) (.slice x.a3 x.s.co.length x.c3) (.int .i64 x.s.rf) (.int .i64 N) (.int .i64 x.s.ft) (.int .i64 x.s.cf) (.int .i64 x.s.ct)) := by rw [hW4]; exact set_block S3 _
          have Z4 : W4.heap[X + 1]? = some (so szT) := by rw [hW4, setCell_far (by simp)]; exact Z3
          have bel4 : Below w.heap.size w W4 := by rw [hW4]; exact bel3.setCell (by show w.heap.size ≤ X; omega) _
          have own4 : W4.ownsRow w2.heap.size 90 8 (.slice co M d) M (kcells (x.s.fi.filter fun b => decide (N ≤ b.a))) := by rw [hW4]; exact ownsRow_setCell_below own3 (by show X < _; omega) _
          have HW4 := hide hW4
          clear hW4 b0 b1 b2 b3 b4 b5 b6 b7 b8 hb3 S2 Z2 hM own3
          obtain ⟨b0, b1, b2, b3, b4, b5, b6, b7, b8⟩ := sob_cells S3
          go_upto_region 24 with fail
          rw [← HW4.out]
          clear b0 b1 b2 b3 b4 b5 b6 b7 b8 u0 u1 u2 u3 u4 u5 u6 u7 u8 HW4 S3 Z3 bel3
          obtain ⟨b0, b1, b2, b3, b4, b5, b6, b7, b8⟩ := sob_cells S4
          obtain ⟨z0, z1, z2, z3, z4, z5, z6, z7, z8⟩ := sz_cells Z4
          obtain ⟨f0, f1, f2, f3, f4, f5, f6, f7, f8⟩ := so_free Z4
          have F : Hid (RPost w x r (.returned (.tuple #[.agg #[.slice x.a0 x.s.se.length x.c0, .slice x.a1 x.s.ra.length x.c1, .slice co M d, .slice x.a3 x.s.co.length x.c3, .int .i64 x.s.rf, .int .i64 N, .int .i64 x.s.ft, .int .i64 x.s.cf, .int .i64 x.s.ct], .int .i64 0])) (Set9 W4 (X + 1) (.slice x.a0 x.s.se.length x.c0) (.slice x.a1 x.s.ra.length x.c1) (.slice co M d) (.slice x.a3 x.s.co.length x.c3) (.int .i64 x.s.rf) (.int .i64 N) (.int .i64 x.s.ft) (.int .i64 x.s.cf) (.int .i64 x.s.ct))) := by
            have BF : Below w.heap.size w (Set9 W4 (X + 1) (.slice x.a0 x.s.se.length x.c0) (.slice x.a1 x.s.ra.length x.c1) (.slice co M d) (.slice x.a3 x.s.co.length x.c3) (.int .i64 x.s.rf) (.int .i64 N) (.int .i64 x.s.ft) (.int .i64 x.s.cf) (.int .i64 x.s.ct)) := below_set9 bel4 (by omega) _ _ _ _ _ _ _ _ _
            have OF := own_set9 own4 lX (.slice x.a0 x.s.se.length x.c0) (.slice x.a1 x.s.ra.length x.c1) (.slice co M d) (.slice x.a3 x.s.co.length x.c3) (.int .i64 x.s.rf) (.int .i64 N) (.int .i64 x.s.ft) (.int .i64 x.s.cf) (.int .i64 x.s.ct)
            have hl := HMM.out
            have hle : (x.s.fi.filter fun b => decide (N ≤ b.a)).length ≤ x.s.fi.length := List.length_filter_le _ _
            have hn2 : (x.s.fi.filter fun b => decide (N ≤ b.a)).length * 64 ≤ 140737488355328 := by omega
            rw [hl] at OF BF ⊢
            have hz2' := own_nil OF
            rw [HEQ.out]
            exact ⟨⟨{ x.s with ff := N, fi := x.s.fi.filter fun b => decide (N ≤ b.a) }, x.a0, x.c0, x.a1, x.c1, co, d, x.a3, x.c3⟩, rfl, rfl, ⟨(HXW.out.g0.below BF), (HXW.out.g1.below BF), (own_seg' OF), (HXW.out.g3.below BF), HXW.out.fits, HXW.out.n0, HXW.out.n1, hn2, HXW.out.n3, HXW.out.z0, HXW.out.z1, hz2', HXW.out.z3⟩, ⟨.inl ⟨rfl, rfl⟩, .inl ⟨rfl, rfl⟩, .inr (own_fr OF (by have := bel4.size; omega)), .inl ⟨rfl, rfl⟩⟩, BF⟩
          go_wp2
          exact bodyPost_ret (v := .tuple #[.agg #[.slice x.a0 x.s.se.length x.c0, .slice x.a1 x.s.ra.length x.c1, .slice co M d, .slice x.a3 x.s.co.length x.c3, .int .i64 x.s.rf, .int .i64 N, .int .i64 x.s.ft, .int .i64 x.s.cf, .int .i64 x.s.ct], .int .i64 0]) (by simp [results, Try.results21, go_sem, z0, z1, z2, z3, z4, z5, z6, z7, z8]) rfl F.out
        · by_cases k2 : tier = 2
          · subst k2
            have fpos := hfp
            obtain ⟨N, hN⟩ : ∃ N, N = Grain.ncf x.s tt := ⟨_, rfl⟩
            obtain ⟨M0, hM0⟩ : ∃ M0, M0 = min tt x.s.ct := ⟨_, rfl⟩
            have m0 : 0 ≤ M0 := by omega
            have m1 : M0 ≤ 1000000 := by omega
            have eN : max (M0 / 60 * 60) x.s.cf = N := by rw [beg_quo M0 (.inr rfl), hN, hM0]; unfold Grain.ncf; omega
            have e : r = ({ x.s with cf := N, co := x.s.co.filter fun b => decide (N ≤ b.a) }, 0) := by rw [HR.out, Grain.sforg, if_neg (by simp [hwa.out]), if_neg (by decide), if_neg (by decide), if_pos rfl, hN]
            have HEQ := hide e
            have HEN := hide eN
            have HQQ : Hid (IntKind.i64.wrap (IntKind.i64.wrap (M0.tdiv 60) * 60) = M0 / 60 * 60) := by
              show _ = _
              rw [show M0.tdiv 60 = M0 / 60 from Int.tdiv_eq_ediv_of_nonneg m0, IntKind.wrap_i64, IntKind.wrap_i64]; omega
            have HM0 := hide hM0
            have lfi : x.s.co.length ≤ 500 := HSR.out.clen
            obtain ⟨b0, b1, b2, b3, b4, b5, b6, b7, b8⟩ := nine_cells S1
            obtain ⟨g0, g1, g2, g3, g4, g5, g6, g7, g8⟩ := so_free S1
            clear hN hM0 eN e HR
            go_upto_region 22 with fail
            go_cut [] from 76 to 86 (fun wx => wx.heap = (w1.setCell ⟨X, 7, none⟩ (.int .i64 N)).heap ∧ Below w.heap.size w wx)
            case first =>
              have BB : Hid (∀ (W : World) (u : Value), Below w.heap.size w W → Below w.heap.size w (W.setCell ⟨X, 7, none⟩ u)) := fun W u h => h.setCell (by show w.heap.size ≤ X; omega) u
              go_region_with
                (first
                  | (go_at_call 66; refine (least_any tt x.s.ct _).mono ?_; intro e w9 hh; rw [hh.1, hh.2, ← HM0.out]; clear hh)
                  | (go_at_call 65; rw [HQQ.out]; refine (most_any x.s.cf (M0 / 60 * 60) _).mono ?_; intro e w9 hh; rw [hh.1, hh.2, HEN.out]; clear hh))
              all_goals
                go_wp2_with fail
                go_meet
                exact ⟨rfl, by first | exact below_drewN (BB.out _ _ bel1) 1 | exact BB.out _ _ (below_drewN bel1 1)⟩
            case rest =>
            obtain ⟨hh2, bel2⟩ := hcut
            obtain ⟨w2, hw2⟩ : ∃ w2, w2 = wc := ⟨_, rfl⟩
            rw [← hw2] at hh2 bel2 ⊢
            have S2 : w2.heap[X]? = some (sob (.slice x.a0 x.s.se.length x.c0) (.slice x.a1 x.s.ra.length x.c1) (.slice x.a2 x.s.fi.length x.c2) (.slice x.a3 x.s.co.length x.c3) (.int .i64 x.s.rf) (.int .i64 x.s.ff) (.int .i64 x.s.ft) (.int .i64 N) (.int .i64 x.s.ct)) := by rw [hh2]; exact set_block S1 _
            have Z2 : w2.heap[X + 1]? = some (so szT) := by rw [hh2, setCell_far (by simp)]; exact Z1
            clear hw2 hh2 b0 b1 b2 b3 b4 b5 b6 b7 b8 g0 g1 g2 g3 g4 g5 g6 g7 g8 z0 z1 z2 z3 z4 z5 z6 z7 z8 f0 f1 f2 f3 f4 f5 f6 f7 f8 S1 Z1
            obtain ⟨b0, b1, b2, b3, b4, b5, b6, b7, b8⟩ := sob_cells S2
            go_wp2_with fail
            refine (later_any x.s.co N x.a3 _ x.c3 w2 (HXW.out.g3.below bel2) rfl (by omega)).mono ?_
            rintro e w3 ⟨co, M, d, rfl, own3, hb3⟩
            have S3 := below_block hb3 S2
            have Z3 := below_block hb3 Z2
            have bel3 : Below w.heap.size w w3 := below_pl hb3 bel2
            have lX : X + 1 < w2.heap.size := lt_of_block Z2
            have hM : M = (x.s.co.filter fun b => decide (N ≤ b.a)).length := own_klen own3
            have HMM := hide hM
            obtain ⟨u0, u1, u2, u3, u4, u5, u6, u7, u8⟩ := sob_free S3
            obtain ⟨W4, hW4⟩ : ∃ W4, W4 = w3.setCell ⟨X, 3, none⟩ (.slice co M d) := ⟨_, rfl⟩
            have S4 : W4.heap[X]? = some (sob (.slice x.a0 x.s.se.length x.c0) (.slice x.a1 x.s.ra.length x.c1) (.slice x.a2 x.s.fi.length x.c2) (.slice co M d) (.int .i64 x.s.rf) (.int .i64 x.s.ff) (.int .i64 x.s.ft) (.int .i64 N) (.int .i64 x.s.ct)) := by rw [hW4]; exact set_block S3 _
            have Z4 : W4.heap[X + 1]? = some (so szT) := by rw [hW4, setCell_far (by simp)]; exact Z3
            have bel4 : Below w.heap.size w W4 := by rw [hW4]; exact bel3.setCell (by show w.heap.size ≤ X; omega) _
            have own4 : W4.ownsRow w2.heap.size 90 8 (.slice co M d) M (kcells (x.s.co.filter fun b => decide (N ≤ b.a))) := by rw [hW4]; exact ownsRow_setCell_below own3 (by show X < _; omega) _
            have HW4 := hide hW4
            clear hW4 b0 b1 b2 b3 b4 b5 b6 b7 b8 hb3 S2 Z2 hM own3
            obtain ⟨b0, b1, b2, b3, b4, b5, b6, b7, b8⟩ := sob_cells S3
            go_upto_region 24 with fail
            rw [← HW4.out]
            clear b0 b1 b2 b3 b4 b5 b6 b7 b8 u0 u1 u2 u3 u4 u5 u6 u7 u8 HW4 S3 Z3 bel3
            obtain ⟨b0, b1, b2, b3, b4, b5, b6, b7, b8⟩ := sob_cells S4
            obtain ⟨z0, z1, z2, z3, z4, z5, z6, z7, z8⟩ := sz_cells Z4
            obtain ⟨f0, f1, f2, f3, f4, f5, f6, f7, f8⟩ := so_free Z4
            have F : Hid (RPost w x r (.returned (.tuple #[.agg #[.slice x.a0 x.s.se.length x.c0, .slice x.a1 x.s.ra.length x.c1, .slice x.a2 x.s.fi.length x.c2, .slice co M d, .int .i64 x.s.rf, .int .i64 x.s.ff, .int .i64 x.s.ft, .int .i64 N, .int .i64 x.s.ct], .int .i64 0])) (Set9 W4 (X + 1) (.slice x.a0 x.s.se.length x.c0) (.slice x.a1 x.s.ra.length x.c1) (.slice x.a2 x.s.fi.length x.c2) (.slice co M d) (.int .i64 x.s.rf) (.int .i64 x.s.ff) (.int .i64 x.s.ft) (.int .i64 N) (.int .i64 x.s.ct))) := by
              have BF : Below w.heap.size w (Set9 W4 (X + 1) (.slice x.a0 x.s.se.length x.c0) (.slice x.a1 x.s.ra.length x.c1) (.slice x.a2 x.s.fi.length x.c2) (.slice co M d) (.int .i64 x.s.rf) (.int .i64 x.s.ff) (.int .i64 x.s.ft) (.int .i64 N) (.int .i64 x.s.ct)) := below_set9 bel4 (by omega) _ _ _ _ _ _ _ _ _
              have OF := own_set9 own4 lX (.slice x.a0 x.s.se.length x.c0) (.slice x.a1 x.s.ra.length x.c1) (.slice x.a2 x.s.fi.length x.c2) (.slice co M d) (.int .i64 x.s.rf) (.int .i64 x.s.ff) (.int .i64 x.s.ft) (.int .i64 N) (.int .i64 x.s.ct)
              have hl := HMM.out
              have hle : (x.s.co.filter fun b => decide (N ≤ b.a)).length ≤ x.s.co.length := List.length_filter_le _ _
              have hn2 : (x.s.co.filter fun b => decide (N ≤ b.a)).length * 64 ≤ 140737488355328 := by omega
              rw [hl] at OF BF ⊢
              have hz2' := own_nil OF
              rw [HEQ.out]
              exact ⟨⟨{ x.s with cf := N, co := x.s.co.filter fun b => decide (N ≤ b.a) }, x.a0, x.c0, x.a1, x.c1, x.a2, x.c2, co, d⟩, rfl, rfl, ⟨(HXW.out.g0.below BF), (HXW.out.g1.below BF), (HXW.out.g2.below BF), (own_seg' OF), HXW.out.fits, HXW.out.n0, HXW.out.n1, HXW.out.n2, hn2, HXW.out.z0, HXW.out.z1, HXW.out.z2, hz2'⟩, ⟨.inl ⟨rfl, rfl⟩, .inl ⟨rfl, rfl⟩, .inl ⟨rfl, rfl⟩, .inr (own_fr OF (by have := bel4.size; omega))⟩, BF⟩
            go_wp2
            exact bodyPost_ret (v := .tuple #[.agg #[.slice x.a0 x.s.se.length x.c0, .slice x.a1 x.s.ra.length x.c1, .slice x.a2 x.s.fi.length x.c2, .slice co M d, .int .i64 x.s.rf, .int .i64 x.s.ff, .int .i64 x.s.ft, .int .i64 N, .int .i64 x.s.ct], .int .i64 0]) (by simp [results, Try.results21, go_sem, z0, z1, z2, z3, z4, z5, z6, z7, z8]) rfl F.out
          · by_cases k0 : tier = 0
            · subst k0
              obtain ⟨N, hN⟩ : ∃ N, N = Grain.nrf x.s tt := ⟨_, rfl⟩
              obtain ⟨M0, hM0⟩ : ∃ M0, M0 = min tt x.s.ft := ⟨_, rfl⟩
              have eN : max M0 x.s.rf = N := by rw [hN, hM0]; unfold Grain.nrf; omega
              have e : r = ({ x.s with rf := N, ra := x.s.ra.filter fun y => decide (N ≤ y.1) }, 0) := by rw [HR.out, Grain.sforg, if_neg (by simp [hwa.out]), if_pos rfl, hN]
              have HEQ := hide e
              have HEN := hide eN
              have HM0 := hide hM0
              have lra : x.s.ra.length ≤ 500 := HSR.out.rlen
              obtain ⟨R, hRl⟩ : ∃ R, R = x.s.ra.length := ⟨_, rfl⟩
              have HRl := hide hRl
              have rl5 : R ≤ 500 := by rw [hRl]; exact lra
              obtain ⟨b0, b1, b2, b3, b4, b5, b6, b7, b8⟩ := nine_cells S1
              obtain ⟨g0, g1, g2, g3, g4, g5, g6, g7, g8⟩ := so_free S1
              clear hN hM0 eN e HR hRl
              go_upto_region 9 with fail
              go_cut [] from 29 to 37 (fun wx => wx.heap = (w1.setCell ⟨X, 4, none⟩ (.int .i64 N)).heap ∧ Below w.heap.size w wx)
              case first =>
                have BB : Hid (∀ (W : World) (u : Value), Below w.heap.size w W → Below w.heap.size w (W.setCell ⟨X, 4, none⟩ u)) := fun W u h => h.setCell (by show w.heap.size ≤ X; omega) u
                go_region_with
                  (first
                    | (go_at_call 66; refine (least_any tt x.s.ft _).mono ?_; intro e w9 hh; rw [hh.1, hh.2, ← HM0.out]; clear hh)
                    | (go_at_call 65; refine (most_any x.s.rf M0 _).mono ?_; intro e w9 hh; rw [hh.1, hh.2, HEN.out]; clear hh))
                all_goals
                  go_wp2_with fail
                  go_meet
                  exact ⟨rfl, by first | exact below_drewN (BB.out _ _ bel1) 1 | exact BB.out _ _ (below_drewN bel1 1)⟩
              case rest =>
              obtain ⟨hh2, bel2⟩ := hcut
              obtain ⟨w2, hw2⟩ : ∃ w2, w2 = wc := ⟨_, rfl⟩
              rw [← hw2] at hh2 bel2 ⊢
              have S2 : w2.heap[X]? = some (sob (.slice x.a0 x.s.se.length x.c0) (.slice x.a1 x.s.ra.length x.c1) (.slice x.a2 x.s.fi.length x.c2) (.slice x.a3 x.s.co.length x.c3) (.int .i64 N) (.int .i64 x.s.ff) (.int .i64 x.s.ft) (.int .i64 x.s.cf) (.int .i64 x.s.ct)) := by rw [hh2]; exact set_block S1 _
              have Z2 : w2.heap[X + 1]? = some (so szT) := by rw [hh2, setCell_far (by simp)]; exact Z1
              clear hw2 hh2 b0 b1 b2 b3 b4 b5 b6 b7 b8 g0 g1 g2 g3 g4 g5 g6 g7 g8 z0 z1 z2 z3 z4 z5 z6 z7 z8 f0 f1 f2 f3 f4 f5 f6 f7 f8 S1 Z1
              obtain ⟨a1, ha1⟩ : ∃ a1, a1 = x.a1 := ⟨_, rfl⟩
              have HA1 := hide ha1
              have S2' : w2.heap[X]? = some (sob (.slice x.a0 x.s.se.length x.c0) (.slice a1 R x.c1) (.slice x.a2 x.s.fi.length x.c2) (.slice x.a3 x.s.co.length x.c3) (.int .i64 N) (.int .i64 x.s.ff) (.int .i64 x.s.ft) (.int .i64 x.s.cf) (.int .i64 x.s.ct)) := by rw [ha1, HRl.out]; exact S2
              have segr : Seg w2 a1 (scells x.s.ra) := by rw [ha1]; exact HXW.out.g1.below bel2
              obtain ⟨b0, b1, b2, b3, b4, b5, b6, b7, b8⟩ := sob_cells S2'
              clear ha1 S2
              go_wp2
              go_loopw [9, 40] (fun out i wr => ∃ (k M d : Nat) (co : Option Addr), k ≤ R ∧ i = .int .i64 k ∧ out = .slice co M d ∧ M ≤ k ∧ wr.ownsRow w2.heap.size 35 2 (.slice co M d) M (scells ((x.s.ra.take k).filter fun y => decide (N ≤ y.1))) ∧ Below w2.heap.size w2 wr) (fun _ i _ => R - (intOf i).toNat)
              case atStart => exact ⟨0, 0, 0, none, Nat.zero_le _, rfl, rfl, Nat.le_refl _, World.ownsRow_nil _ _ _ _, Below.refl _ _⟩
              case round =>
                obtain ⟨k, M, d, co, hk, rfl, rfl, hMk, own, belr⟩ := hrel
                have hsz := belr.size
                have S3 := below_block belr S2'
                by_cases hlt : k < R
                · have hkl : k < x.s.ra.length := by rw [← HRl.out]; exact hlt
                  obtain ⟨b, off, rfl, hcell⟩ := segr.sample hkl
                  have hbl : b < w2.heap.size := World.block_lt_of_cell? w2 ⟨b, off + k * 2, none⟩ (hcell k hkl).1
                  obtain ⟨t, ht⟩ : ∃ t, t = Grain.tm x.s.ra k := ⟨_, rfl⟩
                  obtain ⟨v, hv⟩ : ∃ v, v = Grain.vl x.s.ra k := ⟨_, rfl⟩
                  have c0 : wr.cell? ⟨b, off + k * 2, none⟩ = some (.int .i64 t) := by rw [ht]; exact (belr.cell (by exact hbl)).trans (hcell k hkl).1
                  have c1 : wr.cell? ⟨b, off + k * 2 + 1, none⟩ = some (.int .i64 v) := by rw [hv]; exact (belr.cell (by exact hbl)).trans (hcell k hkl).2
                  have HU : Hid (((x.s.ra.take (k + 1)).filter fun y => decide (N ≤ y.1)) = if N ≤ t then ((x.s.ra.take k).filter fun y => decide (N ≤ y.1)) ++ [(t, v)] else (x.s.ra.take k).filter fun y => decide (N ≤ y.1)) := by
                    show _ = _
                    rw [Grain.take_tm hkl, List.filter_append, ← ht, ← hv]
                    by_cases c : N ≤ t
                    · rw [if_pos c, List.filter_cons_of_pos (by simpa using c)]; rfl
                    · rw [if_neg c, List.filter_cons_of_neg (by simpa using c)]; simp
                  obtain ⟨q0, q1, q2, q3, q4, q5, q6, q7, q8⟩ := sob_cells S3
                  have Xl : X < wr.heap.size := lt_of_block S3
                  have own2 := own.alloc (.cells #[.int .i64 t, .int .i64 v] 35)
                  have belA : Below w2.heap.size w2 (wr.alloc (.cells #[.int .i64 t, .int .i64 v] 35)) := belr.alloc hsz _
                  clear ht hv hcell hkl
                  by_cases hin : N ≤ t
                  · have HE2 : Hid (((x.s.ra.take (k + 1)).filter fun y => decide (N ≤ y.1)) = ((x.s.ra.take k).filter fun y => decide (N ≤ y.1)) ++ [(t, v)]) := by show _ = _; rw [HU.out, if_pos hin]
                    clear HU
                    go_wp2_with (at_builtin; refine wpList_append_lies _ rfl _ _ 31 rfl w2.heap.size 35 i0 (.agg #[.int .i64 0, .int .i64 0]) 2 16 Try.underlying31 hi hz0 hz1 hz2 rfl (by decide) _ _ _ rfl (own2.alloc _) ⟨wr.heap.size + 1, 0, none⟩ 1 1 [.int .i64 t, .int .i64 v] rfl rfl (news_two (by simp) _ _ _) (by simp [Value.oneCell']) (by decide) (by unfold maxLen; omega) (by omega) (by simp; omega) (wr.heap.size + 2) (by simp) ?_)
                    intro g' cp' w5 own5 gr5 hat5 hlt5
                    have own6 : w5.ownsRow w2.heap.size 35 2 (.slice (some ⟨g', 0, none⟩) (M + 1) cp') (M + 1) (scells ((x.s.ra.take (k + 1)).filter fun y => decide (N ≤ y.1))) := by
                      rw [HE2.out, scells_append]; exact own5
                    have bel5 : Below w2.heap.size w2 w5 := (belA.alloc belA.size _).grown gr5 (by simp; omega) (fun j hj => (own2.lt j hj).1)
                    clear own5 gr5 hat5 hlt5 own2 HE2 belA own
                    go_wp2
                    go_roundw
                    case rel => exact ⟨k + 1, M + 1, cp', _, by omega, by go_num, rfl, by omega, own6, bel5⟩
                    case measure => simp [intOf]; omega
                  · have HE2 : Hid (((x.s.ra.take (k + 1)).filter fun y => decide (N ≤ y.1)) = (x.s.ra.take k).filter fun y => decide (N ≤ y.1)) := by show _ = _; rw [HU.out, if_neg hin]
                    rw [← HE2.out] at own2
                    clear HU HE2
                    go_wp2
                    go_roundw
                    case rel => exact ⟨k + 1, M, d, co, by omega, by go_num, rfl, by omega, own2, belA⟩
                    case measure => simp [intOf]; omega
                · have ek : x.s.ra.take k = x.s.ra := List.take_of_length_le (by have := HRl.out; omega)
                  rw [ek] at own
                  clear ek
                  have Z3 := below_block belr Z2
                  have bel3 : Below w.heap.size w wr := below_pl belr bel2
                  have lX : X + 1 < w2.heap.size := lt_of_block Z2
                  have hM : M = (x.s.ra.filter fun y => decide (N ≤ y.1)).length := by have := own.1; rw [scells_length] at this; omega
                  have HMM := hide hM
                  obtain ⟨u0, u1, u2, u3, u4, u5, u6, u7, u8⟩ := sob_free S3
                  obtain ⟨W4, hW4⟩ : ∃ W4, W4 = wr.setCell ⟨X, 1, none⟩ (.slice co M d) := ⟨_, rfl⟩
                  have S4 : W4.heap[X]? = some (sob (.slice x.a0 x.s.se.length x.c0) (.slice co M d) (.slice x.a2 x.s.fi.length x.c2) (.slice x.a3 x.s.co.length x.c3) (.int .i64 N) (.int .i64 x.s.ff) (.int .i64 x.s.ft) (.int .i64 x.s.cf) (.int .i64 x.s.ct)) := by rw [hW4]; exact set_block S3 _
                  have Z4 : W4.heap[X + 1]? = some (so szT) := by rw [hW4, setCell_far (by simp)]; exact Z3
                  have bel4 : Below w.heap.size w W4 := by rw [hW4]; exact bel3.setCell (by show w.heap.size ≤ X; omega) _
                  have own4 : W4.ownsRow w2.heap.size 35 2 (.slice co M d) M (scells (x.s.ra.filter fun y => decide (N ≤ y.1))) := by rw [hW4]; exact ownsRow_setCell_below own (by show X < _; omega) _
                  have HW4 := hide hW4
                  clear hW4 hM own b0 b1 b2 b3 b4 b5 b6 b7 b8
                  obtain ⟨b0, b1, b2, b3, b4, b5, b6, b7, b8⟩ := sob_cells S3
                  go_upto_region 24 with fail
                  rw [← HW4.out]
                  clear b0 b1 b2 b3 b4 b5 b6 b7 b8 u0 u1 u2 u3 u4 u5 u6 u7 u8 HW4 S3 Z3 bel3 belr
                  obtain ⟨b0, b1, b2, b3, b4, b5, b6, b7, b8⟩ := sob_cells S4
                  obtain ⟨z0, z1, z2, z3, z4, z5, z6, z7, z8⟩ := sz_cells Z4
                  obtain ⟨f0, f1, f2, f3, f4, f5, f6, f7, f8⟩ := so_free Z4
                  have F : Hid (RPost w x r (.returned (.tuple #[.agg #[.slice x.a0 x.s.se.length x.c0, .slice co M d, .slice x.a2 x.s.fi.length x.c2, .slice x.a3 x.s.co.length x.c3, .int .i64 N, .int .i64 x.s.ff, .int .i64 x.s.ft, .int .i64 x.s.cf, .int .i64 x.s.ct], .int .i64 0])) (Set9 W4 (X + 1) (.slice x.a0 x.s.se.length x.c0) (.slice co M d) (.slice x.a2 x.s.fi.length x.c2) (.slice x.a3 x.s.co.length x.c3) (.int .i64 N) (.int .i64 x.s.ff) (.int .i64 x.s.ft) (.int .i64 x.s.cf) (.int .i64 x.s.ct))) := by
                    have BF : Below w.heap.size w (Set9 W4 (X + 1) (.slice x.a0 x.s.se.length x.c0) (.slice co M d) (.slice x.a2 x.s.fi.length x.c2) (.slice x.a3 x.s.co.length x.c3) (.int .i64 N) (.int .i64 x.s.ff) (.int .i64 x.s.ft) (.int .i64 x.s.cf) (.int .i64 x.s.ct)) := below_set9 bel4 (by omega) _ _ _ _ _ _ _ _ _
                    have OF := own_set9 own4 lX (.slice x.a0 x.s.se.length x.c0) (.slice co M d) (.slice x.a2 x.s.fi.length x.c2) (.slice x.a3 x.s.co.length x.c3) (.int .i64 N) (.int .i64 x.s.ff) (.int .i64 x.s.ft) (.int .i64 x.s.cf) (.int .i64 x.s.ct)
                    have hl := HMM.out
                    have hle : (x.s.ra.filter fun y => decide (N ≤ y.1)).length ≤ x.s.ra.length := List.length_filter_le _ _
                    have hn2 : (x.s.ra.filter fun y => decide (N ≤ y.1)).length * 16 ≤ 140737488355328 := by omega
                    rw [hl] at OF BF ⊢
                    have hz2' := own_nil OF
                    rw [HEQ.out]
                    exact ⟨⟨{ x.s with rf := N, ra := x.s.ra.filter fun y => decide (N ≤ y.1) }, x.a0, x.c0, co, d, x.a2, x.c2, x.a3, x.c3⟩, rfl, rfl, ⟨HXW.out.g0.below BF, own_seg' OF, HXW.out.g2.below BF, HXW.out.g3.below BF, HXW.out.fits, HXW.out.n0, hn2, HXW.out.n2, HXW.out.n3, HXW.out.z0, hz2', HXW.out.z2, HXW.out.z3⟩, ⟨.inl ⟨rfl, rfl⟩, .inr (own_fr OF (by have := bel4.size; omega)), .inl ⟨rfl, rfl⟩, .inl ⟨rfl, rfl⟩⟩, BF⟩
                  go_wp2
                  exact bodyPost_ret (v := .tuple #[.agg #[.slice x.a0 x.s.se.length x.c0, .slice co M d, .slice x.a2 x.s.fi.length x.c2, .slice x.a3 x.s.co.length x.c3, .int .i64 N, .int .i64 x.s.ff, .int .i64 x.s.ft, .int .i64 x.s.cf, .int .i64 x.s.ct], .int .i64 0]) (by simp [results, Try.results21, go_sem, z0, z1, z2, z3, z4, z5, z6, z7, z8]) rfl F.out
            · have e : r = (Grain.szero, 1) := by rw [HR.out, Grain.sforg, if_neg (by simp [hwa.out]), if_neg k0, if_neg k1, if_neg k2]
              have e0 : (tier == 0) = false := by simpa using k0
              have e1 : (tier == 1) = false := by simpa using k1
              have e2 : (tier == 2) = false := by simpa using k2
              go_wp2
              exact bodyPost_ret (v := .tuple #[.agg #[.slice none 0 0, .slice none 0 0, .slice none 0 0, .slice none 0 0, .int .i64 0, .int .i64 0, .int .i64 0, .int .i64 0, .int .i64 0], .int .i64 1]) (by simp [results, Try.results21, go_sem, z0, z1, z2, z3, z4, z5, z6, z7, z8]) rfl (rpost_no e (below_set9 bel1 (by omega) _ _ _ _ _ _ _ _ _))
  · have e : r = (Grain.szero, E) := by rw [HR.out, Grain.sforg, show Grain.wrongAt x.s tt = E by rw [Grain.wrongAt, ← HE.out, if_pos hw], if_pos hw]
    have hne : (E != 0) = true := by simpa using hw
    go_wp2
    exact bodyPost_ret (v := .tuple #[.agg #[.slice none 0 0, .slice none 0 0, .slice none 0 0, .slice none 0 0, .int .i64 0, .int .i64 0, .int .i64 0, .int .i64 0, .int .i64 0], .int .i64 E]) (by simp [results, Try.results21, go_sem, z0, z1, z2, z3, z4, z5, z6, z7, z8]) rfl (rpost_no e (below_set9 bel1 (by omega) _ _ _ _ _ _ _ _ _))

end Go.Proofs.Ytfgablhgjbjbkae

/-
  Rolled window by window, as the document says it, comes to the same. No program is named here.
-/
namespace Grain

/-- samples of one bucket -/
theorem up_one {st a : Int} : ∀ l : List (Int × Int), (∀ x ∈ l, beg x.1 st = a) → l.length ≤ 1000000 → up l st = if l = [] then [] else [⟨a, of l⟩] := by
  refine snoc_ind ?_ ?_
  · intro _ _; rfl
  · intro l x ih h hl
    simp at hl
    rw [up_snoc, ih (fun y hy => h y (by simp [hy])) (by omega), h x (by simp), if_neg (show ¬ (l ++ [x] = []) by simp), of_snoc _ _ (by omega)]
    by_cases e : l = []
    · subst e; rfl
    · rw [if_neg e]
      have := put_same [] a (of l) (one x.2)
      simpa using this

theorem took_ra {s : Shf} (sr : SR s) : Took s.ra := ⟨sr.rin, sr.rpw⟩

theorem win_beg {A : List (Int × Int)} {a st : Int} (hst : st = 10 ∨ st = 60) (ha : a % st = 0) : ∀ x ∈ win A a (a + st), beg x.1 st = a := by
  intro x hx
  have := win_in hx
  unfold beg
  rcases hst with e | e <;> subst e <;> omega

/-- the fine buckets, one window more -/
theorem up_more {s : Shf} (sr : SR s) {f a : Int} (hf : f ≤ a) (ha : a % 10 = 0) :
    up (win s.ra f (a + 10)) 10 = up (win s.ra f a) 10 ++ if win s.ra a (a + 10) = [] then [] else [⟨a, of (win s.ra a (a + 10))⟩] := by
  rw [up_split (.inl rfl) ha hf (by omega) (took_ra sr), up_one (st := 10) (a := a) _ (win_beg (.inl rfl) ha) (by have := win_len s.ra a (a + 10); have := sr.rlen; omega)]

/-- coarse buckets on both sides of a border -/
theorem great_append {m : Int} (hm : m % 60 = 0) {a : List Bk} (ha : ∀ x ∈ a, x.a < m) : ∀ b : List Bk, (∀ x ∈ b, m ≤ x.a) → great (a ++ b) = great a ++ great b := by
  refine snoc_ind ?_ ?_
  · intro _; simp [great]
  · intro b y ih hb
    have hy : m ≤ y.a := hb y (by simp)
    rw [← List.append_assoc, great_snoc, great_snoc, ih (fun x hx => hb x (by simp [hx]))]
    refine put_append (fun _ R c e => ?_) _
    obtain ⟨x, hx, ex⟩ := great_mem a c (by rw [e]; simp)
    have := ha x hx
    rw [ex]
    unfold beg
    omega

/-- buckets of one coarse one -/
theorem great_one {a : Int} : ∀ B : List Bk, (∀ b ∈ B, beg b.a 60 = a ∧ a ≤ b.a ∧ b.a < a + 60) → great B = if B = [] then [] else [⟨a, inB B a (a + 60)⟩] := by
  refine snoc_ind ?_ ?_
  · intro _; rfl
  · intro R b ih h
    have hb := h b (by simp)
    rw [great_snoc, ih (fun y hy => h y (by simp [hy])), hb.1, if_neg (show ¬ (R ++ [b] = []) by simp), inB_snoc, if_pos hb.2]
    by_cases e : R = []
    · subst e
      have e2 : join (inB [] a (a + 60)) b.s = b.s := join_zero_left _ _ rfl
      rw [e2]; rfl
    · rw [if_neg e]
      have := put_same [] a (inB R a (a + 60)) b.s
      simpa using this

theorem winB_split {f m t : Int} (h1 : f ≤ m) (h2 : m ≤ t) : ∀ l : List Bk, l.Pairwise (fun x y => x.a < y.a) → winB l f t = winB l f m ++ winB l m t := by
  intro l
  induction l with
  | nil => intro _; rfl
  | cons x r ih =>
    intro h
    rw [List.pairwise_cons] at h
    have ih := ih h.2
    simp only [winB] at ih ⊢
    by_cases c1 : f ≤ x.a ∧ x.a < m
    · rw [List.filter_cons_of_pos (by simp; omega), List.filter_cons_of_pos (p := fun x : Bk => decide (f ≤ x.a ∧ x.a < m)) (by simp; omega), List.filter_cons_of_neg (p := fun x : Bk => decide (m ≤ x.a ∧ x.a < t)) (by simp; omega), ih]; rfl
    · by_cases c2 : m ≤ x.a ∧ x.a < t
      · have hn : List.filter (fun x : Bk => decide (f ≤ x.a ∧ x.a < m)) r = [] := by
          rw [List.filter_eq_nil_iff]
          intro y hy
          have := h.1 y hy
          simp; omega
        rw [hn] at ih
        rw [List.filter_cons_of_pos (by simp; omega), List.filter_cons_of_neg (p := fun x : Bk => decide (f ≤ x.a ∧ x.a < m)) (by simp; omega), List.filter_cons_of_pos (p := fun x : Bk => decide (m ≤ x.a ∧ x.a < t)) (by simp; omega), hn, ih]; rfl
      · rw [List.filter_cons_of_neg (by simp; omega), List.filter_cons_of_neg (p := fun x : Bk => decide (f ≤ x.a ∧ x.a < m)) (by simp; omega), List.filter_cons_of_neg (p := fun x : Bk => decide (m ≤ x.a ∧ x.a < t)) (by simp; omega), ih]

theorem inB_fil (f t : Int) : ∀ (B : List Bk) (s : Sm), (winB B f t).foldl (fun acc b => if f ≤ b.a ∧ b.a < t then join acc b.s else acc) s = B.foldl (fun acc b => if f ≤ b.a ∧ b.a < t then join acc b.s else acc) s := by
  intro B
  induction B with
  | nil => intro s; rfl
  | cons b r ih =>
    intro s
    by_cases h : f ≤ b.a ∧ b.a < t
    · unfold winB at ih ⊢
      rw [List.filter_cons_of_pos (by simpa using h), List.foldl_cons, List.foldl_cons, ih]
    · unfold winB at ih ⊢
      rw [List.filter_cons_of_neg (by simpa using h), List.foldl_cons, if_neg h, ih]

/-- the coarse buckets, one window more -/
theorem great_more {L : List Bk} (hL : L.Pairwise (fun x y => x.a < y.a)) {f a : Int} (hf : f ≤ a) (ha : a % 60 = 0) :
    great (winB L f (a + 60)) = great (winB L f a) ++ if winB L a (a + 60) = [] then [] else [⟨a, inB L a (a + 60)⟩] := by
  rw [winB_split hf (show a ≤ a + 60 by omega) L hL, great_append ha (fun x hx => by simp [winB] at hx; omega) _ (fun x hx => by simp [winB] at hx; omega)]
  rw [great_one (a := a) (winB L a (a + 60)) (fun b hb => by
    simp [winB] at hb
    unfold beg
    omega)]
  have e : inB (winB L a (a + 60)) a (a + 60) = inB L a (a + 60) := inB_fil a (a + 60) L zero
  rw [e]

/-- whether there is one -/
theorem inB_some {L : List Bk} (hc : ∀ b ∈ L, 1 ≤ b.s.c ∧ b.s.c ≤ 60) (hl : L.length ≤ 1000000) (f t : Int) : 0 < (inB L f t).c ↔ winB L f t ≠ [] := by
  have key : ∀ B : List Bk, (∀ b ∈ B, 1 ≤ b.s.c ∧ b.s.c ≤ 60) → B.length ≤ 1000000 → 0 ≤ (inB B f t).c ∧ (inB B f t).c ≤ 60 * B.length ∧ (0 < (inB B f t).c ↔ winB B f t ≠ []) := by
    refine snoc_ind ?_ ?_
    · intro _ _; simp [inB, winB, zero]
    · intro R b ih h hl
      simp at hl
      have hb := h b (by simp)
      obtain ⟨i1, i2, i3⟩ := ih (fun x hx => h x (by simp [hx])) (by omega)
      rw [inB_snoc]
      have e : (60 : Int) * ((R ++ [b]).length : Int) = 60 * R.length + 60 := by simp; omega
      rw [e]
      by_cases c : f ≤ b.a ∧ b.a < t
      · rw [if_pos c, join_c i1 (by omega) (by omega)]
        refine ⟨by omega, by omega, ?_⟩
        constructor
        · intro _
          unfold winB
          rw [List.filter_append, List.filter_cons_of_pos (by simpa using c)]
          simp
        · intro _; omega
      · rw [if_neg c]
        refine ⟨i1, by omega, ?_⟩
        rw [i3]
        unfold winB
        rw [List.filter_append, List.filter_cons_of_neg (by simpa using c)]
        simp
  exact (key L hc hl).2.2

end Grain

/-
  The walk of the document's own Roll.
-/
namespace Go.Proofs.Ytfgablhgjbjbkae
open Go.RowKit Go.GrainU

theorem kc_oneR (k : Grain.Bk) : ∀ u ∈ kc k, u.oneCell' = true := by
  intro u hu
  simp [kc] at hu
  rcases hu with rfl | rfl | rfl | rfl | rfl | rfl | rfl | rfl <;> rfl

theorem eight_segR (w : World) (v0 v1 v2 v3 v4 v5 v6 v7 : Value) (t : TypeId) : Seg (w.alloc (.cells #[v0, v1, v2, v3, v4, v5, v6, v7] t)) (some ⟨w.heap.size, 0, none⟩) [v0, v1, v2, v3, v4, v5, v6, v7] := by
  have h := heap_alloc_new w (.cells #[v0, v1, v2, v3, v4, v5, v6, v7] t)
  refine .inr ⟨w.heap.size, 0, rfl, fun j hj => ?_⟩
  have hj2 : j < 8 := hj
  rw [cell_of_row _ w.heap.size _ _ t (0, 0) h]
  rcases (show j = 0 ∨ j = 1 ∨ j = 2 ∨ j = 3 ∨ j = 4 ∨ j = 5 ∨ j = 6 ∨ j = 7 by omega) with rfl | rfl | rfl | rfl | rfl | rfl | rfl | rfl <;> rfl

theorem rofJ_any (l : List (Int × Int)) (b off n cap : Nat) (w : World) (hs : Seg w (some ⟨b, off, none⟩) (scells l)) (hn : n = l.length) (h0 : 0 < n) (hL : n ≤ 1000000) (hv : ∀ y ∈ l, -1000000000 ≤ y.2 ∧ y.2 ≤ 1000000000) :
    Calls Try.prog 60 #[.slice (some ⟨b, off, none⟩) n cap] w fun e w' => ∃ J : Grain.Sm, Hid (J = Grain.of l) ∧ e = .returned (.agg #[.int .i64 J.c, .int .i64 J.t, .int .i64 J.mn, .int .i64 J.mx, .int .i64 J.f, .int .i64 J.l, .int .i64 J.r]) ∧ Below w.heap.size w w' := by
  refine (rof_some l b off n cap w hs hn h0 (by omega) (fun j hj => ?_)).mono fun _ _ h => ⟨_, rfl, h.1, h.2⟩
  have hj2 : j < l.length := by omega
  have := hv l[j] (List.getElem_mem hj2)
  have e : Grain.vl l j = l[j].2 := by simp [Grain.vl, List.getD, List.getElem?_eq_getElem hj2]
  omega

theorem nfi_ok {s : Grain.Shf} (sr : Grain.SR s) (t : Int) : (Grain.nfi s t).Pairwise (fun x y => x.a < y.a) ∧ (∀ b ∈ Grain.nfi s t, 1 ≤ b.s.c ∧ b.s.c ≤ 60) ∧ (Grain.nfi s t).length ≤ 1000 := by
  have hbd := sr.bd
  have hfp := sr.fsp
  have tk := Grain.took_ra sr
  have hl : (Grain.win s.ra s.ft (Grain.nft s t)).length ≤ 500 := Nat.le_trans (Grain.win_len _ _ _) sr.rlen
  have htim : Grain.Tim (Grain.win s.ra s.ft (Grain.nft s t)) := Grain.tim_of (fun y hy => by
    have := sr.rin y (List.mem_filter.1 hy).1
    simp [Grain.inR] at this
    omega) (sr.rpw.filter _)
  have rb := (Grain.rb_iff _ 10).1 (Grain.up_rb (st := 10) (.inl rfl) _ htim (by omega)).1
  unfold Grain.nfi
  refine ⟨?_, ?_, ?_⟩
  · rw [List.pairwise_append]
    refine ⟨sr.fpw, rb.2, fun a ha b hb => ?_⟩
    have h1 := sr.fw a ha
    have h2 := Grain.up_in (st := 10) (.inl rfl) hfp.2.1 tk b hb
    omega
  · intro b hb
    rw [List.mem_append] at hb
    rcases hb with hb | hb
    · have := Grain.inRB_get (sr.fin b hb); omega
    · have := Grain.inRB_get (rb.1 b hb); omega
  · have h3 := (Grain.up_fit 10 (Grain.win s.ra s.ft (Grain.nft s t)) (by omega)).len
    have := sr.flen
    rw [List.length_append]
    omega

theorem up_len {s : Grain.Shf} (sr : Grain.SR s) (f t : Int) : (Grain.up (Grain.win s.ra f t) 10).length ≤ 500 := by
  have h1 := Grain.win_len s.ra f t
  have h2 := sr.rlen
  have h3 := (Grain.up_fit 10 (Grain.win s.ra f t) (by omega)).len
  omega

set_option maxRecDepth 20000 in
set_option maxHeartbeats 8000000 in
theorem rroll_any (x : ShT) (tt : Int) (w : World) (hx : ShIn w x) :
    Calls Try.prog 19 #[x.v, .int .i64 tt] w (RPost w x (Grain.sroll x.s tt)) := by
  obtain ⟨i0, hi, hz0, hz1, hz2⟩ := sinfo_parts Try.infoSmp
  obtain ⟨i1, hj, hy0, hy1, hy2⟩ := info_parts Try.infoBucket
  obtain ⟨r, hr⟩ : ∃ r, r = Grain.sroll x.s tt := ⟨_, rfl⟩
  rw [← hr]
  have HR := hide hr
  obtain ⟨X, hX⟩ : ∃ X, X = w.heap.size := ⟨_, rfl⟩
  obtain ⟨V, hV⟩ : ∃ V, V = (w.alloc (so x)).alloc (so szT) := ⟨_, rfl⟩
  have bel : Below w.heap.size w V := by rw [hV]; exact ((Below.refl _ _).alloc (Nat.le_refl _) _).alloc (by simp) _
  have S0 : V.heap[X]? = some (so x) := by rw [hV, hX, Below.heap_alloc _ _ _ (by simp)]; exact heap_alloc_new w _
  have Z0 : V.heap[X + 1]? = some (so szT) := by rw [hV, hX]; have := heap_alloc_new (w.alloc (so x)) (so szT); rwa [World.size_alloc] at this
  have hxV := hx.below bel
  have HV : Hid (V = (w.alloc (.cells #[.slice x.a0 x.s.se.length x.c0, .slice x.a1 x.s.ra.length x.c1, .slice x.a2 x.s.fi.length x.c2, .slice x.a3 x.s.co.length x.c3, .int .i64 x.s.rf, .int .i64 x.s.ff, .int .i64 x.s.ft, .int .i64 x.s.cf, .int .i64 x.s.ct] 44)).alloc (.cells #[.slice none 0 0, .slice none 0 0, .slice none 0 0, .slice none 0 0, .int .i64 0, .int .i64 0, .int .i64 0, .int .i64 0, .int .i64 0] 44)) := hV
  have HX := hide hX
  have Hv : Hid (x.v = .agg #[.slice x.a0 x.s.se.length x.c0, .slice x.a1 x.s.ra.length x.c1, .slice x.a2 x.s.fi.length x.c2, .slice x.a3 x.s.co.length x.c3, .int .i64 x.s.rf, .int .i64 x.s.ff, .int .i64 x.s.ft, .int .i64 x.s.cf, .int .i64 x.s.ct]) := rfl
  obtain ⟨E, hE⟩ : ∃ E, E = Grain.swrong x.s := ⟨_, rfl⟩
  have HE := hide hE
  have HXW := hide hx
  have wX : w.heap.size ≤ X := by omega
  clear hV hX hE hx hr
  rw [Hv.out]
  go_enter Try.func19, Try.ntmps19
  go_wp2_with fail
  rw [← HV.out, ← Hv.out]
  refine (rshwrong_any x V hxV).mono ?_
  rintro e w1 ⟨rfl, hb1⟩
  rw [← HE.out, ← HX.out]
  have bel1 : Below w.heap.size w w1 := below_pl hb1 bel
  have S1 := below_block hb1 S0
  have Z1 := below_block hb1 Z0
  obtain ⟨z0, z1, z2, z3, z4, z5, z6, z7, z8⟩ := sz_cells Z1
  obtain ⟨f0, f1, f2, f3, f4, f5, f6, f7, f8⟩ := so_free Z1
  clear hb1 S0 Z0 hxV bel HV
  by_cases hw : E = 0
  · subst hw
    by_cases h1 : tt < 0
    · have e : r = (Grain.szero, 3) := by rw [HR.out, Grain.sroll, show Grain.wrongAt x.s tt = 3 by rw [Grain.wrongAt, if_neg (by simp [← HE.out]), if_pos (.inl h1)]]; rfl
      go_wp2
      exact bodyPost_ret (v := .tuple #[.agg #[.slice none 0 0, .slice none 0 0, .slice none 0 0, .slice none 0 0, .int .i64 0, .int .i64 0, .int .i64 0, .int .i64 0, .int .i64 0], .int .i64 3]) (by simp [results, Try.results19, go_sem, z0, z1, z2, z3, z4, z5, z6, z7, z8]) rfl (rpost_no e (below_set9 bel1 (by omega) _ _ _ _ _ _ _ _ _))
    · by_cases h2 : 1000000 < tt
      · have e : r = (Grain.szero, 3) := by rw [HR.out, Grain.sroll, show Grain.wrongAt x.s tt = 3 by rw [Grain.wrongAt, if_neg (by simp [← HE.out]), if_pos (.inr h2)]]; rfl
        go_wp2
        exact bodyPost_ret (v := .tuple #[.agg #[.slice none 0 0, .slice none 0 0, .slice none 0 0, .slice none 0 0, .int .i64 0, .int .i64 0, .int .i64 0, .int .i64 0, .int .i64 0], .int .i64 3]) (by simp [results, Try.results19, go_sem, z0, z1, z2, z3, z4, z5, z6, z7, z8]) rfl (rpost_no e (below_set9 bel1 (by omega) _ _ _ _ _ _ _ _ _))
      · have t0 : 0 ≤ tt := by omega
        have t1 : tt ≤ 1000000 := by omega
        have hwa : Hid (Grain.wrongAt x.s tt = 0) := by show _ = _; rw [Grain.wrongAt, if_neg (by simp [← HE.out]), if_neg (by omega)]
        have sr := (Grain.sr_iff x.s).1 HE.out.symm
        have HSR := hide sr
        have hsp := sr.csp
        have hfp := sr.fsp
        clear h1 h2 sr
        obtain ⟨N, hN⟩ : ∃ N, N = Grain.nft x.s tt := ⟨_, rfl⟩
        obtain ⟨C, hC⟩ : ∃ C, C = Grain.nct x.s tt := ⟨_, rfl⟩
        have hbd := HSR.out.bd
        have eN1 : tt / 10 * 10 < x.s.ft → x.s.ft = N := by rw [hN]; unfold Grain.nft Grain.beg; omega
        have eN2 : ¬ tt / 10 * 10 < x.s.ft → tt / 10 * 10 = N := by rw [hN]; unfold Grain.nft Grain.beg; omega
        have eC1 : N / 60 * 60 < x.s.ct → x.s.ct = C := by rw [hC, hN]; unfold Grain.nct Grain.beg; omega
        have eC2 : ¬ N / 60 * 60 < x.s.ct → N / 60 * 60 = C := by rw [hC, hN]; unfold Grain.nct Grain.beg; omega
        have N0 : x.s.ft ≤ N ∧ N ≤ 1000000 ∧ N % 10 = 0 := by rw [hN]; unfold Grain.nft Grain.beg; omega
        have C0 : x.s.ct ≤ C ∧ C ≤ 1000000 ∧ C % 60 = 0 := by rw [hC]; unfold Grain.nct Grain.beg; rw [← hN]; omega
        have HN1 := hide eN1
        have HN2 := hide eN2
        have HC1 := hide eC1
        have HC2 := hide eC2
        have HNN := hide hN
        have HCC := hide hC
        obtain ⟨N1, N2, N3⟩ := N0
        obtain ⟨C1, C2, C3⟩ := C0
        obtain ⟨b0, b1, b2, b3, b4, b5, b6, b7, b8⟩ := nine_cells S1
        clear hN hC eN1 eN2 eC1 eC2
        go_upto_region 6 with fail
        go_cut [7, 8] from 30 to 33 (fun v7 v8 wx => v7 = .int .i64 (tt / 10 * 10) ∧ v8 = .int .i64 0 ∧ Hid (wx = w1))
        case first =>
          go_wp2
          go_meet
          exact ⟨rfl, rfl, rfl⟩
        case rest =>
        obtain ⟨rfl, rfl, HWC⟩ := hcut
        rw [HWC.out]
        clear HWC
        apply_assumption
        refine wp_seq_k fun KK1 hKK1 => ?_
        go_cut [7] from 33 to 39 (fun v7 wx => v7 = .int .i64 N ∧ Hid (wx = w1))
        case first =>
          by_cases hc : tt / 10 * 10 < x.s.ft
          · have e := hide (HN1.out hc)
            go_wp2
            go_meet
            exact ⟨by rw [e.out], rfl⟩
          · have e := hide (HN2.out (by omega))
            go_wp2
            go_meet
            exact ⟨by rw [e.out], rfl⟩
        case rest =>
        obtain ⟨rfl, HWC⟩ := hcut
        rw [HWC.out]
        clear HWC
        apply_assumption
        refine wp_seq_k fun KK2 hKK2 => ?_
        go_cut [8] from 39 to 42 (fun v8 wx => v8 = .int .i64 (N / 60 * 60) ∧ Hid (wx = w1))
        case first =>
          go_wp2
          go_meet
          exact ⟨rfl, rfl⟩
        case rest =>
        obtain ⟨rfl, HWC⟩ := hcut
        rw [HWC.out]
        clear HWC
        apply_assumption
        refine wp_seq_k fun KK3 hKK3 => ?_
        go_cut [8] from 42 to 48 (fun v8 wx => v8 = .int .i64 C ∧ Hid (wx = w1))
        case first =>
          by_cases hc : N / 60 * 60 < x.s.ct
          · exfalso; omega
          · have e := hide (HC2.out (by omega))
            go_wp2
            go_meet
            exact ⟨by rw [e.out], rfl⟩
        case rest =>
        obtain ⟨rfl, HWC⟩ := hcut
        rw [HWC.out]
        clear HWC HN1 HN2 HC1 HC2 b0 b1 b2 b3 b4 b5 b6 b7 b8 KK1 hKK1 KK2 hKK2
        obtain ⟨a1, ha1⟩ : ∃ a1, a1 = x.a1 := ⟨_, rfl⟩
        obtain ⟨R, hR⟩ : ∃ R, R = x.s.ra.length := ⟨_, rfl⟩
        have S1b : w1.heap[X]? = some (sob (.slice x.a0 x.s.se.length x.c0) (.slice a1 R x.c1) (.slice x.a2 x.s.fi.length x.c2) (.slice x.a3 x.s.co.length x.c3) (.int .i64 x.s.rf) (.int .i64 x.s.ff) (.int .i64 x.s.ft) (.int .i64 x.s.cf) (.int .i64 x.s.ct)) := by rw [ha1, hR]; exact S1
        have segr : Seg w1 a1 (scells x.s.ra) := by rw [ha1]; exact HXW.out.g1.below bel1
        have rl5 : R ≤ 500 := by rw [hR]; exact HSR.out.rlen
        have fl5 : x.s.fi.length ≤ 500 := HSR.out.flen
        have cl5 : x.s.co.length ≤ 500 := HSR.out.clen
        have HRl := hide hR
        have HA1 := hide ha1
        have belE : Below w1.heap.size w1 (w1.alloc (.cells #[] 90)) := (Below.refl _ _).alloc (Nat.le_refl _) _
        have ownE : (w1.alloc (.cells #[] 90)).ownsRow w1.heap.size 90 8 (.slice (some ⟨w1.heap.size, 0, none⟩) 0 0) 0 [] := World.ownsRow_made w1 #[] 0 (Nat.le_refl _) (by decide) rfl
        have segf := (HXW.out.g2.below bel1).below belE
        obtain ⟨b0, b1, b2, b3, b4, b5, b6, b7, b8⟩ := sob_cells S1b
        have Xl1 : X < w1.heap.size := lt_of_block S1b
        clear ha1 hR
        go_wp2_with (at_builtin; refine append_seg rfl _ _ 42 rfl w1.heap.size 90 i1 (.agg #[.int .i64 0, .int .i64 0, .int .i64 0, .int .i64 0, .int .i64 0, .int .i64 0, .int .i64 0, .int .i64 0]) 8 64 Try.underlying42 hj hy0 hy1 hy2 rfl (by decide) _ 0 [] rfl ownE x.a2 x.s.fi.length x.c2 (kcells x.s.fi) rfl HXW.out.z2 segf (kcells_length _) (kcells_one _) (by unfold maxLen; omega) (by omega) (by simp) ?_)
        intro vl w2 own2 gr2
        obtain ⟨lo0, d0, hvl, _, _⟩ := own_open own2
        subst hvl
        have bel2 : Below w1.heap.size w1 w2 := belE.grown gr2 (by simp) (fun j hj => (ownE.lt j hj).1)
        have S2 := below_block bel2 S1b
        have own2' : w2.ownsRow w1.heap.size 90 8 (.slice lo0 x.s.fi.length d0) x.s.fi.length (kcells (x.s.fi ++ Grain.up (Grain.win x.s.ra x.s.ft x.s.ft) 10)) := by
          have e : Grain.win x.s.ra x.s.ft x.s.ft = [] := by unfold Grain.win; rw [List.filter_eq_nil_iff]; intro y _; simp
          rw [e, show Grain.up [] 10 = [] from rfl, List.append_nil]; exact own2
        clear belE ownE segf gr2 own2 b0 b1 b2 b3 b4 b5 b6 b7 b8
        obtain ⟨b0, b1, b2, b3, b4, b5, b6, b7, b8⟩ := sob_cells S2
        go_wp2
        go_loopw [9, 10] (fun s9 s10 wr => ∃ (a : Int) (M d : Nat) (lo : Option Addr), s9 = .slice lo M d ∧ s10 = .int .i64 a ∧ x.s.ft ≤ a ∧ a ≤ N ∧ a % 10 = 0 ∧ wr.ownsRow w1.heap.size 90 8 (.slice lo M d) M (kcells (x.s.fi ++ Grain.up (Grain.win x.s.ra x.s.ft a) 10)) ∧ Below w1.heap.size w1 wr) (fun _ s10 _ => (N - intOf s10).toNat)
        case atStart => exact ⟨x.s.ft, _, d0, lo0, rfl, rfl, Int.le_refl _, N1, hfp.2.1, own2', bel2⟩
        case round =>
          clear own2' bel2 S2 b0 b1 b2 b3 b4 b5 b6 b7 b8
          obtain ⟨a, M, d, lo, rfl, rfl, ha1, ha2, ha3, own, belr⟩ := hrel
          have S3 := below_block belr S1b
          have hMl : M ≤ 1000 := by
            have e1 := own_klen own
            have e2 := up_len HSR.out x.s.ft a
            rw [List.length_append] at e1
            omega
          by_cases hlt : a < N
          · obtain ⟨w5, hw5⟩ : ∃ w5, w5 = wr := ⟨_, rfl⟩
            rw [← hw5] at own belr S3 ⊢
            obtain ⟨b0, b1, b2, b3, b4, b5, b6, b7, b8⟩ := sob_cells S3
            have segr5 := segr.below belr
            have a0 : 0 ≤ a := by omega
            clear hw5
            go_wp2
            go_loopw [11, 62] (fun s11 i wr => ∃ (j P q : Nat) (po : Option Addr), j ≤ R ∧ i = .int .i64 j ∧ s11 = .slice po P q ∧ P ≤ j ∧ wr.ownsRow w5.heap.size 35 2 (.slice po P q) P (scells (Grain.win (x.s.ra.take j) a (a + 10))) ∧ Below w5.heap.size w5 wr) (fun _ i _ => R - (intOf i).toNat)
            case atStart => exact ⟨0, 0, 0, none, Nat.zero_le _, rfl, rfl, Nat.le_refl _, World.ownsRow_nil _ _ _ _, Below.refl _ _⟩
            case round =>
              obtain ⟨j, P, q, po, hj5, rfl, rfl, hPj, ownp, belp⟩ := hrel
              have hsz := belp.size
              by_cases hjl : j < R
              · have hkl : j < x.s.ra.length := by rw [← HRl.out]; exact hjl
                obtain ⟨b, off, rfl, hcell⟩ := segr5.sample hkl
                have hbl : b < w5.heap.size := World.block_lt_of_cell? w5 ⟨b, off + j * 2, none⟩ (hcell j hkl).1
                obtain ⟨t, ht⟩ : ∃ t, t = Grain.tm x.s.ra j := ⟨_, rfl⟩
                obtain ⟨v, hv⟩ : ∃ v, v = Grain.vl x.s.ra j := ⟨_, rfl⟩
                have c0 : wr.cell? ⟨b, off + j * 2, none⟩ = some (.int .i64 t) := by rw [ht]; exact (belp.cell (by exact hbl)).trans (hcell j hkl).1
                have c1 : wr.cell? ⟨b, off + j * 2 + 1, none⟩ = some (.int .i64 v) := by rw [hv]; exact (belp.cell (by exact hbl)).trans (hcell j hkl).2
                have HU : Hid (Grain.win (x.s.ra.take (j + 1)) a (a + 10) = if a ≤ t ∧ t < a + 10 then Grain.win (x.s.ra.take j) a (a + 10) ++ [(t, v)] else Grain.win (x.s.ra.take j) a (a + 10)) := by
                  show _ = _
                  rw [Grain.take_tm hkl, Grain.win_snoc, ht, hv]
                have own3 := ownp.alloc (.cells #[.int .i64 t, .int .i64 v] 35)
                have belA : Below w5.heap.size w5 (wr.alloc (.cells #[.int .i64 t, .int .i64 v] 35)) := belp.alloc hsz _
                clear ht hv hcell hkl b0 b1 b2 b3 b4 b5 b6 b7 b8
                by_cases g1 : a ≤ t
                · by_cases g2 : t < a + 10
                  · have HE2 : Hid (Grain.win (x.s.ra.take (j + 1)) a (a + 10) = Grain.win (x.s.ra.take j) a (a + 10) ++ [(t, v)]) := by show _ = _; rw [HU.out, if_pos ⟨g1, g2⟩]
                    clear HU
                    go_wp2_with (at_builtin; refine wpList_append_lies _ rfl _ _ 31 rfl w5.heap.size 35 i0 (.agg #[.int .i64 0, .int .i64 0]) 2 16 Try.underlying31 hi hz0 hz1 hz2 rfl (by decide) _ _ _ rfl (own3.alloc _) ⟨wr.heap.size + 1, 0, none⟩ 1 1 [.int .i64 t, .int .i64 v] rfl rfl (news_two (by simp) _ _ _) (by simp [Value.oneCell']) (by decide) (by unfold maxLen; omega) (by omega) (by simp; omega) (wr.heap.size + 2) (by simp) ?_)
                    intro g' cp' w7 own7 gr7 hat7 hlt7
                    have own8 : w7.ownsRow w5.heap.size 35 2 (.slice (some ⟨g', 0, none⟩) (P + 1) cp') (P + 1) (scells (Grain.win (x.s.ra.take (j + 1)) a (a + 10))) := by
                      rw [HE2.out, scells_append]; exact own7
                    have bel7 : Below w5.heap.size w5 w7 := (belA.alloc belA.size _).grown gr7 (by simp; omega) (fun j hj => (own3.lt j hj).1)
                    clear own7 gr7 hat7 hlt7 own3 HE2 belA ownp
                    go_wp2
                    go_roundw
                    case rel => exact ⟨j + 1, P + 1, cp', _, by omega, by go_num, rfl, by omega, own8, bel7⟩
                    case measure => simp [intOf]; omega
                  · have HE2 : Hid (Grain.win (x.s.ra.take (j + 1)) a (a + 10) = Grain.win (x.s.ra.take j) a (a + 10)) := by show _ = _; rw [HU.out, if_neg (by omega)]
                    rw [← HE2.out] at own3
                    clear HU HE2
                    go_wp2
                    go_roundw
                    case rel => exact ⟨j + 1, P, q, po, by omega, by go_num, rfl, by omega, own3, belA⟩
                    case measure => simp [intOf]; omega
                · have HE2 : Hid (Grain.win (x.s.ra.take (j + 1)) a (a + 10) = Grain.win (x.s.ra.take j) a (a + 10)) := by show _ = _; rw [HU.out, if_neg (by omega)]
                  rw [← HE2.out] at own3
                  clear HU HE2
                  go_wp2
                  go_roundw
                  case rel => exact ⟨j + 1, P, q, po, by omega, by go_num, rfl, by omega, own3, belA⟩
                  case measure => simp [intOf]; omega
              · have ek : x.s.ra.take j = x.s.ra := List.take_of_length_le (by have := HRl.out; omega)
                rw [ek] at ownp
                have hPl : P = (Grain.win x.s.ra a (a + 10)).length := by have := ownp.1; rw [scells_length] at this; omega
                have HPl := hide hPl
                have own6 := own_below own belp
                have bel6 : Below w1.heap.size w1 wr := below_pl belp belr
                have HUP := hide (Grain.up_more HSR.out (f := x.s.ft) (a := a) ha1 ha3)
                clear ek hPl b0 b1 b2 b3 b4 b5 b6 b7 b8
                rcases Nat.eq_zero_or_pos P with hp0 | hp0
                · subst hp0
                  have hg : decide ((0 : Int) < ((0 : Nat) : Int)) = false := by decide
                  have hg' : decide ((0 : Int) < 0) = false := by decide
                  have own7 : wr.ownsRow w1.heap.size 90 8 (.slice lo M d) M (kcells (x.s.fi ++ Grain.up (Grain.win x.s.ra x.s.ft (a + 10)) 10)) := by
                    have e : Grain.win x.s.ra a (a + 10) = [] := List.length_eq_zero_iff.mp HPl.out.symm
                    rw [HUP.out, if_pos e, List.append_nil]; exact own6
                  clear HUP own6 own
                  go_wp2
                  go_roundw
                  case rel => exact ⟨a + 10, M, d, lo, rfl, rfl, by omega, by omega, by omega, own7, bel6⟩
                  case measure => simp [intOf]; omega
                · have hg : decide ((0 : Int) < (P : Int)) = true := by simp; omega
                  obtain ⟨pb, hpo⟩ : ∃ pb, po = some ⟨pb, 0, none⟩ := by
                    rcases ownp.2 with ⟨h2, h3⟩ | ⟨g, cap, cur, hv, _⟩
                    · omega
                    · simp at hv; exact ⟨g, hv.1⟩
                  subst hpo
                  have hP5 : P ≤ 1000000 := by omega
                  have hvv : ∀ y ∈ Grain.win x.s.ra a (a + 10), -1000000000 ≤ y.2 ∧ y.2 ≤ 1000000000 := fun y hy => by
                    have := HSR.out.rin y (List.mem_filter.1 hy).1
                    simp [Grain.inR] at this
                    omega
                  have HVV := hide hvv
                  clear hvv
                  go_wp2_with fail
                  refine (rofJ_any _ pb 0 P q wr (own_seg' ownp) HPl.out hp0 hP5 HVV.out).mono ?_
                  rintro e w8 ⟨J, HJ, rfl, hb8⟩
                  have own8 := own_below own6 hb8
                  have bel8 : Below w1.heap.size w1 w8 := below_pl hb8 bel6
                  have bs8 := bel8.size
                  have HEN : Hid (x.s.fi ++ Grain.up (Grain.win x.s.ra x.s.ft (a + 10)) 10 = (x.s.fi ++ Grain.up (Grain.win x.s.ra x.s.ft a) 10) ++ [⟨a, J⟩]) := by
                    have e : Grain.win x.s.ra a (a + 10) ≠ [] := fun e => by have := HPl.out; rw [e] at this; simp at this; omega
                    show _ = _
                    rw [HUP.out, if_neg e, ← HJ.out, List.append_assoc]
                  clear HUP HJ HVV own6 own ownp hb8 HPl
                  go_wp2_with (at_builtin; refine append_seg rfl _ _ 42 rfl w1.heap.size 90 i1 (.agg #[.int .i64 0, .int .i64 0, .int .i64 0, .int .i64 0, .int .i64 0, .int .i64 0, .int .i64 0, .int .i64 0]) 8 64 Try.underlying42 hj hy0 hy1 hy2 rfl (by decide) _ M _ rfl (own8.alloc _) (some ⟨w8.heap.size, 0, none⟩) 1 1 (kc ⟨a, J⟩) rfl (fun h => by cases h) (eight_segR w8 _ _ _ _ _ _ _ _ _) rfl (kc_oneR _) (by unfold maxLen; omega) (by omega) (by simp; omega) ?_)
                  intro vl w9 own9 gr9
                  obtain ⟨lo9, d9, hvl, _, _⟩ := own_open own9
                  subst hvl
                  have bel9 : Below w1.heap.size w1 w9 := (bel8.alloc bs8 _).grown gr9 (by simp; omega) (fun j hj => (own8.lt j hj).1)
                  have own10 : w9.ownsRow w1.heap.size 90 8 (.slice lo9 (M + 1) d9) (M + 1) (kcells (x.s.fi ++ Grain.up (Grain.win x.s.ra x.s.ft (a + 10)) 10)) := by
                    rw [HEN.out, kcells_snoc]; exact own9
                  clear own9 gr9 own8 HEN
                  go_wp2
                  go_roundw
                  case rel => exact ⟨a + 10, M + 1, d9, lo9, rfl, rfl, by omega, by omega, by omega, own10, bel9⟩
                  case measure => simp [intOf]; omega
          · obtain rfl : a = N := by omega
            obtain ⟨L, hLL⟩ : ∃ L, L = Grain.nfi x.s tt := ⟨_, rfl⟩
            have eL : x.s.fi ++ Grain.up (Grain.win x.s.ra x.s.ft a) 10 = L := by rw [hLL]; unfold Grain.nfi; rw [← HNN.out]
            rw [eL] at own
            have hM := own_klen own
            have HML := hide hM
            have LOK := nfi_ok HSR.out tt
            rw [← hLL] at LOK
            have HLO := hide LOK
            have segl := own_seg' own
            have belF : Below wr.heap.size wr (wr.alloc (.cells #[] 90)) := (Below.refl _ _).alloc (Nat.le_refl _) _
            have ownF : (wr.alloc (.cells #[] 90)).ownsRow wr.heap.size 90 8 (.slice (some ⟨wr.heap.size, 0, none⟩) 0 0) 0 [] := World.ownsRow_made wr #[] 0 (Nat.le_refl _) (by decide) rfl
            have bel0 : Below w.heap.size w wr := below_pl belr bel1
            have segc := (HXW.out.g3.below bel0).below belF
            obtain ⟨w5, hw5⟩ : ∃ w5, w5 = wr := ⟨_, rfl⟩
            rw [← hw5] at own belr S3 segl belF ownF bel0 segc ⊢
            obtain ⟨b0, b1, b2, b3, b4, b5, b6, b7, b8⟩ := sob_cells S3
            have Xl5 : X < w5.heap.size := lt_of_block S3
            have HLL := hide hLL
            clear hw5 hM LOK hLL eL
            go_wp2_with (at_builtin; refine append_seg rfl _ _ 42 rfl w5.heap.size 90 i1 (.agg #[.int .i64 0, .int .i64 0, .int .i64 0, .int .i64 0, .int .i64 0, .int .i64 0, .int .i64 0, .int .i64 0]) 8 64 Try.underlying42 hj hy0 hy1 hy2 rfl (by decide) _ 0 [] rfl ownF x.a3 x.s.co.length x.c3 (kcells x.s.co) rfl HXW.out.z3 segc (kcells_length _) (kcells_one _) (by unfold maxLen; omega) (by omega) (by simp) ?_)
            intro vl w6 own6 gr6
            obtain ⟨ko0, e0, hvl, _, _⟩ := own_open own6
            subst hvl
            have bel6 : Below w5.heap.size w5 w6 := belF.grown gr6 (by simp) (fun j hj => (ownF.lt j hj).1)
            have S6 := below_block bel6 S3
            have own6' : w6.ownsRow w5.heap.size 90 8 (.slice ko0 x.s.co.length e0) x.s.co.length (kcells (x.s.co ++ Grain.great (Grain.winB L x.s.ct x.s.ct))) := by
              have e : Grain.winB L x.s.ct x.s.ct = [] := by unfold Grain.winB; rw [List.filter_eq_nil_iff]; intro y _; simp
              rw [e, show Grain.great [] = [] from rfl, List.append_nil]
              simpa using own6
            clear belF ownF segc gr6 own6 b0 b1 b2 b3 b4 b5 b6 b7 b8
            obtain ⟨b0, b1, b2, b3, b4, b5, b6, b7, b8⟩ := sob_cells S6
            go_wp2
            go_loopw [14, 15] (fun s14 s15 wr => ∃ (c : Int) (K e : Nat) (ko : Option Addr), s14 = .slice ko K e ∧ s15 = .int .i64 c ∧ x.s.ct ≤ c ∧ c ≤ C ∧ c % 60 = 0 ∧ wr.ownsRow w5.heap.size 90 8 (.slice ko K e) K (kcells (x.s.co ++ Grain.great (Grain.winB L x.s.ct c))) ∧ Below w5.heap.size w5 wr) (fun _ s15 _ => (C - intOf s15).toNat)
            case atStart => exact ⟨x.s.ct, _, e0, ko0, rfl, rfl, Int.le_refl _, C1, hsp.2.1, by first | exact own6' | simpa using own6', bel6⟩
            case round =>
              clear own6' bel6 S6 b0 b1 b2 b3 b4 b5 b6 b7 b8
              obtain ⟨c, K, e, ko, rfl, rfl, hc1, hc2, hc3, ownk, belk⟩ := hrel
              have hKl : K ≤ 1500 := by
                have e1 := own_klen ownk
                have e2 := Grain.great_len (Grain.winB L x.s.ct c)
                have e3 : (Grain.winB L x.s.ct c).length ≤ L.length := List.length_filter_le _ _
                have e4 := HLO.out.2.2
                rw [List.length_append] at e1
                omega
              have hM1 : M ≤ 1000 := by have := HML.out; have := HLO.out.2.2; omega
              have bsk := belk.size
              by_cases hlt2 : c < C
              · have segl6 := segl.below belk
                go_wp2_with fail
                refine (rof_any L lo M d c (c + 60) wr segl6 HML.out (by omega)).mono ?_
                rintro e8 w8 ⟨J, HJ, rfl, hb8⟩
                have ownk8 := own_below ownk hb8
                have belk8 : Below w5.heap.size w5 w8 := below_pl hb8 belk
                obtain ⟨Q, hQ⟩ : ∃ Q, Q = w8.heap.size := ⟨_, rfl⟩
                obtain ⟨W9, hW9⟩ : ∃ W9, W9 = w8.alloc (.cells #[.int .i64 J.c, .int .i64 J.t, .int .i64 J.mn, .int .i64 J.mx, .int .i64 J.f, .int .i64 J.l, .int .i64 J.r] 62) := ⟨_, rfl⟩
                have hb9 : Below w8.heap.size w8 W9 := by rw [hW9]; exact (Below.refl _ _).alloc (Nat.le_refl _) _
                have A9 : SumAt W9 Q J := by show W9.heap[Q]? = _; rw [hW9, hQ]; exact heap_alloc_new w8 _
                have own9 := own_below ownk8 hb9
                have bel9 : Below w5.heap.size w5 W9 := below_pl hb9 belk8
                have bs9 := bel9.size
                obtain ⟨q0, q1, q2, q3, q4, q5, q6⟩ := A9.cells
                have HGM := hide (Grain.great_more HLO.out.1 (f := x.s.ct) (a := c) hc1 hc3)
                have hsome : 0 < J.c ↔ Grain.winB L c (c + 60) ≠ [] := by rw [HJ.out]; exact Grain.inB_some HLO.out.2.1 (by have := HLO.out.2.2; omega) c (c + 60)
                have HSome := hide hsome
                have HW9 := hide hW9
                have HQ := hide hQ
                clear hW9 hQ hsome hb8 hb9 ownk ownk8 belk belk8 segl6
                go_upto_region 30 with fail
                rw [← HW9.out, ← HQ.out]
                clear HW9 HQ
                by_cases hz : 0 < J.c
                · have HEN : Hid (x.s.co ++ Grain.great (Grain.winB L x.s.ct (c + 60)) = (x.s.co ++ Grain.great (Grain.winB L x.s.ct c)) ++ [⟨c, J⟩]) := by
                    show _ = _
                    rw [HGM.out, if_neg (HSome.out.1 hz), ← HJ.out, List.append_assoc]
                  clear HGM HSome HJ
                  go_wp2_with (at_builtin; refine append_seg rfl _ _ 42 rfl w5.heap.size 90 i1 (.agg #[.int .i64 0, .int .i64 0, .int .i64 0, .int .i64 0, .int .i64 0, .int .i64 0, .int .i64 0, .int .i64 0]) 8 64 Try.underlying42 hj hy0 hy1 hy2 rfl (by decide) _ K _ rfl (own9.alloc _) (some ⟨W9.heap.size, 0, none⟩) 1 1 (kc ⟨c, J⟩) rfl (fun h => by cases h) (eight_segR W9 _ _ _ _ _ _ _ _ _) rfl (kc_oneR _) (by unfold maxLen; omega) (by omega) (by simp; omega) ?_)
                  intro vl w10 own10 gr10
                  obtain ⟨ko9, d9, hvl, _, _⟩ := own_open own10
                  subst hvl
                  have bel10 : Below w5.heap.size w5 w10 := (bel9.alloc bs9 _).grown gr10 (by simp; omega) (fun j hj => (own9.lt j hj).1)
                  have own11 : w10.ownsRow w5.heap.size 90 8 (.slice ko9 (K + 1) d9) (K + 1) (kcells (x.s.co ++ Grain.great (Grain.winB L x.s.ct (c + 60)))) := by
                    rw [HEN.out, kcells_snoc]; exact own10
                  clear own10 gr10 own9 HEN
                  go_wp2
                  go_roundw
                  case rel => exact ⟨c + 60, K + 1, d9, ko9, rfl, rfl, by omega, by omega, by omega, own11, bel10⟩
                  case measure => simp [intOf]; omega
                · have own11 : W9.ownsRow w5.heap.size 90 8 (.slice ko K e) K (kcells (x.s.co ++ Grain.great (Grain.winB L x.s.ct (c + 60)))) := by
                    have e2 : Grain.winB L c (c + 60) = [] := by
                      apply Classical.byContradiction
                      intro h
                      exact hz (HSome.out.2 h)
                    rw [HGM.out, if_pos e2, List.append_nil]; exact own9
                  clear HGM HSome HJ own9
                  go_wp2
                  go_roundw
                  case rel => exact ⟨c + 60, K, e, ko, rfl, rfl, by omega, by omega, by omega, own11, bel9⟩
                  case measure => simp [intOf]; omega
              · obtain rfl : c = C := by omega
                obtain ⟨G, hGG⟩ : ∃ G, G = Grain.nco x.s tt := ⟨_, rfl⟩
                have eG : x.s.co ++ Grain.great (Grain.winB L x.s.ct c) = G := by rw [hGG]; unfold Grain.nco; rw [← HLL.out, ← HCC.out]
                rw [eG] at ownk
                have HKG := hide (own_klen ownk)
                have HGG := hide hGG
                have own9 := own_below own belk
                have bel9 : Below w1.heap.size w1 wr := below_pl belk belr
                have bel0' : Below w.heap.size w wr := below_pl bel9 bel1
                have S9 := below_block bel9 S1b
                have Z9 := below_block bel9 Z1
                obtain ⟨y0, y1, y2, y3, y4, y5, y6, y7, y8⟩ := sz_cells Z9
                obtain ⟨g0, g1, g2, g3, g4, g5, g6, g7, g8⟩ := so_free Z9
                have lX1 : X + 1 < w1.heap.size := lt_of_block Z1
                have lX5 : X + 1 < w5.heap.size := Nat.lt_of_lt_of_le lX1 belr.size
                have HS : Hid (r = if 500 < M then (Grain.szero, 5) else if 500 < K then (Grain.szero, 5) else ({ x.s with fi := L, co := G, ft := a, ct := c }, 0)) := by
                  show _ = _
                  rw [HR.out, Grain.sroll, if_neg (by simp [hwa.out]), HML.out, HKG.out, HLL.out, HGG.out, HNN.out, HCC.out]
                clear hGG eG own
                by_cases h5 : 500 < M
                · have e : r = (Grain.szero, 5) := by rw [HS.out, if_pos h5]
                  have hd : decide ((500 : Int) < (M : Int)) = true := by simp; omega
                  go_wp2
                  exact bodyPost_ret (v := .tuple #[.agg #[.slice none 0 0, .slice none 0 0, .slice none 0 0, .slice none 0 0, .int .i64 0, .int .i64 0, .int .i64 0, .int .i64 0, .int .i64 0], .int .i64 5]) (by simp [results, Try.results19, go_sem, y0, y1, y2, y3, y4, y5, y6, y7, y8]) rfl (rpost_no (by first | rfl | exact e) (below_set9 bel0' (by omega) _ _ _ _ _ _ _ _ _))
                · have hd : decide ((500 : Int) < (M : Int)) = false := by simp; omega
                  by_cases h6 : 500 < K
                  · have e : r = (Grain.szero, 5) := by rw [HS.out, if_neg h5, if_pos h6]
                    have hd2 : decide ((500 : Int) < (K : Int)) = true := by simp; omega
                    go_wp2
                    exact bodyPost_ret (v := .tuple #[.agg #[.slice none 0 0, .slice none 0 0, .slice none 0 0, .slice none 0 0, .int .i64 0, .int .i64 0, .int .i64 0, .int .i64 0, .int .i64 0], .int .i64 5]) (by simp [results, Try.results19, go_sem, y0, y1, y2, y3, y4, y5, y6, y7, y8]) rfl (rpost_no (by first | rfl | exact e) (below_set9 bel0' (by omega) _ _ _ _ _ _ _ _ _))
                  · have hd2 : decide ((500 : Int) < (K : Int)) = false := by simp; omega
                    have HEQ : Hid (r = ({ x.s with fi := L, co := G, ft := a, ct := c }, 0)) := by show _ = _; rw [HS.out, if_neg h5, if_neg h6]
                    obtain ⟨W10, hW10⟩ : ∃ W10, W10 = (((wr.setCell ⟨X, 2, none⟩ (.slice lo M d)).setCell ⟨X, 3, none⟩ (.slice ko K e)).setCell ⟨X, 6, none⟩ (.int .i64 a)).setCell ⟨X, 8, none⟩ (.int .i64 c) := ⟨_, rfl⟩
                    have S10 : W10.heap[X]? = some (sob (.slice x.a0 x.s.se.length x.c0) (.slice a1 R x.c1) (.slice lo M d) (.slice ko K e) (.int .i64 x.s.rf) (.int .i64 x.s.ff) (.int .i64 a) (.int .i64 x.s.cf) (.int .i64 c)) := by
                      rw [hW10]
                      have q1 := set_block (i := 2) S9 (.slice lo M d)
                      have q2 := set_block (i := 3) q1 (.slice ko K e)
                      have q3 := set_block (i := 6) q2 (.int .i64 a)
                      exact set_block (i := 8) q3 (.int .i64 c)
                    have Z10 : W10.heap[X + 1]? = some (so szT) := by rw [hW10, setCell_far (by simp), setCell_far (by simp), setCell_far (by simp), setCell_far (by simp)]; exact Z9
                    have bel10 : Below w.heap.size w W10 := by rw [hW10]; exact (((bel0'.setCell (by show w.heap.size ≤ X; omega) _).setCell (by show w.heap.size ≤ X; omega) _).setCell (by show w.heap.size ≤ X; omega) _).setCell (by show w.heap.size ≤ X; omega) _
                    have ownl : W10.ownsRow w1.heap.size 90 8 (.slice lo M d) M (kcells L) := by rw [hW10]; exact ownsRow_setCell_below (ownsRow_setCell_below (ownsRow_setCell_below (ownsRow_setCell_below own9 (by show X < _; omega) _) (by show X < _; omega) _) (by show X < _; omega) _) (by show X < _; omega) _
                    have ownk2 : W10.ownsRow w5.heap.size 90 8 (.slice ko K e) K (kcells G) := by rw [hW10]; exact ownsRow_setCell_below (ownsRow_setCell_below (ownsRow_setCell_below (ownsRow_setCell_below ownk (by show X < _; omega) _) (by show X < _; omega) _) (by show X < _; omega) _) (by show X < _; omega) _
                    obtain ⟨b0, b1, b2, b3, b4, b5, b6, b7, b8⟩ := sob_cells S9
                    obtain ⟨u0, u1, u2, u3, u4, u5, u6, u7, u8⟩ := sob_free S9
                    have HW10 := hide hW10
                    clear hW10 HS y0 y1 y2 y3 y4 y5 y6 y7 y8 g0 g1 g2 g3 g4 g5 g6 g7 g8
                    go_upto_region 35 with fail
                    rw [← HW10.out]
                    clear b0 b1 b2 b3 b4 b5 b6 b7 b8 u0 u1 u2 u3 u4 u5 u6 u7 u8 HW10
                    obtain ⟨b0, b1, b2, b3, b4, b5, b6, b7, b8⟩ := sob_cells S10
                    obtain ⟨y0, y1, y2, y3, y4, y5, y6, y7, y8⟩ := sz_cells Z10
                    obtain ⟨g0, g1, g2, g3, g4, g5, g6, g7, g8⟩ := so_free Z10
                    have F : Hid (RPost w x r (.returned (.tuple #[.agg #[.slice x.a0 x.s.se.length x.c0, .slice a1 R x.c1, .slice lo M d, .slice ko K e, .int .i64 x.s.rf, .int .i64 x.s.ff, .int .i64 a, .int .i64 x.s.cf, .int .i64 c], .int .i64 0])) (Set9 W10 (X + 1) (.slice x.a0 x.s.se.length x.c0) (.slice a1 R x.c1) (.slice lo M d) (.slice ko K e) (.int .i64 x.s.rf) (.int .i64 x.s.ff) (.int .i64 a) (.int .i64 x.s.cf) (.int .i64 c))) := by
                      have BF : Below w.heap.size w (Set9 W10 (X + 1) (.slice x.a0 x.s.se.length x.c0) (.slice a1 R x.c1) (.slice lo M d) (.slice ko K e) (.int .i64 x.s.rf) (.int .i64 x.s.ff) (.int .i64 a) (.int .i64 x.s.cf) (.int .i64 c)) := below_set9 bel10 (by omega) _ _ _ _ _ _ _ _ _
                      have OL := own_set9 ownl lX1 (.slice x.a0 x.s.se.length x.c0) (.slice a1 R x.c1) (.slice lo M d) (.slice ko K e) (.int .i64 x.s.rf) (.int .i64 x.s.ff) (.int .i64 a) (.int .i64 x.s.cf) (.int .i64 c)
                      have OK := own_set9 ownk2 lX5 (.slice x.a0 x.s.se.length x.c0) (.slice a1 R x.c1) (.slice lo M d) (.slice ko K e) (.int .i64 x.s.rf) (.int .i64 x.s.ff) (.int .i64 a) (.int .i64 x.s.cf) (.int .i64 c)
                      have hl := HML.out
                      have hk := HKG.out
                      have ha := HA1.out
                      have hr := HRl.out
                      rw [hl, hk, ha, hr] at BF OL OK ⊢
                      have zl := own_nil OL
                      have zk := own_nil OK
                      rw [HEQ.out]
                      exact ⟨⟨{ x.s with fi := L, co := G, ft := a, ct := c }, x.a0, x.c0, x.a1, x.c1, lo, d, ko, e⟩, rfl, rfl, ⟨HXW.out.g0.below BF, HXW.out.g1.below BF, own_seg' OL, own_seg' OK, HXW.out.fits, HXW.out.n0, HXW.out.n1, (by show L.length * 64 ≤ _; omega), (by show G.length * 64 ≤ _; omega), HXW.out.z0, HXW.out.z1, zl, zk⟩, ⟨.inl ⟨rfl, rfl⟩, .inl ⟨rfl, rfl⟩, .inr (own_fr OL (by have := bel1.size; omega)), .inr (own_fr OK (by have := bel1.size; have := belr.size; omega))⟩, BF⟩
                    go_wp2
                    exact bodyPost_ret (v := .tuple #[.agg #[.slice x.a0 x.s.se.length x.c0, .slice a1 R x.c1, .slice lo M d, .slice ko K e, .int .i64 x.s.rf, .int .i64 x.s.ff, .int .i64 a, .int .i64 x.s.cf, .int .i64 c], .int .i64 0]) (by simp [results, Try.results19, go_sem, y0, y1, y2, y3, y4, y5, y6, y7, y8]) rfl F.out
  · have e : r = (Grain.szero, E) := by rw [HR.out, Grain.sroll, show Grain.wrongAt x.s tt = E by rw [Grain.wrongAt, ← HE.out, if_pos hw], if_pos hw]
    have hne : (E != 0) = true := by simpa using hw
    go_wp2
    exact bodyPost_ret (v := .tuple #[.agg #[.slice none 0 0, .slice none 0 0, .slice none 0 0, .slice none 0 0, .int .i64 0, .int .i64 0, .int .i64 0, .int .i64 0, .int .i64 0], .int .i64 E]) (by simp [results, Try.results19, go_sem, z0, z1, z2, z3, z4, z5, z6, z7, z8]) rfl (rpost_no e (below_set9 bel1 (by omega) _ _ _ _ _ _ _ _ _))

end Go.Proofs.Ytfgablhgjbjbkae

/-
  The walk of ShelfTells.
-/
namespace Grain

theorem sapp_small (s : Shf) (t v : Int) : (sapp s t v).1.fi.length ≤ 1000000 ∧ (sapp s t v).1.co.length ≤ 1000000 := by
  unfold sapp
  by_cases h : swrong s = 0
  · have sr := (sr_iff s).1 h
    have h1 := sr.flen
    have h2 := sr.clen
    rw [if_neg (by simp [h])]
    split
    · exact ⟨by simp [szero], by simp [szero]⟩
    · split
      · exact ⟨by simp [szero], by simp [szero]⟩
      · split
        · exact ⟨by simp [szero], by simp [szero]⟩
        · exact ⟨by show s.fi.length ≤ _; omega, by show s.co.length ≤ _; omega⟩
  · rw [if_pos h]; exact ⟨by simp [szero], by simp [szero]⟩

theorem sroll_small (s : Shf) (t : Int) : (sroll s t).1.fi.length ≤ 1000000 ∧ (sroll s t).1.co.length ≤ 1000000 := by
  unfold sroll
  split
  · exact ⟨by simp [szero], by simp [szero]⟩
  · split
    · exact ⟨by simp [szero], by simp [szero]⟩
    · split
      · exact ⟨by simp [szero], by simp [szero]⟩
      · exact ⟨by show (nfi s t).length ≤ _; omega, by show (nco s t).length ≤ _; omega⟩

theorem sforg_small (s : Shf) (k t : Int) : (sforg s k t).1.fi.length ≤ 1000000 ∧ (sforg s k t).1.co.length ≤ 1000000 := by
  unfold sforg
  by_cases h : wrongAt s t = 0
  · have sr := (wrongAt_zero h).1
    have h1 := sr.flen
    have h2 := sr.clen
    rw [if_neg (by simp [h])]
    split
    · exact ⟨by show s.fi.length ≤ _; omega, by show s.co.length ≤ _; omega⟩
    · split
      · exact ⟨by show (s.fi.filter _).length ≤ _; have := List.length_filter_le (fun b => decide (nff s t ≤ b.a)) s.fi; omega, by show s.co.length ≤ _; omega⟩
      · split
        · exact ⟨by show s.fi.length ≤ _; omega, by show (s.co.filter _).length ≤ _; have := List.length_filter_le (fun b => decide (ncf s t ≤ b.a)) s.co; omega⟩
        · exact ⟨by simp [szero], by simp [szero]⟩
  · rw [if_pos h]; exact ⟨by simp [szero], by simp [szero]⟩

end Grain
namespace Go.Proofs.Ytfgablhgjbjbkae
open Go.RowKit Go.GrainU

theorem set9_far_s {w : World} {B k : Nat} (h : k ≠ B) (v0 v1 v2 v3 v4 v5 v6 v7 v8 : Value) : (Set9 w B v0 v1 v2 v3 v4 v5 v6 v7 v8).heap[k]? = w.heap[k]? := by
  unfold Set9
  rw [setCell_far h, setCell_far h, setCell_far h, setCell_far h, setCell_far h, setCell_far h, setCell_far h, setCell_far h, setCell_far h]

theorem set9_size_s (w : World) (B : Nat) (v0 v1 v2 v3 v4 v5 v6 v7 v8 : Value) : (Set9 w B v0 v1 v2 v3 v4 v5 v6 v7 v8).heap.size = w.heap.size := by unfold Set9; simp

theorem set9_so {w : World} {B : Nat} {z : ShT} (h : w.heap[B]? = some (so z)) (y : ShT) : (Set9 w B (.slice y.a0 y.s.se.length y.c0) (.slice y.a1 y.s.ra.length y.c1) (.slice y.a2 y.s.fi.length y.c2) (.slice y.a3 y.s.co.length y.c3) (.int .i64 y.s.rf) (.int .i64 y.s.ff) (.int .i64 y.s.ft) (.int .i64 y.s.cf) (.int .i64 y.s.ct)).heap[B]? = some (so y) := by
  unfold so at h ⊢
  unfold Set9
  simp [World.setCell, Array.getElem?_modify, h]

/-- where a shelf's rows lie -/
def Ls (X b : Nat) (y : ShT) : Prop := (lcells y.s.se ≠ [] → ∀ k off, y.a0 = some ⟨k, off, none⟩ → k < X ∨ b ≤ k) ∧ (scells y.s.ra ≠ [] → ∀ k off, y.a1 = some ⟨k, off, none⟩ → k < X ∨ b ≤ k) ∧ (kcells y.s.fi ≠ [] → ∀ k off, y.a2 = some ⟨k, off, none⟩ → k < X ∨ b ≤ k) ∧ (kcells y.s.co ≠ [] → ∀ k off, y.a3 = some ⟨k, off, none⟩ → k < X ∨ b ≤ k)

theorem seg_lt9 {w : World} {ao : Option Addr} {xs : List Value} (h : Seg w ao xs) (hx : xs ≠ []) {k off : Nat} (e : ao = some ⟨k, off, none⟩) : k < w.heap.size := by
  rcases h with h | ⟨b', o', e', h⟩
  · exact absurd h hx
  · rw [e] at e'
    injection e' with e'
    injection e' with e1 e2
    cases xs with
    | nil => exact absurd rfl hx
    | cons x r =>
      have h0 := h 0 (by simp)
      simp only [Nat.add_zero, List.getElem?_cons_zero] at h0
      rw [e1]
      exact World.block_lt_of_cell? w ⟨b', o', none⟩ h0

theorem ShO.ls {X b : Nat} {w : World} {y : ShT} (h : ShO b w y) : Ls X b y :=
  ⟨fun _ k off e => .inr (h.o0.lt k (by rw [e]; rfl)).1, fun _ k off e => .inr (h.o1.lt k (by rw [e]; rfl)).1, fun _ k off e => .inr (h.o2.lt k (by rw [e]; rfl)).1, fun _ k off e => .inr (h.o3.lt k (by rw [e]; rfl)).1⟩

theorem Apt.ls {w : World} {b : Nat} {x y : ShT} (hx : ShIn w x) (h : Apt b x y) : Ls w.heap.size b y := by
  obtain ⟨h0, h1, h2, h3⟩ := h
  refine ⟨fun ne k off e => ?_, fun ne k off e => ?_, fun ne k off e => ?_, fun ne k off e => ?_⟩
  · rcases h0 with ⟨q1, q2⟩ | q
    · exact .inl (seg_lt9 hx.g0 (by rw [← q2]; exact ne) (q1.symm.trans e))
    · exact .inr (q k off e)
  · rcases h1 with ⟨q1, q2⟩ | q
    · exact .inl (seg_lt9 hx.g1 (by rw [← q2]; exact ne) (q1.symm.trans e))
    · exact .inr (q k off e)
  · rcases h2 with ⟨q1, q2⟩ | q
    · exact .inl (seg_lt9 hx.g2 (by rw [← q2]; exact ne) (q1.symm.trans e))
    · exact .inr (q k off e)
  · rcases h3 with ⟨q1, q2⟩ | q
    · exact .inl (seg_lt9 hx.g3 (by rw [← q2]; exact ne) (q1.symm.trans e))
    · exact .inr (q k off e)

theorem seg_set9_s {w : World} {B : Nat} {ao : Option Addr} {xs : List Value} (h : Seg w ao xs) (hne : xs ≠ [] → ∀ k off, ao = some ⟨k, off, none⟩ → k ≠ B) (v0 v1 v2 v3 v4 v5 v6 v7 v8 : Value) : Seg (Set9 w B v0 v1 v2 v3 v4 v5 v6 v7 v8) ao xs := by
  rcases h with h | ⟨b, off, rfl, h⟩
  · exact .inl h
  · cases xs with
    | nil => exact .inl rfl
    | cons x r => exact .inr ⟨b, off, rfl, fun j hj => by rw [← h j hj]; simp [World.cell?, set9_far_s (hne (by simp) b off rfl)]⟩

theorem shin_set9_s {w : World} {y : ShT} {X b B : Nat} (h : ShIn w y) (l : Ls X b y) (h1 : X ≤ B) (h2 : B < b) (v0 v1 v2 v3 v4 v5 v6 v7 v8 : Value) : ShIn (Set9 w B v0 v1 v2 v3 v4 v5 v6 v7 v8) y :=
  ⟨seg_set9_s h.g0 (fun ne k off e => by have := l.1 ne k off e; omega) _ _ _ _ _ _ _ _ _, seg_set9_s h.g1 (fun ne k off e => by have := l.2.1 ne k off e; omega) _ _ _ _ _ _ _ _ _, seg_set9_s h.g2 (fun ne k off e => by have := l.2.2.1 ne k off e; omega) _ _ _ _ _ _ _ _ _, seg_set9_s h.g3 (fun ne k off e => by have := l.2.2.2 ne k off e; omega) _ _ _ _ _ _ _ _ _, h.fits, h.n0, h.n1, h.n2, h.n3, h.z0, h.z1, h.z2, h.z3⟩

set_option maxRecDepth 20000 in
set_option maxHeartbeats 8000000 in
theorem stells_any (x : ShT) (t v tier tt : Int) (w : World) (hx : ShIn w x) :
    Calls Try.prog 4 #[x.v, .agg #[.int .i64 t, .int .i64 v], .int .i64 tier, .int .i64 tt] w fun e w' => e = .returned (.bool true) ∧ Below w.heap.size w w' := by
  obtain ⟨X, hX⟩ : ∃ X, X = w.heap.size := ⟨_, rfl⟩
  obtain ⟨V, hV⟩ : ∃ V, V = (w.alloc (.cells #[.slice x.a0 x.s.se.length x.c0, .slice x.a1 x.s.ra.length x.c1, .slice x.a2 x.s.fi.length x.c2, .slice x.a3 x.s.co.length x.c3, .int .i64 x.s.rf, .int .i64 x.s.ff, .int .i64 x.s.ft, .int .i64 x.s.cf, .int .i64 x.s.ct] 44)).alloc (.cells #[.int .i64 t, .int .i64 v] 35) := ⟨_, rfl⟩
  have bel : Below w.heap.size w V := by rw [hV]; exact ((Below.refl _ _).alloc (Nat.le_refl _) _).alloc (by simp) _
  have B0 : V.heap[X]? = some (so x) := by rw [hV, hX, Below.heap_alloc _ _ _ (by simp)]; exact heap_alloc_new w _
  have S0 : V.heap[X + 1]? = some (.cells #[.int .i64 t, .int .i64 v] 35 (0, 0)) := by
    have := heap_alloc_new (w.alloc (.cells #[.slice x.a0 x.s.se.length x.c0, .slice x.a1 x.s.ra.length x.c1, .slice x.a2 x.s.fi.length x.c2, .slice x.a3 x.s.co.length x.c3, .int .i64 x.s.rf, .int .i64 x.s.ff, .int .i64 x.s.ft, .int .i64 x.s.cf, .int .i64 x.s.ct] 44)) (.cells #[.int .i64 t, .int .i64 v] 35)
    rw [hV, hX]; simpa using this
  have hVs : V.heap.size = X + 1 + 1 := by rw [hV, hX]; simp
  have inx := hx.below bel
  obtain ⟨zt, hzt⟩ : ∃ zt : ShT, zt = ⟨{ Grain.szero with se := x.s.se }, x.a0, x.c0, none, 0, none, 0, none, 0⟩ := ⟨_, rfl⟩
  have hzin : ∀ u : World, ShIn u x → ShIn u zt := fun u h => by
    rw [hzt]
    exact ⟨h.g0, .inl rfl, .inl rfl, .inl rfl, h.fits, h.n0, by simp [Grain.szero], by simp [Grain.szero], by simp [Grain.szero], h.z0, fun _ => ⟨rfl, rfl⟩, fun _ => ⟨rfl, rfl⟩, fun _ => ⟨rfl, rfl⟩⟩
  obtain ⟨E, hE⟩ : ∃ E, E = Grain.swrong x.s := ⟨_, rfl⟩
  have HA := hide (fun (u : World) (hb : Below V.heap.size V u) => swrong_any x u (inx.below hb))
  have HB := hide (fun (u : World) (hb : Below V.heap.size V u) => rshwrong_any x u (inx.below hb))
  have HC := hide (fun (u : World) (hb : Below V.heap.size V u) => snew_any x.s.se x.a0 x.s.se.length x.c0 u (inx.below hb).g0 rfl inx.fits inx.n0 inx.z0)
  have HD := hide (fun (y : ShT) (hy : y.s = { Grain.szero with se := x.s.se }) (u : World) (hi : ShIn u y) (hb : Below V.heap.size V u) => ssame_any y zt u hi (hzin u (inx.below hb)) (by rw [hzt, hy]) (by rw [hy]; simp [Grain.szero]) (by rw [hy]; simp [Grain.szero]))
  have hzv : zt.v = .agg #[.slice x.a0 x.s.se.length x.c0, .slice none 0 0, .slice none 0 0, .slice none 0 0, .int .i64 0, .int .i64 0, .int .i64 0, .int .i64 0, .int .i64 0] := by rw [hzt]; rfl
  rw [hzv] at HD
  rw [← hE] at HA HB
  have HS : Hid (∀ w', Below V.heap.size V w' → w'.cell? ⟨X, 0, none⟩ = some (.slice x.a0 x.s.se.length x.c0) ∧ w'.cell? ⟨X, 1, none⟩ = some (.slice x.a1 x.s.ra.length x.c1) ∧ w'.cell? ⟨X, 2, none⟩ = some (.slice x.a2 x.s.fi.length x.c2) ∧ w'.cell? ⟨X, 3, none⟩ = some (.slice x.a3 x.s.co.length x.c3) ∧ w'.cell? ⟨X, 4, none⟩ = some (.int .i64 x.s.rf) ∧ w'.cell? ⟨X, 5, none⟩ = some (.int .i64 x.s.ff) ∧ w'.cell? ⟨X, 6, none⟩ = some (.int .i64 x.s.ft) ∧ w'.cell? ⟨X, 7, none⟩ = some (.int .i64 x.s.cf) ∧ w'.cell? ⟨X, 8, none⟩ = some (.int .i64 x.s.ct)) := fun w' hb => nine_cells (below_block hb B0)
  have R0 : Below V.heap.size V V := Below.refl _ _
  have R1 : Below V.heap.size V V.drew := below_drewN (Below.refl _ _) 1
  have hbb : (E != E) = false := by simp
  have HV := hide hV
  have HX := hide hX
  have HB0 := hide B0
  have HS0 := hide S0
  have HIX := hide inx
  have HXW := hide hx
  have HBEL := hide bel
  simp only [ShT.v] at HA HB HC HD ⊢
  clear hV hX hx bel B0 S0 inx hE hzin hzt hzv
  go_enter Try.func4, Try.ntmps4
  go_upto_region 1 with fail
  rw [← HV.out, ← HX.out]
  go_cut [27] from 13 to 28 (fun v wx => v = .bool false ∧ Below V.heap.size V wx)
  case first =>
    go_region_held3 (fun w' => w'.cell? ⟨X, 0, none⟩ = some (.slice x.a0 x.s.se.length x.c0) ∧ w'.cell? ⟨X, 1, none⟩ = some (.slice x.a1 x.s.ra.length x.c1) ∧ w'.cell? ⟨X, 2, none⟩ = some (.slice x.a2 x.s.fi.length x.c2) ∧ w'.cell? ⟨X, 3, none⟩ = some (.slice x.a3 x.s.co.length x.c3) ∧ w'.cell? ⟨X, 4, none⟩ = some (.int .i64 x.s.rf) ∧ w'.cell? ⟨X, 5, none⟩ = some (.int .i64 x.s.ff) ∧ w'.cell? ⟨X, 6, none⟩ = some (.int .i64 x.s.ft) ∧ w'.cell? ⟨X, 7, none⟩ = some (.int .i64 x.s.cf) ∧ w'.cell? ⟨X, 8, none⟩ = some (.int .i64 x.s.ct)) (exact HS.out _ (by assumption))
      (first
        | (go_at_call 12; refine (HA.out _ (by assumption)).mono ?_; rintro e w8 ⟨rfl, hb8⟩; have R2 := below_pl hb8 (by assumption))
        | (go_at_call 13; refine (HB.out _ (by assumption)).mono ?_; rintro e w9 ⟨rfl, hb9⟩; have R3 := below_pl hb9 (by assumption))
        | (go_at_call 15; refine (HC.out _ (by assumption)).mono ?_; rintro e wn ⟨yn, rfl, hyn, own, hbn⟩; have HYN := hide hyn; clear hyn; have R4 := below_pl hbn (by assumption); have inn := own.shIn)
        | (go_at_call 14; refine (HD.out yn HYN.out _ inn (by assumption)).mono ?_; rintro e wm ⟨rfl, hbm⟩; have R5 := below_pl hbm (by assumption)))
    all_goals
      go_wp2
      go_meet
      refine ⟨?_, by assumption⟩
      first | rfl | simp
  case rest =>
  obtain ⟨rfl, R2⟩ := hcut
  obtain ⟨w2, hw2⟩ : ∃ w2, w2 = wc := ⟨_, rfl⟩
  rw [← hw2] at R2 ⊢
  have HW2 := hide hw2
  clear hw2 R0 R1 HA HB HC HD HS
  have bel2 : Below w.heap.size w w2 := HBEL.out.trans (R2.mono HBEL.out.size)
  have Fx := below_block R2 HB0.out
  have Sx := below_block R2 HS0.out
  have inx := HIX.out.below R2
  obtain ⟨b0, b1, b2, b3, b4, b5, b6, b7, b8⟩ := nine_cells Fx
  obtain ⟨s0, s1, _, _⟩ := two_cells Sx
  have h2s := R2.size
  go_wp2_with fail
  have CA := hide (sapp_any x t v w2 inx)
  have CR := hide (fun (u : World) (hi : ShIn u x) => rapp_any x t v u hi)
  have SM := hide (Grain.sapp_small x.s t v)
  obtain ⟨r, hr⟩ : ∃ r, r = Grain.sapp x.s t v := ⟨_, rfl⟩
  rw [← hr] at CA CR SM
  obtain ⟨q, hq⟩ : ∃ q, q = r.2 := ⟨_, rfl⟩
  unfold ShPost at CA
  unfold RPost at CR
  rw [← hq] at CA CR
  have hqq : (q != q) = false := by simp
  simp only [ShT.v] at CA CR
  clear hr hq
  refine CA.out.mono ?_
  rintro e w3 ⟨y, rfl, hy0, own, hb3⟩
  have hy := hide hy0
  clear hy0
  have R3 := below_pl hb3 R2
  obtain ⟨A, hA⟩ : ∃ A, A = w3.heap.size := ⟨_, rfl⟩
  have hA2 : w2.heap.size ≤ A := by have := hb3.size; omega
  obtain ⟨w4, hw4⟩ : ∃ v, v = w3.alloc (.cells #[.slice y.a0 y.s.se.length y.c0, .slice y.a1 y.s.ra.length y.c1, .slice y.a2 y.s.fi.length y.c2, .slice y.a3 y.s.co.length y.c3, .int .i64 y.s.rf, .int .i64 y.s.ff, .int .i64 y.s.ft, .int .i64 y.s.cf, .int .i64 y.s.ct] 44) := ⟨_, rfl⟩
  have b4' : Below w3.heap.size w3 w4 := by rw [hw4]; exact (Below.refl _ _).alloc (Nat.le_refl _) _
  have FA : w4.heap[A]? = some (so y) := by rw [hw4, hA]; exact heap_alloc_new w3 _
  have R4 := below_pl b4' R3
  have iny := own.shIn.below b4'
  clear b0 b1 b2 b3 b4 b5 b6 b7 b8 s0 s1
  have Fx4 := below_block R4 HB0.out
  have Sx4 := below_block R4 HS0.out
  have Fx3 := below_block hb3 Fx
  have Sx3 := below_block hb3 Sx
  obtain ⟨b0, b1, b2, b3, b4, b5, b6, b7, b8⟩ := nine_cells Fx3
  obtain ⟨s0, s1, _, _⟩ := two_cells Sx3
  have lX3 : X < w3.heap.size := lt_of_block Fx3
  have lY3 : X + 1 < w3.heap.size := lt_of_block Sx3
  have HW4 := hide hw4
  have HA := hide hA
  clear hw4 hA Fx Sx inx Fx4 Sx4 Fx3 Sx3
  have hs4 := b4'.size
  have hA4 : A < w4.heap.size := lt_of_block FA
  go_wp2_with fail
  rw [← HW4.out, ← HA.out]
  refine (CR.out w4 (HIX.out.below R4)).mono ?_
  rintro e w5 ⟨z, rfl, hz0, inz, apz, hb5⟩
  have hz := hide hz0
  clear hz0
  have R5 := below_pl hb5 R4
  obtain ⟨B, hB⟩ : ∃ B, B = w5.heap.size := ⟨_, rfl⟩
  have hB4 : w4.heap.size ≤ B := by have := hb5.size; omega
  obtain ⟨w6, hw6⟩ : ∃ v, v = w5.alloc (.cells #[.slice z.a0 z.s.se.length z.c0, .slice z.a1 z.s.ra.length z.c1, .slice z.a2 z.s.fi.length z.c2, .slice z.a3 z.s.co.length z.c3, .int .i64 z.s.rf, .int .i64 z.s.ff, .int .i64 z.s.ft, .int .i64 z.s.cf, .int .i64 z.s.ct] 44) := ⟨_, rfl⟩
  have b6' : Below w5.heap.size w5 w6 := by rw [hw6]; exact (Below.refl _ _).alloc (Nat.le_refl _) _
  have FB : w6.heap[B]? = some (so z) := by rw [hw6, hB]; exact heap_alloc_new w5 _
  have R6 := below_pl b6' R5
  have FA6 := below_block b6' (below_block hb5 FA)
  have iny6 := (iny.below hb5).below b6'
  have inz6 := inz.below b6'
  have HSM := hide (ssame_any y z w6 iny6 inz6 (by rw [hy.out, hz.out]) (by rw [hy.out]; exact SM.out.1) (by rw [hy.out]; exact SM.out.2))
  simp only [ShT.v] at HSM
  clear b0 b1 b2 b3 b4 b5 b6 b7 b8 s0 s1
  have FA6' := FA6
  have FB' := FB
  rw [hw6] at FA6' FB'
  rw [hB] at FB'
  obtain ⟨a0, a1, a2, a3, a4, a5, a6, a7, a8⟩ := nine_cells FA6'
  obtain ⟨e0, e1, e2, e3, e4, e5, e6, e7, e8⟩ := nine_cells FB'
  have HW6 := hide hw6
  have HB := hide hB
  have hB6 : B < w6.heap.size := lt_of_block FB
  clear hw6 hB CA CR SM hy hz own inz apz iny FA FA6' FB' hb3 hb5 b4' b6' R3 R4 R5
  go_wp2_with fail
  rw [← HB.out, ← HW6.out]
  refine HSM.out.mono ?_
  rintro e w7 ⟨rfl, hb7⟩
  have R7 := below_pl hb7 R6
  have FA7 := below_block hb7 FA6
  have FB7 := below_block hb7 FB
  have bw7 : Below w.heap.size w w7 := HBEL.out.trans (R7.mono HBEL.out.size)
  have hs7 := hb7.size
  have hXw1 : X ≤ w.heap.size := Nat.le_of_eq HX.out
  have hXw2 : w.heap.size ≤ X := Nat.le_of_eq HX.out.symm
  clear a0 a1 a2 a3 a4 a5 a6 a7 a8 e0 e1 e2 e3 e4 e5 e6 e7 e8 HSM hb7 R6 FA6 FB iny6 inz6 hqq
  have Fx7 := below_block R7 HB0.out
  obtain ⟨b0, b1, b2, b3, b4, b5, b6, b7, b8⟩ := nine_cells Fx7
  have CA := hide (sroll_any x tt w7 (HXW.out.below bw7))
  have CR := hide (fun (u : World) (hi : ShIn u x) => rroll_any x tt u hi)
  have SM := hide (Grain.sroll_small x.s tt)
  obtain ⟨r, hr⟩ : ∃ r, r = Grain.sroll x.s tt := ⟨_, rfl⟩
  rw [← hr] at CA CR SM
  obtain ⟨q, hq⟩ : ∃ q, q = r.2 := ⟨_, rfl⟩
  unfold ShPost at CA
  unfold RPost at CR
  rw [← hq] at CA CR
  have hqq : (q != q) = false := by simp
  have hqe : (q == q) = true := by simp
  simp only [ShT.v] at CA CR
  clear hr hq
  go_wp2_with fail
  refine CA.out.mono ?_
  rintro e w8a ⟨y8, rfl, hy0, own, hba⟩
  have hy := hide hy0
  clear hy0
  have Ra : Below w.heap.size w w8a := bw7.trans (hba.mono bw7.size)
  have FAa := below_block hba FA7
  have FBa := below_block hba FB7
  have Fxa := below_block hba Fx7
  have lsy : Ls X w7.heap.size y8 := own.ls
  have inya := own.shIn
  obtain ⟨a0, a1, a2, a3, a4, a5, a6, a7, a8⟩ := nine_cells FAa
  obtain ⟨f0, f1, f2, f3, f4, f5, f6, f7, f8⟩ := so_free FAa
  obtain ⟨w8b, hwb⟩ : ∃ v, v = Set9 w8a A (.slice y8.a0 y8.s.se.length y8.c0) (.slice y8.a1 y8.s.ra.length y8.c1) (.slice y8.a2 y8.s.fi.length y8.c2) (.slice y8.a3 y8.s.co.length y8.c3) (.int .i64 y8.s.rf) (.int .i64 y8.s.ff) (.int .i64 y8.s.ft) (.int .i64 y8.s.cf) (.int .i64 y8.s.ct) := ⟨_, rfl⟩
  have hsb : w8b.heap.size = w8a.heap.size := by rw [hwb, set9_size_s]
  have FAb : w8b.heap[A]? = some (so y8) := by rw [hwb]; exact set9_so FAa _
  have FBb : w8b.heap[B]? = some (so z) := by rw [hwb, set9_far_s (by omega)]; exact FBa
  have Fxb : w8b.heap[X]? = some (so x) := by rw [hwb, set9_far_s (by omega)]; exact Fxa
  have inyb : ShIn w8b y8 := by rw [hwb]; exact shin_set9_s inya lsy (by omega) (by omega) _ _ _ _ _ _ _ _ _
  have bwb : Below w.heap.size w w8b := by rw [hwb]; exact below_set9 Ra (by omega) _ _ _ _ _ _ _ _ _
  have inxb : ShIn w8b x := HXW.out.below bwb
  have hsa := hba.size
  have Fxb' := Fxb
  rw [hwb] at Fxb'
  unfold Set9 at Fxb'
  clear b0 b1 b2 b3 b4 b5 b6 b7 b8
  obtain ⟨b0, b1, b2, b3, b4, b5, b6, b7, b8⟩ := nine_cells Fxb'
  have HWB := hide hwb
  unfold Set9 at HWB
  clear hwb Fxb' CA own inya Ra FAa FBa Fxa FA7 FB7 Fx7 hba
  go_wp2_with fail
  rw [← HWB.out]
  refine (CR.out w8b inxb).mono ?_
  rintro e w8c ⟨z8, rfl, hz0, inzc, apz, hbc⟩
  have hz := hide hz0
  clear hz0
  have lsz : Ls X w8b.heap.size z8 := by have := Apt.ls HXW.out apz; rw [← HX.out] at this; exact this
  have FAc := below_block hbc FAb
  have FBc := below_block hbc FBb
  have Fxc := below_block hbc Fxb
  have inyc := inyb.below hbc
  clear a0 a1 a2 a3 a4 a5 a6 a7 a8 f0 f1 f2 f3 f4 f5 f6 f7 f8 b0 b1 b2 b3 b4 b5 b6 b7 b8
  obtain ⟨a0, a1, a2, a3, a4, a5, a6, a7, a8⟩ := nine_cells FBc
  obtain ⟨f0, f1, f2, f3, f4, f5, f6, f7, f8⟩ := so_free FBc
  obtain ⟨w8d, hwd⟩ : ∃ v, v = Set9 w8c B (.slice z8.a0 z8.s.se.length z8.c0) (.slice z8.a1 z8.s.ra.length z8.c1) (.slice z8.a2 z8.s.fi.length z8.c2) (.slice z8.a3 z8.s.co.length z8.c3) (.int .i64 z8.s.rf) (.int .i64 z8.s.ff) (.int .i64 z8.s.ft) (.int .i64 z8.s.cf) (.int .i64 z8.s.ct) := ⟨_, rfl⟩
  have hsd : w8d.heap.size = w8c.heap.size := by rw [hwd, set9_size_s]
  have FBd : w8d.heap[B]? = some (so z8) := by rw [hwd]; exact set9_so FBc _
  have FAd : w8d.heap[A]? = some (so y8) := by rw [hwd, set9_far_s (by omega)]; exact FAc
  have Fxd : w8d.heap[X]? = some (so x) := by rw [hwd, set9_far_s (by omega)]; exact Fxc
  have inyd : ShIn w8d y8 := by rw [hwd]; exact shin_set9_s inyc lsy (by omega) (by omega) _ _ _ _ _ _ _ _ _
  have inzd : ShIn w8d z8 := by rw [hwd]; exact shin_set9_s inzc lsz (by omega) (by omega) _ _ _ _ _ _ _ _ _
  have hsc := hbc.size
  have bwd : Below w.heap.size w w8d := by rw [hwd]; exact below_set9 (bwb.trans (hbc.mono bwb.size)) (by omega) _ _ _ _ _ _ _ _ _
  have HSM := hide (ssame_any y8 z8 w8d inyd inzd (by rw [hy.out, hz.out]) (by rw [hy.out]; exact SM.out.1) (by rw [hy.out]; exact SM.out.2))
  simp only [ShT.v] at HSM
  have FAd' := FAd
  have FBd' := FBd
  rw [hwd] at FAd' FBd'
  unfold Set9 at FAd' FBd'
  obtain ⟨c0, c1, c2, c3, c4, c5, c6, c7, c8⟩ := nine_cells FAd'
  obtain ⟨d0, d1, d2, d3, d4, d5, d6, d7, d8⟩ := nine_cells FBd'
  have HWD := hide hwd
  unfold Set9 at HWD
  clear hwd FAd' FBd' CR SM hy hz inzc apz lsy lsz FAc FBc Fxc inyc inyb inxb FAb FBb Fxb hbc inyd inzd bwb HWB
  go_wp2_with fail
  rw [← HWD.out]
  refine HSM.out.mono ?_
  rintro e w8e ⟨rfl, hbe⟩
  have hse := hbe.size
  have FA8e := below_block hbe FAd
  have FB8e := below_block hbe FBd
  have Fx8e := below_block hbe Fxd
  have bw8e : Below w.heap.size w w8e := bwd.trans (hbe.mono bwd.size)
  clear a0 a1 a2 a3 a4 a5 a6 a7 a8 f0 f1 f2 f3 f4 f5 f6 f7 f8 c0 c1 c2 c3 c4 c5 c6 c7 c8 d0 d1 d2 d3 d4 d5 d6 d7 d8 HSM hbe bwd FAd FBd Fxd HWD hqq hqe
  obtain ⟨b0, b1, b2, b3, b4, b5, b6, b7, b8⟩ := nine_cells Fx8e
  have CA := hide (sforg_any x tier tt w8e (HXW.out.below bw8e))
  have CR := hide (fun (u : World) (hi : ShIn u x) => rforg_any x tier tt u hi)
  have SM := hide (Grain.sforg_small x.s tier tt)
  obtain ⟨r, hr⟩ : ∃ r, r = Grain.sforg x.s tier tt := ⟨_, rfl⟩
  rw [← hr] at CA CR SM
  obtain ⟨q, hq⟩ : ∃ q, q = r.2 := ⟨_, rfl⟩
  unfold ShPost at CA
  unfold RPost at CR
  rw [← hq] at CA CR
  have hqq : (q != q) = false := by simp
  have hqe : (q == q) = true := by simp
  simp only [ShT.v] at CA CR
  clear hr hq
  go_wp2_with fail
  refine CA.out.mono ?_
  rintro e w9a ⟨y9, rfl, hy0, own, hba⟩
  have hy := hide hy0
  clear hy0
  have Ra : Below w.heap.size w w9a := bw8e.trans (hba.mono bw8e.size)
  have FAa := below_block hba FA8e
  have FBa := below_block hba FB8e
  have Fxa := below_block hba Fx8e
  have lsy : Ls X w8e.heap.size y9 := own.ls
  have inya := own.shIn
  obtain ⟨a0, a1, a2, a3, a4, a5, a6, a7, a8⟩ := nine_cells FAa
  obtain ⟨f0, f1, f2, f3, f4, f5, f6, f7, f8⟩ := so_free FAa
  obtain ⟨w9b, hwb⟩ : ∃ v, v = Set9 w9a A (.slice y9.a0 y9.s.se.length y9.c0) (.slice y9.a1 y9.s.ra.length y9.c1) (.slice y9.a2 y9.s.fi.length y9.c2) (.slice y9.a3 y9.s.co.length y9.c3) (.int .i64 y9.s.rf) (.int .i64 y9.s.ff) (.int .i64 y9.s.ft) (.int .i64 y9.s.cf) (.int .i64 y9.s.ct) := ⟨_, rfl⟩
  have hsb : w9b.heap.size = w9a.heap.size := by rw [hwb, set9_size_s]
  have FAb : w9b.heap[A]? = some (so y9) := by rw [hwb]; exact set9_so FAa _
  have FBb : w9b.heap[B]? = some (so z8) := by rw [hwb, set9_far_s (by omega)]; exact FBa
  have Fxb : w9b.heap[X]? = some (so x) := by rw [hwb, set9_far_s (by omega)]; exact Fxa
  have inyb : ShIn w9b y9 := by rw [hwb]; exact shin_set9_s inya lsy (by omega) (by omega) _ _ _ _ _ _ _ _ _
  have bwb : Below w.heap.size w w9b := by rw [hwb]; exact below_set9 Ra (by omega) _ _ _ _ _ _ _ _ _
  have inxb : ShIn w9b x := HXW.out.below bwb
  have hsa := hba.size
  have Fxb' := Fxb
  rw [hwb] at Fxb'
  unfold Set9 at Fxb'
  clear b0 b1 b2 b3 b4 b5 b6 b7 b8
  obtain ⟨b0, b1, b2, b3, b4, b5, b6, b7, b8⟩ := nine_cells Fxb'
  have HWB := hide hwb
  unfold Set9 at HWB
  clear hwb Fxb' CA own inya Ra FAa FBa Fxa FA8e FB8e Fx8e hba
  go_wp2_with fail
  rw [← HWB.out]
  refine (CR.out w9b inxb).mono ?_
  rintro e w9c ⟨z9, rfl, hz0, inzc, apz, hbc⟩
  have hz := hide hz0
  clear hz0
  have lsz : Ls X w9b.heap.size z9 := by have := Apt.ls HXW.out apz; rw [← HX.out] at this; exact this
  have FAc := below_block hbc FAb
  have FBc := below_block hbc FBb
  have Fxc := below_block hbc Fxb
  have inyc := inyb.below hbc
  clear a0 a1 a2 a3 a4 a5 a6 a7 a8 f0 f1 f2 f3 f4 f5 f6 f7 f8 b0 b1 b2 b3 b4 b5 b6 b7 b8
  obtain ⟨a0, a1, a2, a3, a4, a5, a6, a7, a8⟩ := nine_cells FBc
  obtain ⟨f0, f1, f2, f3, f4, f5, f6, f7, f8⟩ := so_free FBc
  obtain ⟨w9d, hwd⟩ : ∃ v, v = Set9 w9c B (.slice z9.a0 z9.s.se.length z9.c0) (.slice z9.a1 z9.s.ra.length z9.c1) (.slice z9.a2 z9.s.fi.length z9.c2) (.slice z9.a3 z9.s.co.length z9.c3) (.int .i64 z9.s.rf) (.int .i64 z9.s.ff) (.int .i64 z9.s.ft) (.int .i64 z9.s.cf) (.int .i64 z9.s.ct) := ⟨_, rfl⟩
  have hsd : w9d.heap.size = w9c.heap.size := by rw [hwd, set9_size_s]
  have FBd : w9d.heap[B]? = some (so z9) := by rw [hwd]; exact set9_so FBc _
  have FAd : w9d.heap[A]? = some (so y9) := by rw [hwd, set9_far_s (by omega)]; exact FAc
  have Fxd : w9d.heap[X]? = some (so x) := by rw [hwd, set9_far_s (by omega)]; exact Fxc
  have inyd : ShIn w9d y9 := by rw [hwd]; exact shin_set9_s inyc lsy (by omega) (by omega) _ _ _ _ _ _ _ _ _
  have inzd : ShIn w9d z9 := by rw [hwd]; exact shin_set9_s inzc lsz (by omega) (by omega) _ _ _ _ _ _ _ _ _
  have hsc := hbc.size
  have bwd : Below w.heap.size w w9d := by rw [hwd]; exact below_set9 (bwb.trans (hbc.mono bwb.size)) (by omega) _ _ _ _ _ _ _ _ _
  have HSM := hide (ssame_any y9 z9 w9d inyd inzd (by rw [hy.out, hz.out]) (by rw [hy.out]; exact SM.out.1) (by rw [hy.out]; exact SM.out.2))
  simp only [ShT.v] at HSM
  have FAd' := FAd
  have FBd' := FBd
  rw [hwd] at FAd' FBd'
  unfold Set9 at FAd' FBd'
  obtain ⟨c0, c1, c2, c3, c4, c5, c6, c7, c8⟩ := nine_cells FAd'
  obtain ⟨d0, d1, d2, d3, d4, d5, d6, d7, d8⟩ := nine_cells FBd'
  have HWD := hide hwd
  unfold Set9 at HWD
  clear hwd FAd' FBd' CR SM hy hz inzc apz lsy lsz FAc FBc Fxc inyc inyb inxb FAb FBb Fxb hbc inyd inzd bwb HWB
  go_wp2_with fail
  rw [← HWD.out]
  refine HSM.out.mono ?_
  rintro e w9e ⟨rfl, hbe⟩
  go_wp2_with fail
  go_ret
  exact ⟨rfl, bwd.trans (hbe.mono bwd.size)⟩

end Go.Proofs.Ytfgablhgjbjbkae

/-
  For every input, ShelfTells returns true: New, Wrong, Append, Roll and Forget tell what is wrong with any shelf, and what comes of it, as the document's answer does. No condition.
-/
namespace Go.Proofs.Ytfgablhgjbjbkae
open Go.ChangeShapes Go.WideShapes Go.ChangeAt Go.RowKit Go.GrainU

theorem shtrodAll_four {H : Type} {enc : TypeId × Value → H} {P : Program} {w : World} {base : Nat} {sp : Nat → Bool} {held : Bool} {t0 t1 t2 t3 : TypeId} {args : Array Value} {ds : List (DataW H)} {p : List MemPlace} (h : DataW.TrodAll enc P w base sp held [t0, t1, t2, t3] args.toList ds p) :
    ∃ v0 v1 v2 v3 d0 d1 d2 d3 p0 p1 p2 p3, args = #[v0, v1, v2, v3] ∧ ds = [d0, d1, d2, d3] ∧ p = p0 ++ (p1 ++ (p2 ++ (p3 ++ []))) ∧ DataW.Trod enc P w base sp held t0 v0 d0 p0 ∧ DataW.Trod enc P w base sp held t1 v1 d1 p1 ∧ DataW.Trod enc P w base sp held t2 v2 d2 p2 ∧ DataW.Trod enc P w base sp held t3 v3 d3 p3 := by
  obtain ⟨v0, vs0, d0, ds0, p0, q0, e0, rfl, rfl, h0, r0⟩ := trodAll_cons h
  obtain ⟨v1, vs1, d1, ds1, p1, q1, e1, rfl, rfl, h1, r1⟩ := trodAll_cons r0
  obtain ⟨v2, vs2, d2, ds2, p2, q2, e2, rfl, rfl, h2, r2⟩ := trodAll_cons r1
  obtain ⟨v3, vs3, d3, ds3, p3, q3, e3, rfl, rfl, h3, r3⟩ := trodAll_cons r2
  obtain ⟨rfl, rfl, rfl⟩ := trodAll_nil r3
  refine ⟨v0, v1, v2, v3, d0, d1, d2, d3, p0, p1, p2, p3, ?_, rfl, rfl, h0, h1, h2, h3⟩
  cases args
  simp_all

theorem sh_array {cs : Array Value} {l : List Value} (h : cs.toList = l) : cs = l.toArray := by rw [← h]

set_option maxRecDepth 100000 in
theorem stells_lifted (os : Os) (started : os.Started) (H : Type) (enc : TypeId × Value → H) :
    ReturnsInHanded {} Try.checked os 4 .any (Rows.shelfTellsSpec.pre6 enc Try.prog Try.f4 Rows.shelfTellsRow.domain false) (Rows.shelfTellsSpec.post enc Try.prog Try.f4 false true false false) := by
  refine returnsInHanded_of_change_sized (C := Try.checked) Try.own started (by kernel_rfl) Try.func4
    (ChangeSpec.witness6 (enc := enc) (C := Try.checked) false ⟨#[], #[.agg #[.slice none 0 0, .slice none 0 0, .slice none 0 0, .slice none 0 0, .int .i64 0, .int .i64 0, .int .i64 0, .int .i64 0, .int .i64 0], .agg #[.int .i64 0, .int .i64 0], .int .i64 0, .int .i64 0], []⟩ 8 (by kernel_rfl) (by kernel_rfl) (by kernel_rfl) (by kernel_rfl)) ?_
  intro W base args ds gs before hval0 hW hcnd hsz0 _
  have hval : ∀ (j : Nat) t v, Try.f4.params[j]? = some t → args[j]? = some v → Value.okWide Try.prog W .any base t v := hval0
  have hsz : (DataW.weightsEach Try.prog (Try.f4.params.toList ++ Rows.shelfTellsSpec.plain.varTypes Try.prog) (ds ++ gs)).all (· ≤ reachBytes) = true := hsz0
  have hW' := hW
  obtain ⟨p, q, hA0, hV, rfl, hfz, hnd⟩ := hW
  have hA : DataW.TrodAll enc Try.prog W 0 (fun _ => true) true Try.f4.params.toList args.toList ds p := hA0
  rw [Try.params4] at hA hval hsz
  obtain ⟨v0, v1, v2, v3, d0, d1, d2, d3, p0, p1, p2, p3, rfl, rfl, rfl, h0, h1, h2, h3⟩ := shtrodAll_four hA
  obtain ⟨rfl, rfl⟩ := trodVars_none hV
  have lt0 : ∀ x ∈ p0, x.block < W.heap.size := by obtain ⟨m, hm⟩ := h0; exact DataW.trod_lt m _ _ _ hm
  obtain ⟨cs, rfl, hcs⟩ := okWide_struct Try.underlying44 (hval 0 44 v0 rfl rfl)
  have lt1 : ∀ x ∈ p1, x.block < W.heap.size := by obtain ⟨m, hm⟩ := h1; exact DataW.trod_lt m _ _ _ hm
  obtain ⟨cs1, rfl, hcs1⟩ := okWide_struct Try.underlying35 (hval 1 35 v1 rfl rfl)
  obtain ⟨z2, rfl, rfl, rfl, w2⟩ := open_int Try.underlying3 (hval 2 3 v2 rfl rfl) h2
  obtain ⟨z3, rfl, rfl, rfl, w3⟩ := open_int Try.underlying3 (hval 3 3 v3 rfl rfl) h3
  have k0 := h0
  have k1 := h1
  obtain ⟨f1, hf1⟩ := h1
  obtain ⟨y, hy⟩ := open_smp hf1
  have hv1 : Value.agg cs1 = .agg #[.int .i64 y.1, .int .i64 y.2] := by
    simp only [Value.cells] at hy
    rw [sh_array hy]
  obtain ⟨f0, hf0⟩ := h0
  obtain ⟨x, ht, hin⟩ := open_shelf hf0 (fun k hk => of_decide_eq_true (List.all_eq_true.1 hsz k (DataW.weights_mem_each (j := 0) rfl rfl k hk)))
  have hv : Value.agg cs = x.v := by
    simp only [Value.cells] at ht
    rw [sh_array ht]
    rfl
  clear hA0 hval0 hsz0 hsz
  rw [hv, hv1] at hW' ⊢
  rw [hv] at k0
  rw [hv1] at k1
  refine (stells_any x y.1 y.2 z2 z3 W hin).mono fun e W' ⟨he, bel⟩ => ?_
  subst he
  exact ⟨_, rfl, _, _, _, [], _, [], hW', trodAll_mk1 (shut_bool Try.underlying4 _), (trodAll_cons_mk (Below.trod Try.laidOut (by kernel_rfl) (of_decide_eq_true (by kernel_rfl)) k0 bel lt0) (trodAll_cons_mk (Below.trod Try.laidOut (by kernel_rfl) (of_decide_eq_true (by kernel_rfl)) k1 bel lt1) (trodAll_cons_mk (shut_int Try.underlying3 w2) (trodAll_cons_mk (shut_int Try.underlying3 w3) trodAll_mk0)))), rfl, bel.frame _, fun h => by cases h⟩

theorem stells_holds : Rows.ShelfTellsSaid :=
  OpenClaim.holds_of_wide 4 Try.f4 rfl rfl rfl rfl rfl rfl rfl ⟨rfl, rfl, rfl, rfl, rfl⟩ rfl rfl rfl rfl rfl (by kernel_rfl) Try.func4 (by kernel_rfl)
    (of_decide_eq_true (by kernel_rfl)) (by unfold Func.isWrapper; first | (rw [if_pos (by decide +kernel)]; kernel_rfl) | (rw [if_neg (by decide +kernel)]; exact ⟨rfl, rfl⟩))
    (fun os started H enc _ => stells_lifted os started H enc)

end Go.Proofs.Ytfgablhgjbjbkae
