/-
  More of what the walks share.
-/
import Derived.Test.YthohkokhimdamaaGreatP23
import Derived.Test.YthohkokhimdamaaGreatP01
/-
  The walk of names.Matches.
-/
namespace Go.GrainU
open Go.RowKit

theorem three_cells {w : World} {B : Nat} {x0 x1 x2 : Value} {t : TypeId} {fr : Nat × Nat} (h : w.heap[B]? = some (.cells #[x0, x1, x2] t fr)) :
    w.cell? ⟨B, 0, none⟩ = some x0 ∧ w.cell? ⟨B, 1, none⟩ = some x1 ∧ w.cell? ⟨B, 2, none⟩ = some x2 := by
  simp [World.cell?, h]

end Go.GrainU
namespace Go.Proofs.YthohkokhimdamaaGreat
open Go.RowKit Go.GrainU

set_option maxHeartbeats 2000000 in
theorem nisso_any (s : List (ByteArray × ByteArray)) (kind : Int) (key val : ByteArray) (ao : Option Addr) (n c : Nat) (w : World) (ha : Seg w ao (lcells s)) (hn : n = s.length) (hc : n ≤ 9223372036854775807) :
    Calls Tryz.prog 80 #[.slice ao n c, .agg #[.int .i64 kind, .string key, .string val]] w fun e w' => e = .returned (.bool (sayM (find s key) ⟨kind, key, val⟩)) ∧ Below w.heap.size w w' := by
  obtain ⟨V, hV⟩ : ∃ V, V = w.alloc (.cells #[.int .i64 kind, .string key, .string val] 86) := ⟨_, rfl⟩
  obtain ⟨X, hX⟩ : ∃ X, X = w.heap.size := ⟨_, rfl⟩
  have F : V.heap[X]? = some (.cells #[.int .i64 kind, .string key, .string val] 86 (0, 0)) := by rw [hV, hX]; exact heap_alloc_new w _
  have bel : Below w.heap.size w V := by rw [hV]; exact (Below.refl _ _).alloc (Nat.le_refl _) _
  have hsz := bel.size
  have haV := ha.below bel
  have HV := hide hV
  have HX := hide hX
  have HN := hide hn
  clear hV hn hX
  obtain ⟨c0, c1, c2⟩ := three_cells F
  obtain ⟨f, hf⟩ : ∃ f, f = find s key := ⟨_, rfl⟩
  have HF := hide hf
  rw [← hf]
  clear hf
  go_enter Tryz.func80, Tryz.ntmps80
  go_wp2_with fail
  rw [← HV.out, ← HX.out]
  refine (nget_any s key ao n c V haV HN.out hc).mono ?_
  rintro e w1 ⟨rfl, hb1⟩
  rw [← HF.out]
  have F1 := below_block hb1 F
  have bel1 : Below w.heap.size w w1 := bel.trans (hb1.mono hsz)
  clear hb1 c0 c1 c2 haV F HV HX
  obtain ⟨c0, c1, c2⟩ := three_cells F1
  clear F1
  by_cases g1 : kind = 1
  · subst g1
    cases f with
    | none =>
      go_wp2
      go_ret
      exact ⟨rfl, bel1⟩
    | some u =>
      have hW := word_eq u val
      have hW' : (u == val) = decide (u = val) := by rw [Go.beq_toListBytes]; exact hW
      have HS : Hid (sayM (some u) ⟨1, key, val⟩ = decide (u = val)) := by show _ = _; simp [sayM]
      generalize decide (u = val) = D at hW hW' HS
      go_wp2
      go_ret
      exact ⟨ret_bool HS.out.symm, bel1⟩
  · have b1 : (kind == 1) = false := by simpa using g1
    by_cases g2 : kind = 2
    · subst g2
      cases f with
      | none =>
        go_wp2
        go_ret
        exact ⟨rfl, bel1⟩
      | some u =>
        have hW := word_eq u val
        have hW' : (u == val) = decide (u = val) := by rw [Go.beq_toListBytes]; exact hW
        have HS : Hid (sayM (some u) ⟨2, key, val⟩ = !decide (u = val)) := by show _ = _; simp [sayM]
        generalize decide (u = val) = D at hW hW' HS
        go_wp2
        go_ret
        exact ⟨ret_bool HS.out.symm, bel1⟩
    · have b2 : (kind == 2) = false := by simpa using g2
      by_cases g3 : kind = 3
      · subst g3
        have HS : Hid (sayM f ⟨3, key, val⟩ = f.isSome) := by show _ = _; simp [sayM]
        generalize f.isSome = D at HS
        go_wp2
        go_ret
        exact ⟨ret_bool HS.out.symm, bel1⟩
      · have b3 : (kind == 3) = false := by simpa using g3
        by_cases g4 : kind = 4
        · subst g4
          have HS : Hid (sayM f ⟨4, key, val⟩ = !f.isSome) := by show _ = _; simp [sayM]
          generalize f.isSome = D at HS
          go_wp2
          go_ret
          exact ⟨ret_bool HS.out.symm, bel1⟩
        · have b4 : (kind == 4) = false := by simpa using g4
          have HS : Hid (sayM f ⟨kind, key, val⟩ = false) := by show _ = _; simp [sayM, g1, g2, g3, g4]
          clear g1 g2 g3 g4
          go_wp2
          go_ret
          exact ⟨ret_bool HS.out.symm, bel1⟩

set_option maxHeartbeats 1000000 in
theorem nmat1_any (s : List (ByteArray × ByteArray)) (kind : Int) (key val : ByteArray) (B : Nat) (ao : Option Addr) (n c : Nat) (w : World) (ha : Seg w ao (lcells s)) (hB : w.cell? ⟨B, 0, none⟩ = some (.slice ao n c)) (hn : n = s.length) (hc : n ≤ 9223372036854775807) :
    Calls Tryz.prog 79 #[.agg #[.int .i64 kind, .string key, .string val], .pointer (some ⟨B, 0, none⟩)] w fun e w' => e = .returned (.bool (!sayM (find s key) ⟨kind, key, val⟩)) ∧ Below w.heap.size w w' := by
  have hl : B < w.heap.size := World.block_lt_of_cell? w _ hB
  have bel : Below w.heap.size w (w.alloc (.cells #[.int .i64 kind, .string key, .string val] 86)) := (Below.refl _ _).alloc (Nat.le_refl _) _
  have hsz := bel.size
  have haV := ha.below bel
  have HN := hide hn
  clear hn
  obtain ⟨D, hD⟩ : ∃ D, D = sayM (find s key) ⟨kind, key, val⟩ := ⟨_, rfl⟩
  rw [← hD]
  have HD := hide hD
  clear hD
  go_enter Tryz.func79, Tryz.ntmps79
  go_wp2_with fail
  refine (nisso_any s kind key val ao n c _ haV HN.out hc).mono ?_
  rintro e w1 ⟨rfl, hb1⟩
  rw [← HD.out]
  have bel1 : Below w.heap.size w w1 := bel.trans (hb1.mono hsz)
  clear hb1
  go_wp2
  go_ret
  exact ⟨rfl, bel1⟩

set_option maxHeartbeats 1000000 in
theorem nidxm_any (s : List (ByteArray × ByteArray)) (l : List Mt) (B : Nat) (ao bo : Option Addr) (n c m c' : Nat) (w : World) (ha : Seg w ao (lcells s)) (hb : Seg w bo (mcells l)) (hB : w.cell? ⟨B, 0, none⟩ = some (.slice ao n c)) (hn : n = s.length) (hm : m = l.length) (hc : n ≤ 9223372036854775807) (hc' : m ≤ 9223372036854775807) :
    Calls Tryz.prog 97 #[.slice bo m c', .func (.func 79) #[] #[.pointer (some ⟨B, 0, none⟩)]] w fun e w' => (∃ i : Int, e = .returned (.int .i64 i) ∧ decide (0 ≤ i) = !says s l) ∧ Below w.heap.size w w' := by
  have hl : B < w.heap.size := World.block_lt_of_cell? w _ hB
  have HN := hide hn
  have HM := hide hm
  clear hn hm
  go_enter Tryz.func97, Tryz.ntmps97
  go_wp2
  go_loopw [8] (fun i wr => ∃ k : Nat, k ≤ m ∧ i = .int .i64 k ∧ Hid (says s (l.take k) = true) ∧ Below w.heap.size w wr) (fun i _ => m - (intOf i).toNat)
  case atStart => exact ⟨0, Nat.zero_le _, rfl, by show says s (l.take 0) = true; simp [says], Below.refl _ _⟩
  case round =>
    obtain ⟨k, hk, rfl, HW, bel⟩ := hrel
    have hsz := bel.size
    by_cases hlt : k < m
    · have hka : k < l.length := by rw [← HM.out]; exact hlt
      obtain ⟨p, off, rfl, hbl, hcell⟩ := seg_match hb hka
      obtain ⟨kind, hkd⟩ : ∃ x, x = (mt l k).kind := ⟨_, rfl⟩
      obtain ⟨key, hky⟩ : ∃ x, x = (mt l k).key := ⟨_, rfl⟩
      obtain ⟨val, hvl⟩ : ∃ x, x = (mt l k).val := ⟨_, rfl⟩
      have c0 : wr.cell? ⟨p, off + k * 3, none⟩ = some (.int .i64 kind) := by rw [hkd]; exact (bel.cell (by exact hbl)).trans (hcell k hka).1
      have c1 : wr.cell? ⟨p, off + k * 3 + 1, none⟩ = some (.string key) := by rw [hky]; exact (bel.cell (by exact hbl)).trans (hcell k hka).2.1
      have c2 : wr.cell? ⟨p, off + k * 3 + 2, none⟩ = some (.string val) := by rw [hvl]; exact (bel.cell (by exact hbl)).trans (hcell k hka).2.2
      have cB : wr.cell? ⟨B, 0, none⟩ = some (.slice ao n c) := (bel.cell (by exact hl)).trans hB
      have haw := ha.below bel
      obtain ⟨D, hD⟩ : ∃ D, D = sayM (find s key) ⟨kind, key, val⟩ := ⟨_, rfl⟩
      have hmt : (⟨kind, key, val⟩ : Mt) = mt l k := by rw [hkd, hky, hvl]
      have YES : Hid (D = true → says s (l.take (k + 1)) = true) := by
        intro h
        rw [says_take hka, HW.out, ← hmt, ← hD, h]; rfl
      have NO : Hid (D = false → says s l = false) := by
        intro h
        refine says_no hka ?_
        rw [← hmt, ← hD, h]
      have HD := hide hD
      clear hkd hky hvl hcell hka HW hD hmt
      go_wp2_with fail
      refine (nmat1_any s kind key val B ao n c wr haw cB HN.out hc).mono ?_
      rintro e w1 ⟨rfl, hb1⟩
      rw [← HD.out]
      have bel1 : Below w.heap.size w w1 := bel.trans (hb1.mono hsz)
      clear hb1 bel c0 c1 c2 cB haw HD
      cases D with
      | false =>
        have hw := hide (NO.out rfl)
        clear YES NO
        go_wp2
        go_ret
        exact ⟨⟨_, rfl, by rw [hw.out]; simp⟩, bel1⟩
      | true =>
        have hw := hide (YES.out rfl)
        clear YES NO
        go_wp2
        go_roundw
        case rel => exact ⟨k + 1, by omega, by go_num, hw, bel1⟩
        case measure => simp [intOf]; omega
    · have he : k = m := by omega
      subst he
      have hw : Hid (says s l = true) := by
        show _ = _
        have := HW.out
        rwa [List.take_of_length_le (by rw [← HM.out]; omega)] at this
      clear HW
      go_wp2
      go_ret
      exact ⟨⟨_, rfl, by rw [hw.out]; decide⟩, bel⟩

set_option maxHeartbeats 1000000 in
theorem nhasf_any (s : List (ByteArray × ByteArray)) (l : List Mt) (B : Nat) (ao bo : Option Addr) (n c m c' : Nat) (w : World) (ha : Seg w ao (lcells s)) (hb : Seg w bo (mcells l)) (hB : w.cell? ⟨B, 0, none⟩ = some (.slice ao n c)) (hn : n = s.length) (hm : m = l.length) (hc : n ≤ 9223372036854775807) (hc' : m ≤ 9223372036854775807) :
    Calls Tryz.prog 78 #[.slice bo m c', .func (.func 79) #[] #[.pointer (some ⟨B, 0, none⟩)]] w fun e w' => e = .returned (.bool (!says s l)) ∧ Below w.heap.size w w' := by
  have HN := hide hn
  have HM := hide hm
  clear hn hm
  obtain ⟨D, hD⟩ : ∃ D, D = !says s l := ⟨_, rfl⟩
  rw [← hD]
  have HD := hide hD
  clear hD
  go_enter Tryz.func78, Tryz.ntmps78
  go_wp2_with fail
  refine (nidxm_any s l B ao bo n c m c' w ha hb hB HN.out HM.out hc hc').mono ?_
  rintro e w1 ⟨⟨i, rfl, hi⟩, hb1⟩
  rw [← HD.out] at hi
  go_wp2
  go_ret
  exact ⟨rfl, hb1⟩

set_option maxHeartbeats 1000000 in
theorem nmatches_any (s : List (ByteArray × ByteArray)) (l : List Mt) (ao bo : Option Addr) (n c m c' : Nat) (w : World) (ha : Seg w ao (lcells s)) (hb : Seg w bo (mcells l)) (hn : n = s.length) (hm : m = l.length) (hc : n ≤ 9223372036854775807) (hc' : m ≤ 9223372036854775807) :
    Calls Tryz.prog 55 #[.slice ao n c, .slice bo m c'] w fun e w' => e = .returned (.bool (says s l)) ∧ Below w.heap.size w w' := by
  obtain ⟨V, hV⟩ : ∃ V, V = w.alloc (.cells #[.slice ao n c] 40) := ⟨_, rfl⟩
  have bel : Below w.heap.size w V := by rw [hV]; exact (Below.refl _ _).alloc (Nat.le_refl _) _
  have cB : V.cell? ⟨w.heap.size, 0, none⟩ = some (.slice ao n c) := by rw [hV]; simp
  have hsz := bel.size
  have HV := hide hV
  have HN := hide hn
  have HM := hide hm
  clear hV hn hm
  have haV := ha.below bel
  have hbV := hb.below bel
  obtain ⟨D, hD⟩ : ∃ D, D = says s l := ⟨_, rfl⟩
  rw [← hD]
  have HD := hide hD
  clear hD
  go_enter Tryz.func55, Tryz.ntmps55
  go_wp2_with fail
  rw [← HV.out]
  refine (nhasf_any s l w.heap.size ao bo n c m c' V haV hbV cB HN.out HM.out hc hc').mono ?_
  rintro e w1 ⟨rfl, hb1⟩
  rw [← HD.out]
  have bel1 : Below w.heap.size w w1 := bel.trans (hb1.mono hsz)
  clear hb1
  go_wp2
  go_ret
  exact ⟨ret_bool (by simp), bel1⟩

end Go.Proofs.YthohkokhimdamaaGreat

/-
  More of what the walks share.
-/
namespace Go.GrainU
open Go.RowKit

theorem scells_take (l : List (Int × Int)) : ∀ m, scells (l.take m) = (scells l).take (m * 2) := by
  induction l with
  | nil => intro m; simp [scells]
  | cons s r ih =>
    intro m
    match m with
    | 0 => simp [scells]
    | m + 1 => rw [show (m + 1) * 2 = m * 2 + 1 + 1 from by omega]; simp [scells, ih]

theorem Seg.take {w : World} {ao : Option Addr} {xs : List Value} (h : Seg w ao xs) (m : Nat) : Seg w ao (xs.take m) := by
  rcases h with h | ⟨b, off, rfl, h⟩
  · left; rw [h]; simp
  · refine .inr ⟨b, off, rfl, fun j hj => ?_⟩
    simp at hj
    rw [h j (by omega), List.getElem?_take, if_pos (by omega)]

end Go.GrainU
