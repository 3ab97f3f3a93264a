/-
  The walks of what tells words: Words, Totals, In; what is wrong with a match, a word, a number.
-/
import Derived.Test.YthohkokhimdamaaGreatRows
import Derived.Test.YthohkokhimdamaaGreatP03
import Derived.Test.YthohkokhimdamaaGreatP04
import Derived.Test.YthohkokhimdamaaGreatP05
import Derived.Test.YthohkokhimdamaaGreatP14
import Derived.Test.YthohkokhimdamaaGreatP11
/-
  The walks of slices.Index and slices.Contains over words.
-/
namespace Go.Proofs.YthohkokhimdamaaGreat
open Go.RowKit Go.GrainU

set_option maxHeartbeats 1000000 in
theorem nindex_any (ks : List ByteArray) (x : ByteArray) (bo : Option Addr) (m c : Nat) (w : World) (hb : Seg w bo (wcells ks)) (hm : m = ks.length) (hM : m ≤ 9223372036854775807) :
    Calls Tryz.prog 102 #[.slice bo m c, .string x] w fun e w' => (∃ i : Int, e = .returned (.int .i64 i) ∧ decide (0 ≤ i) = has ks x) ∧ w' = w := by
  have HM := hide hm
  clear hm
  go_enter Tryz.func102, Tryz.ntmps102
  go_wp2
  go_loopw [8] (fun i wr => ∃ k : Nat, k ≤ m ∧ i = .int .i64 k ∧ Hid (∀ i, i < k → ks.getD i ⟨#[]⟩ ≠ x) ∧ wr = w) (fun i _ => m - (intOf i).toNat)
  case atStart => exact ⟨0, Nat.zero_le _, rfl, fun i h => by omega, rfl⟩
  case round =>
    obtain ⟨k, hk, rfl, HJ, rfl⟩ := hrel
    by_cases hlt : k < m
    · have hjl : k < ks.length := by rw [← HM.out]; exact hlt
      obtain ⟨b2, off2, rfl, hbl2, hcell2⟩ := seg_word hb hjl
      obtain ⟨z, hz⟩ : ∃ z, z = ks.getD k ⟨#[]⟩ := ⟨_, rfl⟩
      have e0 : wr.cell? ⟨b2, off2 + k, none⟩ = some (.string z) := by rw [hz]; exact hcell2 k hjl
      have Hz := hide hz
      have Hjl := hide hjl
      clear hz hcell2 hjl
      by_cases ez : x = z
      · subst ez
        obtain ⟨v1, v2⟩ := word_self x
        go_wp2
        go_ret
        exact ⟨⟨_, rfl, by rw [has_at Hjl.out Hz.out.symm]; simp⟩, rfl⟩
      · obtain ⟨v1, v2⟩ := word_ne ez
        have HJ' : Hid (∀ i, i < k + 1 → ks.getD i ⟨#[]⟩ ≠ x) := by
          intro i hi'
          rcases (show i < k ∨ i = k from by omega) with h | h
          · exact HJ.out i h
          · subst h; rw [← Hz.out]; exact Ne.symm ez
        clear HJ ez
        go_wp2
        go_roundw
        case rel => exact ⟨k + 1, by omega, by go_num, HJ', by first | rfl | trivial⟩
        case measure => simp [intOf]; omega
    · go_wp2
      go_ret
      exact ⟨⟨_, rfl, by rw [has_none (fun i hi' => HJ.out i (by have := HM.out; omega))]; decide⟩, rfl⟩

theorem ncont_any (ks : List ByteArray) (x : ByteArray) (bo : Option Addr) (m c : Nat) (w : World) (hb : Seg w bo (wcells ks)) (hm : m = ks.length) (hM : m ≤ 9223372036854775807) :
    Calls Tryz.prog 92 #[.slice bo m c, .string x] w fun e w' => e = .returned (.bool (has ks x)) ∧ w' = w := by
  have HM := hide hm
  clear hm
  obtain ⟨D, hD⟩ : ∃ D, D = has ks x := ⟨_, rfl⟩
  rw [← hD]
  have HD := hide hD
  clear hD
  go_enter Tryz.func92, Tryz.ntmps92
  go_wp2_with fail
  refine (nindex_any ks x bo m c w hb HM.out hM).mono ?_
  rintro e w1 ⟨⟨i, rfl, hi⟩, hw⟩
  rw [hw]
  rw [← HD.out] at hi
  go_wp2
  go_ret
  exact ⟨rfl, rfl⟩

end Go.Proofs.YthohkokhimdamaaGreat

/-
  The walks of what tells words: Words, Totals, In; what is wrong with a match, a word, a number.
-/
namespace Go.GrainU
open Go.RowKit

theorem seg_words {w : World} {cs : Array Value} {t : TypeId} {l : List ByteArray} (h : cs.toList = wcells l) : Seg (w.alloc (.cells cs t)) (some ⟨w.heap.size, 0, none⟩) (wcells l) := by
  rw [← h]; exact seg_new w cs t

end Go.GrainU
namespace Go.Proofs.YthohkokhimdamaaGreat
open Go.RowKit Go.GrainU

theorem pwords_any (w : World) : Calls Tryz.prog 99 #[] w fun e w' => ∃ g, e = .returned (.slice (some ⟨g, 0, none⟩) 8 8) ∧ Seg w' (some ⟨g, 0, none⟩) (wcells words8) ∧ Below w.heap.size w w' := by
  go_enter Tryz.func99, Tryz.ntmps99
  go_wp2
  go_ret
  exact ⟨_, rfl, seg_words rfl, (Below.refl _ _).alloc (Nat.le_refl _) _⟩

theorem rwords_any (w : World) : Calls Tryz.prog 68 #[] w fun e w' => ∃ g, e = .returned (.slice (some ⟨g, 0, none⟩) 8 8) ∧ Seg w' (some ⟨g, 0, none⟩) (wcells words8) ∧ Below w.heap.size w w' := by
  go_enter Tryz.func68, Tryz.ntmps68
  go_wp2
  go_ret
  exact ⟨_, rfl, seg_words rfl, (Below.refl _ _).alloc (Nat.le_refl _) _⟩

theorem ptotals_any (w : World) : Calls Tryz.prog 101 #[] w fun e w' => ∃ g, e = .returned (.slice (some ⟨g, 0, none⟩) 4 4) ∧ Seg w' (some ⟨g, 0, none⟩) (wcells totals4) ∧ Below w.heap.size w w' := by
  go_enter Tryz.func101, Tryz.ntmps101
  go_wp2
  go_ret
  exact ⟨_, rfl, seg_words rfl, (Below.refl _ _).alloc (Nat.le_refl _) _⟩

theorem rtotals_any (w : World) : Calls Tryz.prog 69 #[] w fun e w' => ∃ g, e = .returned (.slice (some ⟨g, 0, none⟩) 4 4) ∧ Seg w' (some ⟨g, 0, none⟩) (wcells totals4) ∧ Below w.heap.size w w' := by
  go_enter Tryz.func69, Tryz.ntmps69
  go_wp2
  go_ret
  exact ⟨_, rfl, seg_words rfl, (Below.refl _ _).alloc (Nat.le_refl _) _⟩

set_option maxHeartbeats 1000000 in
theorem rin_any (ks : List ByteArray) (x : ByteArray) (bo : Option Addr) (m c : Nat) (w : World) (hb : Seg w bo (wcells ks)) (hm : m = ks.length) (hM : m ≤ 9223372036854775806) :
    Calls Tryz.prog 67 #[.string x, .slice bo m c] w fun e w' => e = .returned (.bool (has ks x)) ∧ w' = w := by
  have HM := hide hm
  clear hm
  go_enter Tryz.func67, Tryz.ntmps67
  go_wp2
  go_loopw [9] (fun i wr => ∃ k : Nat, k ≤ m ∧ i = .int .i64 k ∧ Hid (∀ i, i < k → ks.getD i ⟨#[]⟩ ≠ x) ∧ wr = w) (fun i _ => m - (intOf i).toNat)
  case atStart => exact ⟨0, Nat.zero_le _, rfl, fun i h => by omega, rfl⟩
  case round =>
    obtain ⟨k, hk, rfl, HJ, rfl⟩ := hrel
    by_cases hlt : k < m
    · have hjl : k < ks.length := by rw [← HM.out]; exact hlt
      obtain ⟨b2, off2, rfl, hbl2, hcell2⟩ := seg_word hb hjl
      obtain ⟨z, hz⟩ : ∃ z, z = ks.getD k ⟨#[]⟩ := ⟨_, rfl⟩
      have e0 : wr.cell? ⟨b2, off2 + k, none⟩ = some (.string z) := by rw [hz]; exact hcell2 k hjl
      have Hz := hide hz
      have Hjl := hide hjl
      clear hz hcell2 hjl
      by_cases ez : z = x
      · subst ez
        obtain ⟨v1, v2⟩ := word_self z
        go_wp2
        go_ret
        exact ⟨ret_bool (a := true) (has_at Hjl.out Hz.out.symm).symm, rfl⟩
      · obtain ⟨v1, v2⟩ := word_ne ez
        have HJ' : Hid (∀ i, i < k + 1 → ks.getD i ⟨#[]⟩ ≠ x) := by
          intro i hi'
          rcases (show i < k ∨ i = k from by omega) with h | h
          · exact HJ.out i h
          · subst h; rw [← Hz.out]; exact ez
        clear HJ ez
        go_wp2
        go_roundw
        case rel => exact ⟨k + 1, by omega, by go_num, HJ', by first | rfl | trivial⟩
        case measure => simp [intOf]; omega
    · go_wp2
      go_ret
      exact ⟨ret_bool (a := false) (has_none (fun i hi' => HJ.out i (by have := HM.out; omega))).symm, rfl⟩

theorem poutside_any (n a b : Int) (w : World) : Calls Tryz.prog 85 #[.int .i64 n, .int .i64 a, .int .i64 b] w fun e w' => e = .returned (.int .i64 (if n < a ∨ b < n then 3 else 0)) ∧ w' = w := by
  obtain ⟨R, hR⟩ : ∃ R, R = if n < a ∨ b < n then (3 : Int) else 0 := ⟨_, rfl⟩
  rw [← hR]
  have HR := hide hR
  clear hR
  by_cases h1 : n < a
  · go_enter Tryz.func85, Tryz.ntmps85
    go_wp2
    go_ret
    exact ⟨ret_int (a := 3) (by rw [HR.out, if_pos (.inl (by first | exact h1 | trivial))]), rfl⟩
  · by_cases h2 : b < n
    · go_enter Tryz.func85, Tryz.ntmps85
      go_wp2
      go_ret
      exact ⟨ret_int (a := 3) (by rw [HR.out, if_pos (.inr (by first | exact h2 | trivial))]), rfl⟩
    · go_enter Tryz.func85, Tryz.ntmps85
      go_wp2
      go_ret
      exact ⟨ret_int (a := 0) (by rw [HR.out, if_neg (by omega)]), rfl⟩

/-- so many kids a kind has -/
def kidsK (k : Int) : Int × Bool := if k = 1 ∨ k = 2 then (0, true) else if k = 3 then (1, true) else if k = 4 then (2, true) else (0, false)

theorem pkidsOf_any (k : Int) (w : World) : Calls Tryz.prog 84 #[.int .i64 k] w fun e w' => e = .returned (.tuple #[.int .i64 (kidsK k).1, .bool (kidsK k).2]) ∧ w' = w := by
  obtain ⟨a, ha⟩ : ∃ a, a = (kidsK k).1 := ⟨_, rfl⟩
  obtain ⟨b, hb⟩ : ∃ b, b = (kidsK k).2 := ⟨_, rfl⟩
  rw [← ha, ← hb]
  have HA := hide ha
  have HB := hide hb
  clear ha hb
  unfold kidsK at HA HB
  by_cases h1 : k = 1
  · subst h1
    go_enter Tryz.func84, Tryz.ntmps84
    go_wp2
    go_ret2
    exact ⟨by rw [HA.out, HB.out]; rfl, rfl⟩
  by_cases h2 : k = 2
  · subst h2
    go_enter Tryz.func84, Tryz.ntmps84
    go_wp2
    go_ret2
    exact ⟨by rw [HA.out, HB.out]; rfl, rfl⟩
  by_cases h3 : k = 3
  · subst h3
    go_enter Tryz.func84, Tryz.ntmps84
    go_wp2
    go_ret2
    exact ⟨by rw [HA.out, HB.out]; rfl, rfl⟩
  by_cases h4 : k = 4
  · subst h4
    go_enter Tryz.func84, Tryz.ntmps84
    go_wp2
    go_ret2
    exact ⟨by rw [HA.out, HB.out]; rfl, rfl⟩
  have e1 : (k == 1) = false := by simp [h1]
  have e2 : (k == 2) = false := by simp [h2]
  have e3 : (k == 3) = false := by simp [h3]
  have e4 : (k == 4) = false := by simp [h4]
  have HC : Hid (a = 0 ∧ b = false) := ⟨by rw [HA.out]; simp [h1, h2, h3, h4], by rw [HB.out]; simp [h1, h2, h3, h4]⟩
  clear HA HB
  go_enter Tryz.func84, Tryz.ntmps84
  go_wp2
  go_ret2
  exact ⟨by rw [HC.out.1, HC.out.2]; rfl, rfl⟩

end Go.Proofs.YthohkokhimdamaaGreat
