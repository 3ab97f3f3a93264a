/-
  The walks of slices.Index and slices.Contains over words.
-/
import Derived.Test.YthohkokhimdamaaRows
import Derived.Test.YthohkokhimdamaaLabM
import Derived.Test.YthohkokhimdamaaWordsU
namespace Go.Proofs.Ythohkokhimdamaa
open Go.RowKit Go.GrainU

set_option maxHeartbeats 1000000 in
theorem nindex_any (ks : List ByteArray) (x : ByteArray) (bo : Option Addr) (m c : Nat) (w : World) (hb : Seg w bo (wcells ks)) (hm : m = ks.length) (hM : m ≤ 9223372036854775807) :
    Calls Try.prog 78 #[.slice bo m c, .string x] w fun e w' => (∃ i : Int, e = .returned (.int .i64 i) ∧ decide (0 ≤ i) = has ks x) ∧ w' = w := by
  have HM := hide hm
  clear hm
  go_enter Try.func78, Try.ntmps78
  go_wp2
  go_loopw [8] (fun i wr => ∃ k : Nat, k ≤ m ∧ i = .int .i64 k ∧ Hid (∀ i, i < k → ks.getD i ⟨#[]⟩ ≠ x) ∧ wr = w) (fun i _ => m - (intOf i).toNat)
  case atStart => exact ⟨0, Nat.zero_le _, rfl, fun i h => by omega, rfl⟩
  case round =>
    obtain ⟨k, hk, rfl, HJ, rfl⟩ := hrel
    by_cases hlt : k < m
    · have hjl : k < ks.length := by rw [← HM.out]; exact hlt
      obtain ⟨b2, off2, rfl, hbl2, hcell2⟩ := seg_word hb hjl
      obtain ⟨z, hz⟩ : ∃ z, z = ks.getD k ⟨#[]⟩ := ⟨_, rfl⟩
      have e0 : wr.cell? ⟨b2, off2 + k, none⟩ = some (.string z) := by rw [hz]; exact hcell2 k hjl
      have Hz := hide hz
      have Hjl := hide hjl
      clear hz hcell2 hjl
      by_cases ez : x = z
      · subst ez
        obtain ⟨v1, v2⟩ := word_self x
        go_wp2
        go_ret
        exact ⟨⟨_, rfl, by rw [has_at Hjl.out Hz.out.symm]; simp⟩, rfl⟩
      · obtain ⟨v1, v2⟩ := word_ne ez
        have HJ' : Hid (∀ i, i < k + 1 → ks.getD i ⟨#[]⟩ ≠ x) := by
          intro i hi'
          rcases (show i < k ∨ i = k from by omega) with h | h
          · exact HJ.out i h
          · subst h; rw [← Hz.out]; exact Ne.symm ez
        clear HJ ez
        go_wp2
        go_roundw
        case rel => exact ⟨k + 1, by omega, by go_num, HJ', by first | rfl | trivial⟩
        case measure => simp [intOf]; omega
    · go_wp2
      go_ret
      exact ⟨⟨_, rfl, by rw [has_none (fun i hi' => HJ.out i (by have := HM.out; omega))]; decide⟩, rfl⟩

theorem ncont_any (ks : List ByteArray) (x : ByteArray) (bo : Option Addr) (m c : Nat) (w : World) (hb : Seg w bo (wcells ks)) (hm : m = ks.length) (hM : m ≤ 9223372036854775807) :
    Calls Try.prog 65 #[.slice bo m c, .string x] w fun e w' => e = .returned (.bool (has ks x)) ∧ w' = w := by
  have HM := hide hm
  clear hm
  obtain ⟨D, hD⟩ : ∃ D, D = has ks x := ⟨_, rfl⟩
  rw [← hD]
  have HD := hide hD
  clear hD
  go_enter Try.func65, Try.ntmps65
  go_wp2_with fail
  refine (nindex_any ks x bo m c w hb HM.out hM).mono ?_
  rintro e w1 ⟨⟨i, rfl, hi⟩, hw⟩
  rw [hw]
  rw [← HD.out] at hi
  go_wp2
  go_ret
  exact ⟨rfl, rfl⟩

end Go.Proofs.Ythohkokhimdamaa
