/-
  The walk of SameSeries.
-/
import Derived.Test.YtcgcefnfelmmkaaRows
import Derived.Test.YtcgcefnfelmmkaaLabU
namespace Go.Proofs.Ytcgcefnfelmmkaa
open Go.RowKit Go.GrainU

set_option maxHeartbeats 1000000 in
theorem sames_any (a b : List (ByteArray × ByteArray)) (ao bo : Option Addr) (n m c c' : Nat) (w : World) (ha : Seg w ao (lcells a)) (hb : Seg w bo (lcells b)) (hn : n = a.length) (hm : m = b.length) (hc : n ≤ 9223372036854775807) :
    Calls Try.prog 40 #[.slice ao n c, .slice bo m c'] w fun e w' => e = .returned (.bool (decide (a = b))) ∧ Below w.heap.size w w' := by
  have HN := hide hn
  have HM := hide hm
  clear hn hm
  by_cases hl : n = m
  · subst hl
    have hz : ((n : Int) != (n : Int)) = false := by simp
    go_enter Try.func40, Try.ntmps40
    go_wp2
    go_loopw [13] (fun i wr => ∃ (k : Nat), k ≤ n ∧ i = .int .i64 k ∧ Hid (a.take k = b.take k) ∧ Below w.heap.size w wr) (fun i _ => n - (intOf i).toNat)
    case atStart => exact ⟨0, Nat.zero_le _, rfl, rfl, Below.refl _ _⟩
    case round =>
      obtain ⟨k, hk, rfl, HT, bel⟩ := hrel
      by_cases hlt : k < n
      · have h1 : k < a.length := by rw [← HN.out]; exact hlt
        have h2 : k < b.length := by rw [← HM.out]; exact hlt
        obtain ⟨p, off, rfl, hbl, hcell⟩ := seg_label ha h1
        obtain ⟨p', off', rfl, hbl', hcell'⟩ := seg_label hb h2
        obtain ⟨x, hx⟩ : ∃ x, x = lk a k := ⟨_, rfl⟩
        obtain ⟨y, hy⟩ : ∃ y, y = lv a k := ⟨_, rfl⟩
        obtain ⟨x', hx'⟩ : ∃ x, x = lk b k := ⟨_, rfl⟩
        obtain ⟨y', hy'⟩ : ∃ y, y = lv b k := ⟨_, rfl⟩
        have c0 : wr.cell? ⟨p, off + k * 2, none⟩ = some (.string x) := by rw [hx]; exact (bel.cell (by exact hbl)).trans (hcell k h1).1
        have c1 : wr.cell? ⟨p, off + k * 2 + 1, none⟩ = some (.string y) := by rw [hy]; exact (bel.cell (by exact hbl)).trans (hcell k h1).2
        have d0 : wr.cell? ⟨p', off' + k * 2, none⟩ = some (.string x') := by rw [hx']; exact (bel.cell (by exact hbl')).trans (hcell' k h2).1
        have d1 : wr.cell? ⟨p', off' + k * 2 + 1, none⟩ = some (.string y') := by rw [hy']; exact (bel.cell (by exact hbl')).trans (hcell' k h2).2
        clear hcell hcell'
        have HA := take_lab h1
        have HB := take_lab h2
        rw [← hx, ← hy] at HA
        rw [← hx', ← hy'] at HB
        have HA' := hide HA
        have HB' := hide HB
        have NO : Hid ((x, y) ≠ (x', y') → decide (a = b) = false) := by
          intro hne
          have : a ≠ b := by
            intro e
            have e2 := congrArg (List.take (k + 1)) e
            rw [HA'.out, HB'.out] at e2
            have e3 := (List.append_inj' e2 rfl).2
            simp at e3
            exact hne (by rw [e3.1, e3.2])
          simpa using this
        clear HA HB h1 h2 hx hy hx' hy'
        by_cases e1 : x = x'
        · subst e1
          obtain ⟨v1, v2⟩ := word_self x
          by_cases e2 : y = y'
          · subst e2
            obtain ⟨v3, v4⟩ := word_self y
            have HT' : Hid (a.take (k + 1) = b.take (k + 1)) := by
              show a.take (k + 1) = b.take (k + 1)
              rw [HA'.out, HB'.out, HT.out]
            clear HA' HB' HT NO
            go_wp2
            go_quiet (fail)
            go_wp2
            go_roundw
            case rel => exact ⟨k + 1, by omega, by go_num, HT', below_drewN bel _⟩
            case measure => simp [intOf]; omega
          · obtain ⟨v3, v4⟩ := word_ne e2
            have NN := hide (NO.out (by intro h; simp at h; exact e2 h))
            clear HA' HB' HT NO e2
            go_wp2
            go_quiet (fail)
            go_wp2
            go_ret
            exact ⟨ret_bool NN.out.symm, below_drewN bel _⟩
        · obtain ⟨v1, v2⟩ := word_ne e1
          have NN := hide (NO.out (by intro h; simp at h; exact e1 h.1))
          clear HA' HB' HT NO e1
          go_wp2
          go_quiet (fail)
          go_wp2
          go_ret
          exact ⟨ret_bool NN.out.symm, below_drewN bel _⟩
      · have he : k = n := by omega
        subst he
        have hab : a = b := by
          have := HT.out
          rwa [List.take_of_length_le (by rw [← HN.out]; omega), List.take_of_length_le (by rw [← HM.out]; omega)] at this
        clear HT
        go_wp2
        go_ret
        exact ⟨ret_bool (by simp [hab]), bel⟩
  · have hz : ((n : Int) != (m : Int)) = true := by simp; omega
    have hab : Hid (decide (a = b) = false) := by
      show decide (a = b) = false
      have : a ≠ b := by
        intro e
        apply hl
        rw [HN.out, HM.out, e]
      simpa using this
    clear hl
    go_enter Try.func40, Try.ntmps40
    go_wp2
    go_ret
    exact ⟨ret_bool hab.out.symm, Below.refl _ _⟩

end Go.Proofs.Ytcgcefnfelmmkaa
