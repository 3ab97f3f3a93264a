/-
  The walk of names.Named.
-/
import Derived.Test.YtcgcefnfelmmkaaRows
import Derived.Test.YtcgcefnfelmmkaaLabU
namespace Go.Proofs.Ytcgcefnfelmmkaa
open Go.RowKit Go.GrainU

theorem nletter_any (c : Int) (w : World) : Calls Try.prog 52 #[.int .u8 c] w fun e w' => e = .returned (.bool (Grain.low c)) ∧ w' = w := by
  rcases (show c < 97 ∨ 97 ≤ c from by omega) with h | h
  · have hd : Grain.low c = false := by simp [Grain.low]; omega
    rw [hd]; clear hd
    go_enter Try.func52, Try.ntmps52
    go_wp2
    go_ret
    exact ⟨rfl, rfl⟩
  · rcases (show c ≤ 122 ∨ 122 < c from by omega) with h' | h'
    · have hd : Grain.low c = true := by simp [Grain.low]; omega
      rw [hd]; clear hd
      go_enter Try.func52, Try.ntmps52
      go_wp2
      go_ret
      exact ⟨ret_bool (by simp), rfl⟩
    · have hd : Grain.low c = false := by simp [Grain.low]; omega
      rw [hd]; clear hd
      go_enter Try.func52, Try.ntmps52
      go_wp2
      go_ret
      exact ⟨ret_bool (by simpa using h'), rfl⟩

theorem ndigit_any (c : Int) (w : World) : Calls Try.prog 53 #[.int .u8 c] w fun e w' => e = .returned (.bool (decide (48 ≤ c) && decide (c ≤ 57))) ∧ w' = w := by
  rcases (show c < 48 ∨ 48 ≤ c from by omega) with h | h
  · have hd : (decide (48 ≤ c) && decide (c ≤ 57)) = false := by simp; omega
    rw [hd]; clear hd
    go_enter Try.func53, Try.ntmps53
    go_wp2
    go_ret
    exact ⟨rfl, rfl⟩
  · rcases (show c ≤ 57 ∨ 57 < c from by omega) with h' | h'
    · have hd : (decide (48 ≤ c) && decide (c ≤ 57)) = true := by simp; omega
      rw [hd]; clear hd
      go_enter Try.func53, Try.ntmps53
      go_wp2
      go_ret
      exact ⟨ret_bool (by simp), rfl⟩
    · have hd : (decide (48 ≤ c) && decide (c ≤ 57)) = false := by simp; omega
      rw [hd]; clear hd
      go_enter Try.func53, Try.ntmps53
      go_wp2
      go_ret
      exact ⟨ret_bool (by simpa using h'), rfl⟩

theorem byt_at (s : ByteArray) (k : Nat) (h : k < s.size) : (((s[k]'h).toNat : Nat) : Int) = Grain.byt s k := by
  unfold Grain.byt
  have h' : k < s.data.size := h
  simp only [List.getD, Array.getElem?_toList, Array.getElem?_eq_getElem h', Option.getD_some]
  rfl

set_option maxHeartbeats 2000000 in
theorem nnamed_any (s : ByteArray) (w : World) (hm : s.size ≤ 9223372036854775807) :
    Calls Try.prog 42 #[.string s] w fun e w' => e = .returned (.bool (Grain.named s)) ∧ w' = w := by
  by_cases h0 : 0 < s.size
  · have e0 : ((s.size : Int) == 0) = false := by rw [beq_eq_false_iff_ne]; omega
    by_cases h12 : s.size ≤ 12
    · have e1 : decide ((12 : Int) < (s.size : Int)) = false := by simp; omega
      obtain ⟨c, hc⟩ : ∃ c, c = Grain.byt s 0 := ⟨_, rfl⟩
      have hb := byt_at s 0 h0
      rw [← hc] at hb
      cases hl : Grain.low c with
      | false =>
        have HF : Hid (Grain.named s = false) := by
          show _ = _
          unfold Grain.named
          rw [Grain.fineN_no (k := 0) (by rw [← hc]; simp [Grain.badN, hl]) s.size h0]
          rfl
        clear hc
        go_enter Try.func42, Try.ntmps42
        go_wp2_with fail
        refine (nletter_any c w).mono ?_
        intro e w1 hh
        rw [hh.1, hh.2, hl]
        clear hh
        go_wp2
        go_ret
        exact ⟨ret_bool HF.out.symm, rfl⟩
      | true =>
        have HF : Hid (Grain.fineN s 1 = true) := by
          show _ = _
          simp [Grain.fineN, Grain.badN, ← hc, hl]
        clear hc
        go_enter Try.func42, Try.ntmps42
        go_wp2_with fail
        refine (nletter_any c w).mono ?_
        intro e w1 hh
        rw [hh.1, hh.2, hl]
        clear hh
        go_wp2
        clear hl hb
        go_loopw [3] (fun i wr => ∃ k : Nat, 1 ≤ k ∧ k ≤ s.size ∧ i = .int .i64 k ∧ Hid (Grain.fineN s k = true) ∧ wr = w) (fun i _ => s.size - (intOf i).toNat)
        case atStart => exact ⟨1, Nat.le_refl _, h0, rfl, HF, rfl⟩
        case round =>
          clear HF
          obtain ⟨k, hk1, hk, rfl, HF, rfl⟩ := hrel
          by_cases hlt : k < s.size
          · obtain ⟨c, hc⟩ : ∃ c, c = Grain.byt s k := ⟨_, rfl⟩
            have hb := byt_at s k hlt
            rw [← hc] at hb
            have HB : Hid (Grain.badN k c = true → Grain.named s = false) := by
              intro h
              rw [hc] at h
              unfold Grain.named
              rw [Grain.fineN_no h s.size hlt]
              rfl
            have HN : Hid (Grain.badN k c = false → Grain.fineN s (k + 1) = true) := by
              intro h
              show (Grain.fineN s k && !Grain.badN k (Grain.byt s k)) = true
              rw [← hc, h, HF.out]
              rfl
            clear hc HF
            cases hl : Grain.low c with
            | true =>
              go_wp2_with fail
              refine (nletter_any c wr).mono ?_
              intro e w1 hh
              rw [hh.1, hh.2, hl]
              clear hh
              go_wp2
              go_roundw
              case rel => exact ⟨k + 1, by omega, by omega, by go_num, HN.out (by simp [Grain.badN, hl]), by first | rfl | trivial⟩
              case measure => simp [intOf]; omega
            | false =>
              cases hd : (decide (48 ≤ c) && decide (c ≤ 57)) with
              | true =>
                go_wp2_with fail
                refine (nletter_any c wr).mono ?_
                intro e w1 hh
                rw [hh.1, hh.2, hl]
                clear hh
                go_wp2_with fail
                refine (ndigit_any c wr).mono ?_
                intro e w1 hh
                rw [hh.1, hh.2, hd]
                clear hh
                go_wp2
                go_roundw
                case rel => exact ⟨k + 1, by omega, by omega, by go_num, HN.out (by simp at hd; simp [Grain.badN, hl]; omega), by first | rfl | trivial⟩
                case measure => simp [intOf]; omega
              | false =>
                by_cases g : c = 95
                · subst g
                  go_wp2_with fail
                  refine (nletter_any 95 wr).mono ?_
                  intro e w1 hh
                  rw [hh.1, hh.2, hl]
                  clear hh
                  go_wp2_with fail
                  refine (ndigit_any 95 wr).mono ?_
                  intro e w1 hh
                  rw [hh.1, hh.2, hd]
                  clear hh
                  go_wp2
                  go_roundw
                  case rel => exact ⟨k + 1, by omega, by omega, by go_num, HN.out (by simp [Grain.badN]; omega), by first | rfl | trivial⟩
                  case measure => simp [intOf]; omega
                · have g' : (c != 95) = true := by simpa using g
                  go_wp2_with fail
                  refine (nletter_any c wr).mono ?_
                  intro e w1 hh
                  rw [hh.1, hh.2, hl]
                  clear hh
                  go_wp2_with fail
                  refine (ndigit_any c wr).mono ?_
                  intro e w1 hh
                  rw [hh.1, hh.2, hd]
                  clear hh
                  go_wp2
                  go_ret
                  exact ⟨ret_bool (HB.out (by simp at hd; simp [Grain.badN, hl]; omega)).symm, rfl⟩
          · have he : k = s.size := by omega
            subst he
            have HE : Hid (Grain.named s = true) := by
              show Grain.named s = _
              unfold Grain.named
              rw [HF.out]
              simp; omega
            clear HF
            go_wp2
            go_ret
            exact ⟨ret_bool HE.out.symm, rfl⟩
    · have e1 : decide ((12 : Int) < (s.size : Int)) = true := by simp; omega
      have HF : Hid (Grain.named s = false) := by
        show _ = _
        unfold Grain.named
        simp; omega
      go_enter Try.func42, Try.ntmps42
      go_wp2
      go_ret
      exact ⟨ret_bool HF.out.symm, rfl⟩
  · have e0 : ((s.size : Int) == 0) = true := by rw [beq_iff_eq]; omega
    have HF : Hid (Grain.named s = false) := by
      show _ = _
      unfold Grain.named
      rw [decide_eq_false h0]; simp
    go_enter Try.func42, Try.ntmps42
    go_wp2
    go_ret
    exact ⟨ret_bool HF.out.symm, rfl⟩

end Go.Proofs.Ytcgcefnfelmmkaa
