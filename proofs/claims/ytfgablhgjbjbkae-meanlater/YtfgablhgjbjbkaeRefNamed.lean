/-
  The walk of the document's Named.
-/
import Derived.Test.YtfgablhgjbjbkaeRows
import Derived.Test.YtfgablhgjbjbkaeUtil
import Derived.Test.YtfgablhgjbjbkaeNamesM
import Derived.Laws.IdiomStrings
namespace Go.Proofs.Ytfgablhgjbjbkae
open Go.RowKit Go.GrainU

/-- the bytes of a word, laid in memory -/
theorem bytes_new (w : World) (s : ByteArray) (cap : Nat) (t : TypeId) (fr : Nat × Nat) : ∃ W, W = w.drew.alloc (.cells (bytesRow s cap) t fr) ∧ (∀ k, k < s.size → W.cell? ⟨w.heap.size, k, none⟩ = some (.int .u8 (Grain.byt s k))) ∧ Below w.heap.size w W := by
  refine ⟨_, rfl, fun k hk => ?_, (below_drewN (Below.refl _ w) 1).alloc (Nat.le_refl _) _⟩
  have hb : (w.drew.alloc (.cells (bytesRow s cap) t fr)).heap[w.heap.size]? = some (.cells (bytesRow s cap) t fr) := heap_alloc_new w.drew _
  have hk' : k < s.data.size := hk
  rw [cell_of_row _ _ _ _ _ _ hb]
  unfold bytesRow Grain.byt
  rw [Array.getElem?_append_left (by simpa using hk')]
  simp only [List.getD, Array.getElem?_toList, Array.getElem?_map, Array.getElem?_eq_getElem hk', Option.map_some, Option.getD_some]

set_option maxHeartbeats 2000000 in
theorem rnamed_any (s : ByteArray) (w : World) (hm : s.size ≤ 9223372036854775807) :
    Calls Try.prog 96 #[.string s] w fun e w' => e = .returned (.bool (Grain.named s)) ∧ Below w.heap.size w w' := by
  have hcv := run_bytes_of_string (P := Try.prog) w 9 159 5 s Try.underlying9 Try.underlying159 Try.underlying5
  obtain ⟨W, hW, hcell, bel⟩ := bytes_new w s (grownCap w s.size 0 5) 5 ((bytesRow s (grownCap w s.size 0 5)).size, (bytesRow s (grownCap w s.size 0 5)).size + 1)
  rw [← hW] at hcv
  have HC := hide hcell
  clear hW hcell
  go_enter Try.func96, Try.ntmps96
  go_wp2
  go_loopw [9] (fun i wr => ∃ k : Nat, k ≤ s.size ∧ i = .int .i64 k ∧ Hid (Grain.fineN s k = true) ∧ wr = W) (fun i _ => s.size - (intOf i).toNat)
  case atStart => exact ⟨0, Nat.zero_le _, rfl, rfl, rfl⟩
  case round =>
    obtain ⟨k, hk, rfl, HF, rfl⟩ := hrel
    by_cases hlt : k < s.size
    · have c0 := HC.out k hlt
      have hbd := Grain.byt_bd s k
      obtain ⟨c, hc⟩ : ∃ c, c = Grain.byt s k := ⟨_, rfl⟩
      rw [← hc] at c0 hbd
      have HB : Hid (Grain.badN k c = true → Grain.named s = false) := by
        intro h
        rw [hc] at h
        unfold Grain.named
        rw [Grain.fineN_no h s.size hlt]
        rfl
      have HN : Hid (Grain.badN k c = false → Grain.fineN s (k + 1) = true) := by
        intro h
        show (Grain.fineN s k && !Grain.badN k (Grain.byt s k)) = true
        rw [← hc, h, HF.out]
        rfl
      clear hcv HF hc
      by_cases h1 : 97 ≤ c ∧ c ≤ 122
      · obtain ⟨h1, h2⟩ := h1
        by_cases hk0 : k = 0
        · subst hk0
          go_wp2
          go_roundw
          case rel => exact ⟨0 + 1, by omega, by go_num, HN.out (by simp [Grain.badN, Grain.low]; omega), by first | rfl | trivial⟩
          case measure => simp [intOf]; omega
        · go_wp2
          go_roundw
          case rel => exact ⟨k + 1, by omega, by go_num, HN.out (by simp [Grain.badN, Grain.low]; omega), by first | rfl | trivial⟩
          case measure => simp [intOf]; omega
      · have hl : (decide (97 ≤ c) && decide (c ≤ 122)) = false := by simp; omega
        by_cases hk0 : k = 0
        · subst hk0
          rcases (show c < 97 ∨ (97 ≤ c ∧ 122 < c) from by omega) with g | ⟨g, g'⟩
          · go_wp2
            go_ret
            exact ⟨ret_bool (HB.out (by simp [Grain.badN, Grain.low]; omega)).symm, bel⟩
          · go_wp2
            go_ret
            exact ⟨ret_bool (HB.out (by simp [Grain.badN, Grain.low]; omega)).symm, bel⟩
        · rcases (show c < 97 ∨ (97 ≤ c ∧ 122 < c) from by omega) with g | ⟨g, g'⟩
          · by_cases g1 : c = 95
            · subst g1
              go_wp2
              go_roundw
              case rel => exact ⟨k + 1, by omega, by go_num, HN.out (by simp [Grain.badN, Grain.low]; omega), by first | rfl | trivial⟩
              case measure => simp [intOf]; omega
            · by_cases g2 : c < 48
              · go_wp2
                go_ret
                exact ⟨ret_bool (HB.out (by simp [Grain.badN, Grain.low]; omega)).symm, bel⟩
              · by_cases g3 : 57 < c
                · go_wp2
                  go_ret
                  exact ⟨ret_bool (HB.out (by simp [Grain.badN, Grain.low]; omega)).symm, bel⟩
                · go_wp2
                  go_roundw
                  case rel => exact ⟨k + 1, by omega, by go_num, HN.out (by simp [Grain.badN, Grain.low]; omega), by first | rfl | trivial⟩
                  case measure => simp [intOf]; omega
          · have d1 : decide (c ≤ 122) = false := by simpa using g'
            have d2 : (c != 95) = true := by simp; omega
            have d3 : decide (c < 48) = false := by simp; omega
            have d4 : decide (57 < c) = true := by simp; omega
            go_wp2
            go_ret
            exact ⟨ret_bool (HB.out (by simp [Grain.badN, Grain.low]; omega)).symm, bel⟩
    · have he : k = s.size := by omega
      subst he
      have HE : Hid (Grain.named s = (decide (0 < s.size) && decide (s.size ≤ 12))) := by
        show Grain.named s = _
        unfold Grain.named
        rw [HF.out]
        rfl
      clear hcv HC
      by_cases h0 : s.size = 0
      · have e0 : decide ((0 : Int) < (s.size : Int)) = false := by simp [h0]
        go_wp2
        go_ret
        exact ⟨ret_bool (by rw [HE.out]; simp [h0]), bel⟩
      · have e0 : decide ((0 : Int) < (s.size : Int)) = true := by simp; omega
        go_wp2
        go_ret
        refine ⟨ret_bool ?_, bel⟩
        rw [HE.out, Bool.eq_iff_iff]
        simp
        omega

end Go.Proofs.Ytfgablhgjbjbkae
