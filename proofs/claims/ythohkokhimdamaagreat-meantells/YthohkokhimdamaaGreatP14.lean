/-
  The walk of the document's Named.
-/
import Derived.Test.YthohkokhimdamaaGreatP13
import Derived.Test.YthohkokhimdamaaGreatRows
import Derived.Test.YthohkokhimdamaaGreatP01
import Derived.Test.YthohkokhimdamaaGreatP02
import Derived.Laws.IdiomStrings
/-
  The walk of the document's Wrong.
-/
namespace Go.Proofs.YthohkokhimdamaaGreat
open Go.RowKit Go.GrainU

set_option maxHeartbeats 1000000 in
theorem rwrongC_any (l : List (Int × Int)) (ao : Option Addr) (n cap : Nat) (w : World) (hs : Seg w ao (scells l)) (hn : n = l.length) :
    Calls Tryz.prog 24 #[.slice ao n cap] w fun e w' => e = .returned (.agg #[.int .i64 (Grain.wrong l).1, .int .i64 (Grain.wrong l).2]) ∧ Below w.heap.size w w' := by
  subst hn
  by_cases h5 : 500 < l.length
  · have hw : Grain.wrong l = (5, 0) := by simp [Grain.wrong, h5]
    rw [hw]; clear hw
    go_enter Tryz.func24, Tryz.ntmps24
    go_wp2
    exact bodyPost_ret (v := .agg #[.int .i64 5, .int .i64 0]) (by simp [results, Tryz.results24, go_sem]) rfl ⟨rfl, by go_grown⟩
  · have hw : Grain.wrong l = Grain.wrongF l l.length 0 := by simp [Grain.wrong, h5]
    rw [hw]; clear hw
    have hd : decide ((500 : Int) < (l.length : Int)) = false := by simp; omega
    go_enter Tryz.func24, Tryz.ntmps24
    go_wp2
    go_loopw [11] (fun i wr => ∃ k : Nat, k ≤ l.length ∧ i = .int .i64 k ∧ Hid (Grain.wrongF l l.length 0 = Grain.wrongF l (l.length - k) k) ∧ wr.heap[w.heap.size]? = some (.cells #[.int .i64 0, .int .i64 0] 34 (0, 0)) ∧ Below w.heap.size w wr) (fun i _ => l.length - (intOf i).toNat)
    case atStart => exact ⟨0, Nat.zero_le _, rfl, rfl, heap_alloc_new w _, by go_grown⟩
    case round =>
      obtain ⟨k, hk, rfl, HW, hres, hbel⟩ := hrel
      by_cases hlt : k < l.length
      · obtain ⟨b, off, rfl, hcell⟩ := hs.sample hlt
        have hb : b < w.heap.size := World.block_lt_of_cell? w ⟨b, off + k * 2, none⟩ (hcell k hlt).1
        have c0 : wr.cell? ⟨b, off + k * 2, none⟩ = some (.int .i64 (Grain.tm l k)) := (hbel.cell (by exact hb)).trans (hcell k hlt).1
        have c1 : wr.cell? ⟨b, off + k * 2 + 1, none⟩ = some (.int .i64 (Grain.vl l k)) := (hbel.cell (by exact hb)).trans (hcell k hlt).2
        have hB : w.heap.size < wr.heap.size := lt_of_block hres
        obtain ⟨r0, r1, r2, r3⟩ := two_cells hres
        have hbel1 : Below w.heap.size w (wr.alloc (.cells #[.int .i64 (Grain.tm l k), .int .i64 (Grain.vl l k)] 54)) := hbel.alloc (by omega) _
        have hres1 : (wr.alloc (.cells #[.int .i64 (Grain.tm l k), .int .i64 (Grain.vl l k)] 54)).heap[w.heap.size]? = some (.cells #[.int .i64 0, .int .i64 0] 34 (0, 0)) := by
          rw [Below.heap_alloc _ _ _ hB]; exact hres
        have fin : Hid (Grain.inR (Grain.tm l k) (Grain.vl l k) = false → Grain.wrongF l l.length 0 = (3, (k : Int))) := by
          intro hin
          rw [HW.out, show l.length - k = (l.length - k - 1) + 1 from by omega, Grain.wrongF_no (by simp [Grain.bad, hin])]; simp [Grain.bad, hin]
        by_cases g1 : Grain.tm l k < 0
        · have hin : Hid (Grain.inR (Grain.tm l k) (Grain.vl l k) = false) := by unfold Hid; simp [Grain.inR]; omega
          clear HW
          go_wp2
          exact bodyPost_ret (v := .agg #[.int .i64 3, .int .i64 k]) (by simp [results, Tryz.results24, go_sem, r0, r1, hB]) rfl ⟨by rw [fin.out hin.out], by go_grown⟩
        · by_cases g2 : 1000000 < Grain.tm l k
          · have hin : Hid (Grain.inR (Grain.tm l k) (Grain.vl l k) = false) := by unfold Hid; simp [Grain.inR]; omega
            clear HW
            go_wp2
            exact bodyPost_ret (v := .agg #[.int .i64 3, .int .i64 k]) (by simp [results, Tryz.results24, go_sem, r0, r1, hB]) rfl ⟨by rw [fin.out hin.out], by go_grown⟩
          · by_cases g3 : 1000000000 < Grain.vl l k
            · have hin : Hid (Grain.inR (Grain.tm l k) (Grain.vl l k) = false) := by unfold Hid; simp [Grain.inR]; omega
              clear HW
              go_wp2
              exact bodyPost_ret (v := .agg #[.int .i64 3, .int .i64 k]) (by simp [results, Tryz.results24, go_sem, r0, r1, hB]) rfl ⟨by rw [fin.out hin.out], by go_grown⟩
            · by_cases g4 : Grain.vl l k < -1000000000
              · have hin : Hid (Grain.inR (Grain.tm l k) (Grain.vl l k) = false) := by unfold Hid; simp [Grain.inR]; omega
                clear HW
                go_wp2
                exact bodyPost_ret (v := .agg #[.int .i64 3, .int .i64 k]) (by simp [results, Tryz.results24, go_sem, r0, r1, hB]) rfl ⟨by rw [fin.out hin.out], by go_grown⟩
              · have hin : Grain.inR (Grain.tm l k) (Grain.vl l k) = true := by simp [Grain.inR]; omega
                rcases Nat.eq_zero_or_pos k with hk0 | hk0
                · subst hk0
                  have hg : decide ((0 : Int) < ((0 : Nat) : Int)) = false := by decide
                  have hg' : decide ((0 : Int) < 0) = false := by decide
                  have hw : Hid (Grain.wrongF l l.length 0 = Grain.wrongF l (l.length - (0 + 1)) (0 + 1)) := by
                    show Grain.wrongF l l.length 0 = Grain.wrongF l (l.length - (0 + 1)) (0 + 1)
                    rw [HW.out, show l.length - 0 = (l.length - (0 + 1)) + 1 from by omega, Grain.wrongF_ok (by simp [Grain.bad, hin])]
                  simp only [Nat.zero_mul, Nat.add_zero] at c0 c1
                  clear HW hin fin
                  go_wp2
                  go_quiet (fail)
                  go_wp2
                  go_roundw
                  case rel => exact ⟨0 + 1, by omega, by go_num, hw, hres1, below_drewN hbel1 _⟩
                  case measure => simp [intOf]; omega
                · obtain ⟨m, rfl⟩ : ∃ m, k = m + 1 := ⟨k - 1, by omega⟩
                  have hg : decide ((0 : Int) < ((m + 1 : Nat) : Int)) = true := by simp
                  have hg' : decide ((0 : Int) < (m : Int) + 1) = true := by simp
                  have p0 : wr.cell? ⟨b, off + m * 2, none⟩ = some (.int .i64 (Grain.tm l m)) := (hbel.cell (by exact hb)).trans (hcell m (by omega)).1
                  have hbr : b < wr.heap.size := by omega
                  have hw2 : Hid (Grain.tm l (m + 1) ≤ Grain.tm l m → Grain.wrongF l l.length 0 = (2, ((m : Int) + 1))) := by
                    intro hle
                    rw [HW.out, show l.length - (m + 1) = (l.length - (m + 1) - 1) + 1 from by omega, Grain.wrongF_no (by simp [Grain.bad, hin, hle])]; simp [Grain.bad, hin, hle]
                  have hw : Hid (Grain.tm l m < Grain.tm l (m + 1) → Grain.wrongF l l.length 0 = Grain.wrongF l (l.length - (m + 1 + 1)) (m + 1 + 1)) := by
                    intro hle
                    rw [HW.out, show l.length - (m + 1) = (l.length - (m + 1 + 1)) + 1 from by omega, Grain.wrongF_ok (by simp [Grain.bad, hin]; omega)]
                  clear HW hin fin hcell
                  go_wp2
                  go_quiet (fail)
                  go_wp2
                  · exact bodyPost_ret (v := .agg #[.int .i64 2, .int .i64 ((m : Int) + 1)]) (by simp [results, Tryz.results24, go_sem, r0, r1, hB]) rfl ⟨by rw [hw2.out (by assumption)], ((below_drewN hbel1 _).setCell (Nat.le_refl _) _).setCell (Nat.le_refl _) _⟩
                  · go_roundw
                    case rel => exact ⟨m + 1 + 1, by omega, by go_num, hw.out (by assumption), hres1, below_drewN hbel1 _⟩
                    case measure => simp [intOf]; omega
      · obtain ⟨r0, r1, r2, r3⟩ := two_cells hres
        have he : k = l.length := by omega
        subst he
        have hw : Hid (Grain.wrongF l l.length 0 = (0, 0)) := by
          show Grain.wrongF l l.length 0 = (0, 0)
          rw [HW.out]; simp [Grain.wrongF]
        clear HW
        go_wp2
        exact bodyPost_ret (v := .agg #[.int .i64 0, .int .i64 0]) (by simp [results, Tryz.results24, go_sem, r0, r1]) rfl ⟨by rw [hw.out], (hbel.setCell (Nat.le_refl _) _).setCell (Nat.le_refl _) _⟩

end Go.Proofs.YthohkokhimdamaaGreat

/-
  The walk of the document's Named.
-/
namespace Go.Proofs.YthohkokhimdamaaGreat
open Go.RowKit Go.GrainU

/-- the bytes of a word, laid in memory -/
theorem bytes_new (w : World) (s : ByteArray) (cap : Nat) (t : TypeId) (fr : Nat × Nat) : ∃ W, W = w.drew.alloc (.cells (bytesRow s cap) t fr) ∧ (∀ k, k < s.size → W.cell? ⟨w.heap.size, k, none⟩ = some (.int .u8 (Grain.byt s k))) ∧ Below w.heap.size w W := by
  refine ⟨_, rfl, fun k hk => ?_, (below_drewN (Below.refl _ w) 1).alloc (Nat.le_refl _) _⟩
  have hb : (w.drew.alloc (.cells (bytesRow s cap) t fr)).heap[w.heap.size]? = some (.cells (bytesRow s cap) t fr) := heap_alloc_new w.drew _
  have hk' : k < s.data.size := hk
  rw [cell_of_row _ _ _ _ _ _ hb]
  unfold bytesRow Grain.byt
  rw [Array.getElem?_append_left (by simpa using hk')]
  simp only [List.getD, Array.getElem?_toList, Array.getElem?_map, Array.getElem?_eq_getElem hk', Option.map_some, Option.getD_some]

set_option maxHeartbeats 2000000 in
theorem rnamed_any (s : ByteArray) (w : World) (hm : s.size ≤ 9223372036854775807) :
    Calls Tryz.prog 48 #[.string s] w fun e w' => e = .returned (.bool (Grain.named s)) ∧ Below w.heap.size w w' := by
  have hcv := run_bytes_of_string (P := Tryz.prog) w 9 109 5 s Tryz.underlying9 Tryz.underlying109 Tryz.underlying5
  obtain ⟨W, hW, hcell, bel⟩ := bytes_new w s (grownCap w s.size 0 5) 5 ((bytesRow s (grownCap w s.size 0 5)).size, (bytesRow s (grownCap w s.size 0 5)).size + 1)
  rw [← hW] at hcv
  have HC := hide hcell
  clear hW hcell
  go_enter Tryz.func48, Tryz.ntmps48
  go_wp2
  go_loopw [9] (fun i wr => ∃ k : Nat, k ≤ s.size ∧ i = .int .i64 k ∧ Hid (Grain.fineN s k = true) ∧ wr = W) (fun i _ => s.size - (intOf i).toNat)
  case atStart => exact ⟨0, Nat.zero_le _, rfl, rfl, rfl⟩
  case round =>
    obtain ⟨k, hk, rfl, HF, rfl⟩ := hrel
    by_cases hlt : k < s.size
    · have c0 := HC.out k hlt
      have hbd := Grain.byt_bd s k
      obtain ⟨c, hc⟩ : ∃ c, c = Grain.byt s k := ⟨_, rfl⟩
      rw [← hc] at c0 hbd
      have HB : Hid (Grain.badN k c = true → Grain.named s = false) := by
        intro h
        rw [hc] at h
        unfold Grain.named
        rw [Grain.fineN_no h s.size hlt]
        rfl
      have HN : Hid (Grain.badN k c = false → Grain.fineN s (k + 1) = true) := by
        intro h
        show (Grain.fineN s k && !Grain.badN k (Grain.byt s k)) = true
        rw [← hc, h, HF.out]
        rfl
      clear hcv HF hc
      by_cases h1 : 97 ≤ c ∧ c ≤ 122
      · obtain ⟨h1, h2⟩ := h1
        by_cases hk0 : k = 0
        · subst hk0
          go_wp2
          go_roundw
          case rel => exact ⟨0 + 1, by omega, by go_num, HN.out (by simp [Grain.badN, Grain.low]; omega), by first | rfl | trivial⟩
          case measure => simp [intOf]; omega
        · go_wp2
          go_roundw
          case rel => exact ⟨k + 1, by omega, by go_num, HN.out (by simp [Grain.badN, Grain.low]; omega), by first | rfl | trivial⟩
          case measure => simp [intOf]; omega
      · have hl : (decide (97 ≤ c) && decide (c ≤ 122)) = false := by simp; omega
        by_cases hk0 : k = 0
        · subst hk0
          rcases (show c < 97 ∨ (97 ≤ c ∧ 122 < c) from by omega) with g | ⟨g, g'⟩
          · go_wp2
            go_ret
            exact ⟨ret_bool (HB.out (by simp [Grain.badN, Grain.low]; omega)).symm, bel⟩
          · go_wp2
            go_ret
            exact ⟨ret_bool (HB.out (by simp [Grain.badN, Grain.low]; omega)).symm, bel⟩
        · rcases (show c < 97 ∨ (97 ≤ c ∧ 122 < c) from by omega) with g | ⟨g, g'⟩
          · by_cases g1 : c = 95
            · subst g1
              go_wp2
              go_roundw
              case rel => exact ⟨k + 1, by omega, by go_num, HN.out (by simp [Grain.badN, Grain.low]; omega), by first | rfl | trivial⟩
              case measure => simp [intOf]; omega
            · by_cases g2 : c < 48
              · go_wp2
                go_ret
                exact ⟨ret_bool (HB.out (by simp [Grain.badN, Grain.low]; omega)).symm, bel⟩
              · by_cases g3 : 57 < c
                · go_wp2
                  go_ret
                  exact ⟨ret_bool (HB.out (by simp [Grain.badN, Grain.low]; omega)).symm, bel⟩
                · go_wp2
                  go_roundw
                  case rel => exact ⟨k + 1, by omega, by go_num, HN.out (by simp [Grain.badN, Grain.low]; omega), by first | rfl | trivial⟩
                  case measure => simp [intOf]; omega
          · have d1 : decide (c ≤ 122) = false := by simpa using g'
            have d2 : (c != 95) = true := by simp; omega
            have d3 : decide (c < 48) = false := by simp; omega
            have d4 : decide (57 < c) = true := by simp; omega
            go_wp2
            go_ret
            exact ⟨ret_bool (HB.out (by simp [Grain.badN, Grain.low]; omega)).symm, bel⟩
    · have he : k = s.size := by omega
      subst he
      have HE : Hid (Grain.named s = (decide (0 < s.size) && decide (s.size ≤ 12))) := by
        show Grain.named s = _
        unfold Grain.named
        rw [HF.out]
        rfl
      clear hcv HC
      by_cases h0 : s.size = 0
      · have e0 : decide ((0 : Int) < (s.size : Int)) = false := by simp [h0]
        go_wp2
        go_ret
        exact ⟨ret_bool (by rw [HE.out]; simp [h0]), bel⟩
      · have e0 : decide ((0 : Int) < (s.size : Int)) = true := by simp; omega
        go_wp2
        go_ret
        refine ⟨ret_bool ?_, bel⟩
        rw [HE.out, Bool.eq_iff_iff]
        simp
        omega

end Go.Proofs.YthohkokhimdamaaGreat
