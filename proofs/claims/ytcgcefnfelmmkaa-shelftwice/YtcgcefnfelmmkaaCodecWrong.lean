/-
  The walks of codec's inRange and Wrong.
-/
import Derived.Test.YtcgcefnfelmmkaaRows
import Derived.Test.YtcgcefnfelmmkaaUtil
namespace Go.Proofs.Ytcgcefnfelmmkaa
open Go.RowKit Go.GrainU

set_option maxHeartbeats 400000 in
theorem inRange_any (t v : Int) (w : World) :
    Calls Try.prog 43 #[.agg #[.int .i64 t, .int .i64 v]] w fun e w' => e = .returned (.bool (Grain.inR t v)) ∧ Below w.heap.size w w' := by
  go_enter Try.func43, Try.ntmps43
  go_wp2
  all_goals
    go_ret
    refine ⟨ret_bool ?_, (Below.refl _ _).alloc (Nat.le_refl _) _⟩
    rw [Bool.eq_iff_iff]
    simp [Grain.inR]
    omega

set_option maxHeartbeats 400000 in
theorem wrong_any (l : List (Int × Int)) (ao : Option Addr) (cap : Nat) (w : World) (hs : Seg w ao (scells l)) :
    Calls Try.prog 19 #[.slice ao l.length cap] w fun e w' => e = .returned (.agg #[.int .i64 (Grain.wrong l).1, .int .i64 (Grain.wrong l).2]) ∧ Below w.heap.size w w' := by
  by_cases h5 : 500 < l.length
  · have hw : Grain.wrong l = (5, 0) := by simp [Grain.wrong, h5]
    rw [hw]; clear hw
    go_enter Try.func19, Try.ntmps19
    go_wp2
    exact bodyPost_ret (v := .agg #[.int .i64 5, .int .i64 0]) (by simp [results, Try.results19, go_sem]) rfl ⟨rfl, by go_grown⟩
  · have hw : Grain.wrong l = Grain.wrongF l l.length 0 := by simp [Grain.wrong, h5]
    rw [hw]; clear hw
    have hd : decide ((500 : Int) < (l.length : Int)) = false := by simp; omega
    go_enter Try.func19, Try.ntmps19
    go_wp2
    go_loopw [11] (fun i wr => ∃ k : Nat, k ≤ l.length ∧ i = .int .i64 k ∧ Hid (Grain.wrongF l l.length 0 = Grain.wrongF l (l.length - k) k) ∧ wr.heap[w.heap.size]? = some (.cells #[.int .i64 0, .int .i64 0] 55 (0, 0)) ∧ Below w.heap.size w wr) (fun i _ => l.length - (intOf i).toNat)
    case atStart => exact ⟨0, Nat.zero_le _, rfl, rfl, heap_alloc_new w _, by go_grown⟩
    case round =>
      obtain ⟨k, hk, rfl, HW, hres, hbel⟩ := hrel
      by_cases hlt : k < l.length
      · obtain ⟨b, off, rfl, hcell⟩ := hs.sample hlt
        have hb : b < w.heap.size := World.block_lt_of_cell? w ⟨b, off + k * 2, none⟩ (hcell k hlt).1
        have c0 : wr.cell? ⟨b, off + k * 2, none⟩ = some (.int .i64 (Grain.tm l k)) := (hbel.cell (by exact hb)).trans (hcell k hlt).1
        have c1 : wr.cell? ⟨b, off + k * 2 + 1, none⟩ = some (.int .i64 (Grain.vl l k)) := (hbel.cell (by exact hb)).trans (hcell k hlt).2
        have hB : w.heap.size < wr.heap.size := lt_of_block hres
        go_wp2_with fail
        refine (inRange_any _ _ _).mono ?_
        rintro e w1 ⟨rfl, hb1⟩
        obtain ⟨hc1, hf1⟩ := bcell hb1
        have hsz : wr.heap.size + 1 ≤ w1.heap.size := by have := hb1.size; simpa using this
        have hres1 : w1.heap[w.heap.size]? = some (.cells #[.int .i64 0, .int .i64 0] 55 (0, 0)) := by
          rw [hb1.block _ (by simp; omega), Below.heap_alloc _ _ _ hB]; exact hres
        have hbel1 : Below w.heap.size w w1 := (hbel.alloc (by omega) _).trans (hb1.mono (by simp; omega))
        obtain ⟨r0, r1, r2, r3⟩ := two_cells hres1
        have x0 : w1.cell? ⟨wr.heap.size, 0, none⟩ = some (.int .i64 (Grain.tm l k)) := by
          rw [hc1 _ _ (by simp)]; exact (two_cells (heap_alloc_new wr _)).1
        clear hc1 hf1 hb1 c0 c1 hres hbel
        cases hin : Grain.inR (Grain.tm l k) (Grain.vl l k)
        · have hw : Hid (Grain.wrongF l l.length 0 = (3, (k : Int))) := by
            show Grain.wrongF l l.length 0 = (3, (k : Int))
            rw [HW.out, show l.length - k = (l.length - k - 1) + 1 from by omega, Grain.wrongF_no (by simp [Grain.bad, hin])]; simp [Grain.bad, hin]
          clear HW hin
          go_wp2
          exact bodyPost_ret (v := .agg #[.int .i64 3, .int .i64 k]) (by simp [results, Try.results19, go_sem, r0, r1]) rfl ⟨by rw [hw.out], (hbel1.setCell (Nat.le_refl _) _).setCell (Nat.le_refl _) _⟩
        · rcases Nat.eq_zero_or_pos k with hk0 | hk0
          · subst hk0
            have hg : decide ((0 : Int) < ((0 : Nat) : Int)) = false := by decide
            have hg' : decide ((0 : Int) < 0) = false := by decide
            have hw : Hid (Grain.wrongF l l.length 0 = Grain.wrongF l (l.length - (0 + 1)) (0 + 1)) := by
              show Grain.wrongF l l.length 0 = Grain.wrongF l (l.length - (0 + 1)) (0 + 1)
              rw [HW.out, show l.length - 0 = (l.length - (0 + 1)) + 1 from by omega, Grain.wrongF_ok (by simp [Grain.bad, hin])]
            clear HW hin
            go_wp2
            go_quiet (fail)
            go_wp2
            go_roundw
            case rel => exact ⟨0 + 1, by omega, by go_num, hw, hres1, below_drewN hbel1 _⟩
            case measure => simp [intOf]; omega
          · obtain ⟨m, rfl⟩ : ∃ m, k = m + 1 := ⟨k - 1, by omega⟩
            have hg : decide ((0 : Int) < ((m + 1 : Nat) : Int)) = true := by simp
            have hg' : decide ((0 : Int) < (m : Int) + 1) = true := by simp
            have hw2 : Hid (Grain.tm l (m + 1) ≤ Grain.tm l m → Grain.wrongF l l.length 0 = (2, ((m : Int) + 1))) := by
              intro hle
              rw [HW.out, show l.length - (m + 1) = (l.length - (m + 1) - 1) + 1 from by omega, Grain.wrongF_no (by simp [Grain.bad, hin, hle])]; simp [Grain.bad, hin, hle]
            have hw : Hid (Grain.tm l m < Grain.tm l (m + 1) → Grain.wrongF l l.length 0 = Grain.wrongF l (l.length - (m + 1 + 1)) (m + 1 + 1)) := by
              intro hle
              rw [HW.out, show l.length - (m + 1) = (l.length - (m + 1 + 1)) + 1 from by omega, Grain.wrongF_ok (by simp [Grain.bad, hin]; omega)]
            clear HW hin
            have p0 : w1.cell? ⟨b, off + m * 2, none⟩ = some (.int .i64 (Grain.tm l m)) := (hbel1.cell (by exact hb)).trans (hcell m (by omega)).1
            go_wp2
            go_quiet (fail)
            go_wp2
            · exact bodyPost_ret (v := .agg #[.int .i64 2, .int .i64 ((m : Int) + 1)]) (by simp [results, Try.results19, go_sem, r0, r1]) rfl ⟨by rw [hw2.out (by assumption)], ((below_drewN hbel1 _).setCell (Nat.le_refl _) _).setCell (Nat.le_refl _) _⟩
            · go_roundw
              case rel => exact ⟨m + 1 + 1, by omega, by go_num, hw.out (by assumption), hres1, below_drewN hbel1 _⟩
              case measure => simp [intOf]; omega
      · obtain ⟨r0, r1, r2, r3⟩ := two_cells hres
        have he : k = l.length := by omega
        subst he
        have hw : Hid (Grain.wrongF l l.length 0 = (0, 0)) := by
          show Grain.wrongF l l.length 0 = (0, 0)
          rw [HW.out]; simp [Grain.wrongF]
        clear HW
        go_wp2
        exact bodyPost_ret (v := .agg #[.int .i64 0, .int .i64 0]) (by simp [results, Try.results19, go_sem, r0, r1]) rfl ⟨by rw [hw.out], (hbel.setCell (Nat.le_refl _) _).setCell (Nat.le_refl _) _⟩

theorem wrong_len (l : List (Int × Int)) (ao : Option Addr) (N cap : Nat) (w : World) (hs : Seg w ao (scells l)) (hN : N = l.length) :
    Calls Try.prog 19 #[.slice ao N cap] w fun e w' => e = .returned (.agg #[.int .i64 (Grain.wrong l).1, .int .i64 (Grain.wrong l).2]) ∧ Below w.heap.size w w' := by
  subst hN; exact wrong_any l ao cap w hs

end Go.Proofs.Ytcgcefnfelmmkaa
