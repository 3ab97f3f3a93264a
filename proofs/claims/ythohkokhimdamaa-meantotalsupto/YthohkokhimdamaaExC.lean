/-
  The walks of what is wrong with a window, and an all: the program's.
-/
import Derived.Test.YthohkokhimdamaaExB
namespace Go.Proofs.Ythohkokhimdamaa
open Go.RowKit Go.GrainU

set_option maxHeartbeats 2000000 in
theorem pwindow_any (h : Hd) (ma : Option Addr) (ml mc : Nat) (ba : Option Addr) (bl bc : Nat) (ka : Option Addr) (kl kc : Nat) (w : World) (hM : Seg w ma (mcells h.ms)) (hml : ml = h.ms.length) (lM : ml ≤ 9223372036854775806)
    (fM : ∀ m ∈ h.ms, m.key.size ≤ 9223372036854775807 ∧ m.val.size ≤ 9223372036854775807) :
    Calls Try.prog 74 #[.agg #[.int .i64 h.kind, .int .i64 h.n, .int .i64 h.range, .string h.word, .slice ma ml mc, .slice ba bl bc, .slice ka kl kc]] w fun e w' => e = .returned (.int .i64 (winBad h)) ∧ Below w.heap.size w w' := by
  obtain ⟨R, hR⟩ : ∃ R, R = winBad h := ⟨_, rfl⟩
  rw [← hR]
  have HR := hide hR
  clear hR
  obtain ⟨kd, n, rg, wd, ms, bs⟩ := h
  simp only at hM hml fM ⊢
  have HML := hide hml
  have HFM := hide fM
  clear hml fM
  obtain ⟨W, hW⟩ : ∃ W, W = w.alloc (.cells #[.int .i64 kd, .int .i64 n, .int .i64 rg, .string wd, .slice ma ml mc, .slice ba bl bc, .slice ka kl kc] 27) := ⟨_, rfl⟩
  have bel0 : Below w.heap.size w W := by rw [hW]; exact (Below.refl _ _).alloc (Nat.le_refl _) _
  have F0 : W.heap[w.heap.size]? = some (.cells #[.int .i64 kd, .int .i64 n, .int .i64 rg, .string wd, .slice ma ml mc, .slice ba bl bc, .slice ka kl kc] 27 (0, 0)) := by rw [hW]; exact heap_alloc_new w _
  have HF := hide F0
  have HB := hide bel0
  have HS : Hid (∀ w', Below W.heap.size W w' → w'.cell? ⟨w.heap.size, 3, none⟩ = some (.string wd)) := fun w' hb => (seven_cells (below_block hb F0)).2.2.2.1
  have R0 : Below W.heap.size W W := Below.refl _ _
  have R1 : Below W.heap.size W W.drew := below_drewN (Below.refl _ W) 1
  have HW := hide hW
  clear hW F0 bel0
  cases hw : has words8 wd with
  | false =>
    have HQ : Hid (R = 7) := by show _ = _; rw [HR.out]; unfold winBad; rw [if_pos hw]
    clear HR
    go_enter Try.func74, Try.ntmps74
    go_wp2_with fail
    rw [← HW.out]
    go_region_held3 (fun w' => w'.cell? ⟨w.heap.size, 3, none⟩ = some (.string wd)) (exact HS.out _ (by assumption))
      (first
        | (go_at_call 82; refine (pwords_any _).mono ?_; rintro e w1 ⟨g, rfl, sg, b1⟩; have R2 := below_step7 b1 (by assumption))
        | (go_at_call 65; refine (ncont_any words8 wd _ 8 8 _ (by assumption) rfl (by decide)).mono ?_; intro e w2 hh; rw [hh.1, hh.2, hw]; clear hh))
    all_goals
      go_wp2_with fail
      go_ret
      exact ⟨ret_int (a := 7) HQ.out.symm, HB.out.trans ((by assumption : Below W.heap.size W _).mono HB.out.size)⟩
  | true =>
    go_enter Try.func74, Try.ntmps74
    go_wp2_with fail
    rw [← HW.out]
    go_region_held3 (fun w' => w'.cell? ⟨w.heap.size, 3, none⟩ = some (.string wd)) (exact HS.out _ (by assumption))
      (first
        | (go_at_call 82; refine (pwords_any _).mono ?_; rintro e w1 ⟨g, rfl, sg, b1⟩; have R2 := below_step7 b1 (by assumption))
        | (go_at_call 65; refine (ncont_any words8 wd _ 8 8 _ (by assumption) rfl (by decide)).mono ?_; intro e w2 hh; rw [hh.1, hh.2, hw]; clear hh))
    obtain ⟨p0, p1, p2, p3, p4, p5, p6⟩ := seven_cells (below_block R2 HF.out)
    by_cases h5 : 5 < ml
    · have HQ : Hid (R = 5) := by show _ = _; rw [HR.out]; unfold winBad; rw [if_neg (by simp [hw]), if_pos (by have := HML.out; simp only; omega)]
      have h5' : (5 : Int) < (ml : Int) := by omega
      clear HR
      go_wp2_with fail
      go_ret
      exact ⟨ret_int (a := 5) HQ.out.symm, HB.out.trans (R2.mono HB.out.size)⟩
    have h5' : ¬ (5 : Int) < (ml : Int) := by omega
    have HQ : Hid (R = if msBad ms = 0 then (if rg < 1 ∨ 100000 < rg then 3 else 0) else msBad ms) := by
      show _ = _; rw [HR.out]; unfold winBad; rw [if_neg (by simp [hw]), if_neg (by have := HML.out; simp only; omega)]
    clear HR HS R0 R1 hw
    go_wp2_with fail
    clear p0 p1 p2 p3 p4 p5 p6
    go_loopw [18] (fun i wr => ∃ k : Nat, k ≤ ml ∧ i = .int .i64 k ∧ Hid (msBad (ms.take k) = 0) ∧ Below W.heap.size W wr) (fun i _ => ml - (intOf i).toNat)
    case atStart => exact ⟨0, Nat.zero_le _, rfl, by show _ = _; simp [msBad], R2⟩
    case round =>
      obtain ⟨k, hk, rfl, HJ, bel⟩ := hrel
      have belw : Below w.heap.size w wr := HB.out.trans (bel.mono HB.out.size)
      by_cases hlt : k < ml
      · have hkl : k < ms.length := by rw [← HML.out]; exact hlt
        obtain ⟨b, off, rfl, hbl, hcell⟩ := seg_match hM hkl
        obtain ⟨m, hm⟩ : ∃ m, m = mt ms k := ⟨_, rfl⟩
        obtain ⟨q0, q1, q2⟩ := hcell k hkl
        rw [← hm] at q0 q1 q2
        have c0 := (belw.cell (p := ⟨b, off + k * 3, none⟩) (by exact hbl)).trans q0
        have c1 := (belw.cell (p := ⟨b, off + k * 3 + 1, none⟩) (by exact hbl)).trans q1
        have c2 := (belw.cell (p := ⟨b, off + k * 3 + 2, none⟩) (by exact hbl)).trans q2
        have HF2 := hide (HFM.out m (by rw [hm]; exact mt_mem hkl))
        have Hm := hide hm
        clear q0 q1 q2 hcell hm
        obtain ⟨mk, mkey, mval⟩ := m
        simp only at c0 c1 c2 HF2
        go_wp2_with fail
        have belV : Below W.heap.size W (wr.alloc (.cells #[.int .i64 mk, .string mkey, .string mval] 107)) := bel.alloc bel.size _
        refine (pmatch_any mk mkey mval _ HF2.out.1 HF2.out.2).mono ?_
        rintro e w3 ⟨rfl, b3⟩
        have bel3 : Below W.heap.size W w3 := belV.trans (b3.mono belV.size)
        obtain ⟨D, hD⟩ : ∃ D, D = mBad ⟨mk, mkey, mval⟩ := ⟨_, rfl⟩
        rw [← hD]
        have HD := hide hD
        clear hD
        by_cases hD0 : D = 0
        · have HJ' : Hid (msBad (ms.take (k + 1)) = 0) := msBad_take hkl HJ.out (by rw [← Hm.out, ← HD.out]; exact hD0)
          have eD : (D == 0) = true := by simp [hD0]
          clear hD0
          go_wp2
          go_roundw
          case rel => exact ⟨k + 1, by omega, by go_num, HJ', bel3⟩
          case measure => simp [intOf]; omega
        · have eD : (D == 0) = false := by simp [hD0]
          have HX : Hid (msBad ms = D) := by show _ = _; rw [msBad_at hkl HJ.out (by rw [← Hm.out, ← HD.out]; exact hD0), ← Hm.out]; exact HD.out.symm
          go_wp2
          go_ret
          exact ⟨ret_int (a := D) (by rw [HQ.out, HX.out, if_neg hD0]), HB.out.trans (bel3.mono HB.out.size)⟩
      · have HX : Hid (msBad ms = 0) := msBad_end (by have := HML.out; omega) HJ.out
        obtain ⟨p0, p1, p2, p3, p4, p5, p6⟩ := seven_cells (below_block bel HF.out)
        go_wp2_with fail
        refine (poutside_any rg 1 100000 _).mono ?_
        intro e w3 hh
        rw [hh.1, hh.2]
        clear hh
        obtain ⟨D, hD⟩ : ∃ D, D = if rg < 1 ∨ 100000 < rg then (3 : Int) else 0 := ⟨_, rfl⟩
        rw [← hD]
        have HD := hide hD
        clear hD
        go_wp2
        go_ret
        exact ⟨ret_int (a := D) (by rw [HQ.out, HX.out, if_pos rfl]; exact HD.out), belw⟩

set_option maxHeartbeats 2000000 in
theorem pall_any (h : Hd) (ma : Option Addr) (ml mc : Nat) (ba : Option Addr) (bl bc : Nat) (ka : Option Addr) (kl kc : Nat) (w : World) (hM : Seg w ba (wcells h.bs)) (hml : bl = h.bs.length) (lM : bl ≤ 9223372036854775806)
    (fM : ∀ b ∈ h.bs, b.size ≤ 9223372036854775807) :
    Calls Try.prog 75 #[.agg #[.int .i64 h.kind, .int .i64 h.n, .int .i64 h.range, .string h.word, .slice ma ml mc, .slice ba bl bc, .slice ka kl kc]] w fun e w' => e = .returned (.int .i64 (allBad h)) ∧ Below w.heap.size w w' := by
  obtain ⟨R, hR⟩ : ∃ R, R = allBad h := ⟨_, rfl⟩
  rw [← hR]
  have HR := hide hR
  clear hR
  obtain ⟨kd, n, rg, wd, ms, bs⟩ := h
  simp only at hM hml fM ⊢
  have HML := hide hml
  have HFM := hide fM
  clear hml fM
  obtain ⟨W, hW⟩ : ∃ W, W = w.alloc (.cells #[.int .i64 kd, .int .i64 n, .int .i64 rg, .string wd, .slice ma ml mc, .slice ba bl bc, .slice ka kl kc] 27) := ⟨_, rfl⟩
  have bel0 : Below w.heap.size w W := by rw [hW]; exact (Below.refl _ _).alloc (Nat.le_refl _) _
  have F0 : W.heap[w.heap.size]? = some (.cells #[.int .i64 kd, .int .i64 n, .int .i64 rg, .string wd, .slice ma ml mc, .slice ba bl bc, .slice ka kl kc] 27 (0, 0)) := by rw [hW]; exact heap_alloc_new w _
  have HF := hide F0
  have HB := hide bel0
  have HS : Hid (∀ w', Below W.heap.size W w' → w'.cell? ⟨w.heap.size, 3, none⟩ = some (.string wd)) := fun w' hb => (seven_cells (below_block hb F0)).2.2.2.1
  have R0 : Below W.heap.size W W := Below.refl _ _
  have R1 : Below W.heap.size W W.drew := below_drewN (Below.refl _ W) 1
  have HW := hide hW
  clear hW F0 bel0
  cases hw : has totals4 wd with
  | false =>
    have HQ : Hid (R = 7) := by show _ = _; rw [HR.out]; unfold allBad; rw [if_pos hw]
    clear HR
    go_enter Try.func75, Try.ntmps75
    go_wp2_with fail
    rw [← HW.out]
    go_region_held3 (fun w' => w'.cell? ⟨w.heap.size, 3, none⟩ = some (.string wd)) (exact HS.out _ (by assumption))
      (first
        | (go_at_call 84; refine (ptotals_any _).mono ?_; rintro e w1 ⟨g, rfl, sg, b1⟩; have R2 := below_step7 b1 (by assumption))
        | (go_at_call 65; refine (ncont_any totals4 wd _ 4 4 _ (by assumption) rfl (by decide)).mono ?_; intro e w2 hh; rw [hh.1, hh.2, hw]; clear hh))
    all_goals
      go_wp2_with fail
      go_ret
      exact ⟨ret_int (a := 7) HQ.out.symm, HB.out.trans ((by assumption : Below W.heap.size W _).mono HB.out.size)⟩
  | true =>
    go_enter Try.func75, Try.ntmps75
    go_wp2_with fail
    rw [← HW.out]
    go_region_held3 (fun w' => w'.cell? ⟨w.heap.size, 3, none⟩ = some (.string wd)) (exact HS.out _ (by assumption))
      (first
        | (go_at_call 84; refine (ptotals_any _).mono ?_; rintro e w1 ⟨g, rfl, sg, b1⟩; have R2 := below_step7 b1 (by assumption))
        | (go_at_call 65; refine (ncont_any totals4 wd _ 4 4 _ (by assumption) rfl (by decide)).mono ?_; intro e w2 hh; rw [hh.1, hh.2, hw]; clear hh))
    obtain ⟨p0, p1, p2, p3, p4, p5, p6⟩ := seven_cells (below_block R2 HF.out)
    by_cases h5 : 4 < bl
    · have HQ : Hid (R = 5) := by show _ = _; rw [HR.out]; unfold allBad; rw [if_neg (by simp [hw]), if_pos (by have := HML.out; simp only; omega)]
      have h5' : (4 : Int) < (bl : Int) := by omega
      clear HR
      go_wp2_with fail
      go_ret
      exact ⟨ret_int (a := 5) HQ.out.symm, HB.out.trans (R2.mono HB.out.size)⟩
    have h5' : ¬ (4 : Int) < (bl : Int) := by omega
    have HQ : Hid (R = if bs.all Grain.named = true then 0 else 7) := by
      show _ = _; rw [HR.out]; unfold allBad; rw [if_neg (by simp [hw]), if_neg (by have := HML.out; simp only; omega)]
    clear HR HS R0 R1 hw
    go_wp2_with fail
    clear p0 p1 p2 p3 p4 p5 p6
    go_loopw [17] (fun i wr => ∃ k : Nat, k ≤ bl ∧ i = .int .i64 k ∧ Hid ((bs.take k).all Grain.named = true) ∧ Below W.heap.size W wr) (fun i _ => bl - (intOf i).toNat)
    case atStart => exact ⟨0, Nat.zero_le _, rfl, by show _ = _; simp, R2⟩
    case round =>
      obtain ⟨k, hk, rfl, HJ, bel⟩ := hrel
      have belw : Below w.heap.size w wr := HB.out.trans (bel.mono HB.out.size)
      by_cases hlt : k < bl
      · have hkl : k < bs.length := by rw [← HML.out]; exact hlt
        obtain ⟨b, off, rfl, hbl, hcell⟩ := seg_word hM hkl
        obtain ⟨x, hx⟩ : ∃ x, x = bs.getD k ⟨#[]⟩ := ⟨_, rfl⟩
        have q0 := hcell k hkl
        rw [← hx] at q0
        have c0 := (belw.cell (p := ⟨b, off + k, none⟩) (by exact hbl)).trans q0
        have HF2 := hide (HFM.out x (by rw [hx]; exact getD_mem hkl))
        have Hm := hide hx
        clear q0 hcell hx
        cases hD : Grain.named x with
        | true =>
          have HJ' : Hid ((bs.take (k + 1)).all Grain.named = true) := all_take hkl HJ.out (by rw [← Hm.out]; exact hD)
          go_wp2_with fail
          refine (nnamed_any x _ HF2.out).mono ?_
          intro e w3 hh
          rw [hh.1, hh.2, hD]
          clear hh
          go_wp2
          go_roundw
          case rel => exact ⟨k + 1, by omega, by go_num, HJ', bel⟩
          case measure => simp [intOf]; omega
        | false =>
          have HX : Hid (bs.all Grain.named = false) := all_at hkl (by rw [← Hm.out]; exact hD)
          go_wp2_with fail
          refine (nnamed_any x _ HF2.out).mono ?_
          intro e w3 hh
          rw [hh.1, hh.2, hD]
          clear hh
          go_wp2
          go_ret
          exact ⟨ret_int (a := 7) (by rw [HQ.out, HX.out]; rfl), belw⟩
      · have HX : Hid (bs.all Grain.named = true) := all_end (by have := HML.out; omega) HJ.out
        go_wp2_with fail
        go_ret
        exact ⟨ret_int (a := 0) (by rw [HQ.out, HX.out]; rfl), belw⟩

end Go.Proofs.Ythohkokhimdamaa
