/-
  The walks of what is wrong with a window, and an all: the program's.
-/
import Derived.Test.YthohkokhimdamaaGreatP16
import Derived.Test.YthohkokhimdamaaGreatP17
import Derived.Deep.RegionHeld3
import Derived.Deep.CutRange
/-
  The walks of what is wrong with an expression, whatever its kids are: the program's.
-/
namespace Go.GrainU
open Go.RowKit

theorem mBad_lo {k : Int} {a b : ByteArray} (h : k < 1 ∨ 4 < k) : mBad ⟨k, a, b⟩ = 1 := by unfold mBad; rw [if_pos h]
theorem mBad_key {k : Int} {a b : ByteArray} (h1 : 1 ≤ k) (h2 : k ≤ 4) (h : Grain.named a = false) : mBad ⟨k, a, b⟩ = 7 := by
  unfold mBad; rw [if_neg (by simp only; omega), if_neg (by simp [h])]
theorem mBad_val {k : Int} {a b : ByteArray} (h1 : 1 ≤ k) (h2 : k ≤ 2) (ha : Grain.named a = true) : mBad ⟨k, a, b⟩ = if Grain.named b = true then 0 else 7 := by
  unfold mBad; rw [if_neg (by simp only; omega)]; simp only [ha, Bool.true_and, show (decide (2 < k)) = false from by simp; omega, Bool.false_or]
theorem mBad_has {k : Int} {a b : ByteArray} (h1 : 3 ≤ k) (h2 : k ≤ 4) (ha : Grain.named a = true) : mBad ⟨k, a, b⟩ = 0 := by
  unfold mBad; rw [if_neg (by simp only; omega), if_pos (by simp [ha]; left; omega)]

theorem below_step7 {W V w' : World} (hb : Below V.heap.size V w') (h : Below W.heap.size W V) : Below W.heap.size W w' := h.trans (hb.mono h.size)

theorem three_cells7 {w : World} {B : Nat} {x0 x1 x2 : Value} {t : TypeId} (h : w.heap[B]? = some (.cells #[x0, x1, x2] t (0, 0))) :
    w.cell? ⟨B, 0, none⟩ = some x0 ∧ w.cell? ⟨B, 1, none⟩ = some x1 ∧ w.cell? ⟨B, 2, none⟩ = some x2 := by
  simp [World.cell?, h]

theorem word_not {x : ByteArray} {l : List UInt8} (h : x ≠ lit l) : (x.toList == l) = false := by
  rw [beq_eq_false_iff_ne]
  intro e
  apply h
  apply toList_inj
  rw [e, ByteArray.toList_eq]
  simp [lit]

theorem msBad_take {l : List Mt} {k : Nat} (h : k < l.length) (h0 : msBad (l.take k) = 0) (h' : mBad (mt l k) = 0) : msBad (l.take (k + 1)) = 0 := by
  rw [take_mt h]
  generalize l.take k = a at h0
  induction a with
  | nil => simp [msBad, h']
  | cons x r ih =>
    simp only [msBad] at h0
    split at h0
    · rename_i e
      simp only [List.cons_append, msBad, if_pos e]
      exact ih h0
    · rename_i e; exact absurd h0 e

theorem msBad_at {l : List Mt} {k : Nat} (h : k < l.length) (h0 : msBad (l.take k) = 0) (h' : mBad (mt l k) ≠ 0) : msBad l = mBad (mt l k) := by
  induction l generalizing k with
  | nil => simp at h
  | cons x r ih =>
    match k, h with
    | 0, _ => simp [mt] at h'; simp [mt, msBad, h']
    | k + 1, h =>
      simp only [List.take_succ_cons, msBad] at h0
      split at h0
      · rename_i e
        have g : mt (x :: r) (k + 1) = mt r k := by simp [mt]
        rw [g] at h' ⊢
        simp only [msBad, if_pos e]
        exact ih (by simpa using h) h0 h'
      · rename_i e; exact absurd h0 e

theorem msBad_end {l : List Mt} {k : Nat} (hk : k = l.length) (h : msBad (l.take k) = 0) : msBad l = 0 := by rw [hk, List.take_length] at h; exact h

theorem mt_mem {l : List Mt} {k : Nat} (h : k < l.length) : mt l k ∈ l := by simp [mt, List.getD, List.getElem?_eq_getElem h]

theorem all_take {l : List ByteArray} {k : Nat} (h : k < l.length) (h0 : (l.take k).all Grain.named = true) (h' : Grain.named (l.getD k ⟨#[]⟩) = true) : (l.take (k + 1)).all Grain.named = true := by
  rw [List.take_add_one, List.getElem?_eq_getElem h, List.all_append, h0]
  simp [List.getD, List.getElem?_eq_getElem h] at h'
  simp [h']

theorem all_at {l : List ByteArray} {k : Nat} (h : k < l.length) (h' : Grain.named (l.getD k ⟨#[]⟩) = false) : l.all Grain.named = false := by
  rw [List.all_eq_false]
  refine ⟨l[k], List.getElem_mem h, ?_⟩
  simp [List.getD, List.getElem?_eq_getElem h] at h'
  simp [h']

theorem all_end {l : List ByteArray} {k : Nat} (hk : k = l.length) (h : (l.take k).all Grain.named = true) : l.all Grain.named = true := by rw [hk, List.take_length] at h; exact h

theorem getD_mem {l : List ByteArray} {k : Nat} (h : k < l.length) : l.getD k ⟨#[]⟩ ∈ l := by simp [List.getD, List.getElem?_eq_getElem h]

end Go.GrainU
namespace Go.Proofs.YthohkokhimdamaaGreat
open Go.RowKit Go.GrainU

set_option maxHeartbeats 1000000 in
theorem pmatch_any (k : Int) (a b : ByteArray) (w : World) (ha : a.size ≤ 9223372036854775807) (hb : b.size ≤ 9223372036854775807) :
    Calls Tryz.prog 100 #[.agg #[.int .i64 k, .string a, .string b]] w fun e w' => e = .returned (.int .i64 (mBad ⟨k, a, b⟩)) ∧ Below w.heap.size w w' := by
  have bel : Below w.heap.size w (w.alloc (.cells #[.int .i64 k, .string a, .string b] 86)) := (Below.refl _ _).alloc (Nat.le_refl _) _
  obtain ⟨R, hR⟩ : ∃ R, R = mBad ⟨k, a, b⟩ := ⟨_, rfl⟩
  rw [← hR]
  have HR := hide hR
  clear hR
  by_cases h1 : k < 1
  · go_enter Tryz.func100, Tryz.ntmps100
    go_wp2_with fail
    go_ret
    exact ⟨ret_int (a := 1) (by rw [HR.out, mBad_lo (.inl h1)]), bel⟩
  by_cases h2 : 4 < k
  · go_enter Tryz.func100, Tryz.ntmps100
    go_wp2_with fail
    go_ret
    exact ⟨ret_int (a := 1) (by rw [HR.out, mBad_lo (.inr h2)]), bel⟩
  cases hA : Grain.named a with
  | false =>
    have HQ : Hid (R = 7) := by show _ = _; rw [HR.out, mBad_key (by omega) (by omega) hA]
    rcases (show k = 1 ∨ k = 2 ∨ k = 3 ∨ k = 4 by omega) with rfl | rfl | rfl | rfl
    all_goals
      go_enter Tryz.func100, Tryz.ntmps100
      go_wp2_with fail
      refine (nnamed_any a _ ha).mono ?_
      intro e w1 hh
      rw [hh.1, hh.2, hA]
      clear hh
      go_wp2_with fail
      go_ret
      exact ⟨ret_int (a := 7) HQ.out.symm, bel⟩
  | true =>
    by_cases h3 : k ≤ 2
    · have HQ : Hid (R = if Grain.named b = true then 0 else 7) := by show _ = _; rw [HR.out, mBad_val (by omega) h3 hA]
      cases hB : Grain.named b with
      | true =>
        rw [if_pos hB] at HQ
        rcases (show k = 1 ∨ k = 2 by omega) with rfl | rfl
        all_goals
          go_enter Tryz.func100, Tryz.ntmps100
          go_wp2_with fail
          refine (nnamed_any a _ ha).mono ?_
          intro e w1 hh
          rw [hh.1, hh.2, hA]
          clear hh
          go_wp2_with fail
          refine (nnamed_any b _ hb).mono ?_
          intro e w1 hh
          rw [hh.1, hh.2, hB]
          clear hh
          go_wp2_with fail
          go_ret
          exact ⟨ret_int (a := 0) HQ.out.symm, bel⟩
      | false =>
        rw [if_neg (by simp [hB])] at HQ
        rcases (show k = 1 ∨ k = 2 by omega) with rfl | rfl
        all_goals
          go_enter Tryz.func100, Tryz.ntmps100
          go_wp2_with fail
          refine (nnamed_any a _ ha).mono ?_
          intro e w1 hh
          rw [hh.1, hh.2, hA]
          clear hh
          go_wp2_with fail
          refine (nnamed_any b _ hb).mono ?_
          intro e w1 hh
          rw [hh.1, hh.2, hB]
          clear hh
          go_wp2_with fail
          go_ret
          exact ⟨ret_int (a := 7) HQ.out.symm, bel⟩
    · have HQ : Hid (R = 0) := by show _ = _; rw [HR.out, mBad_has (by omega) (by omega) hA]
      rcases (show k = 3 ∨ k = 4 by omega) with rfl | rfl
      all_goals
        go_enter Tryz.func100, Tryz.ntmps100
        go_wp2_with fail
        refine (nnamed_any a _ ha).mono ?_
        intro e w1 hh
        rw [hh.1, hh.2, hA]
        clear hh
        go_wp2_with fail
        go_ret
        exact ⟨ret_int (a := 0) HQ.out.symm, bel⟩

/-- an expression's seven values, by letters -/
abbrev av (kd n rg : Int) (wd : ByteArray) (ma : Option Addr) (ml mc : Nat) (ba : Option Addr) (bl bc : Nat) (ka : Option Addr) (kl kc : Nat) : Array Value :=
  #[.int .i64 kd, .int .i64 n, .int .i64 rg, .string wd, .slice ma ml mc, .slice ba bl bc, .slice ka kl kc]

theorem pbin_any (kd n rg : Int) (wd : ByteArray) (ma : Option Addr) (ml mc : Nat) (ba : Option Addr) (bl bc : Nat) (ka : Option Addr) (kl kc : Nat) (w : World) :
    Calls Tryz.prog 88 #[.agg #[.int .i64 kd, .int .i64 n, .int .i64 rg, .string wd, .slice ma ml mc, .slice ba bl bc, .slice ka kl kc]] w fun e w' => e = .returned (.int .i64 (if has signs3 wd = true then 0 else 7)) ∧ Below w.heap.size w w' := by
  obtain ⟨R, hR⟩ : ∃ R, R = if has signs3 wd = true then (0 : Int) else 7 := ⟨_, rfl⟩
  rw [← hR]
  have HR := hide hR
  clear hR
  by_cases h1 : wd = ⟨#[43]⟩
  · have HQ : Hid (R = 0) := by show _ = _; rw [HR.out, if_pos (by subst h1; rfl)]
    clear HR
    subst h1
    go_enter Tryz.func88, Tryz.ntmps88
    go_wp2
    go_ret
    exact ⟨ret_int (a := 0) HQ.out.symm, (Below.refl _ _).alloc (Nat.le_refl _) _⟩
  by_cases h2 : wd = ⟨#[45]⟩
  · have HQ : Hid (R = 0) := by show _ = _; rw [HR.out, if_pos (by subst h2; rfl)]
    clear HR
    subst h2
    go_enter Tryz.func88, Tryz.ntmps88
    go_wp2
    go_ret
    exact ⟨ret_int (a := 0) HQ.out.symm, (Below.refl _ _).alloc (Nat.le_refl _) _⟩
  by_cases h3 : wd = ⟨#[42]⟩
  · have HQ : Hid (R = 0) := by show _ = _; rw [HR.out, if_pos (by subst h3; rfl)]
    clear HR
    subst h3
    go_enter Tryz.func88, Tryz.ntmps88
    go_wp2
    go_ret
    exact ⟨ret_int (a := 0) HQ.out.symm, (Below.refl _ _).alloc (Nat.le_refl _) _⟩
  have HQ : Hid (R = 7) := by
    show _ = _
    rw [HR.out, if_neg]
    intro hh
    unfold has signs3 at hh
    simp at hh
    rcases hh with e | e | e
    · exact h1 e.symm
    · exact h2 e.symm
    · exact h3 e.symm
  have q1 := word_not (l := [43]) h1
  have q2 := word_not (l := [45]) h2
  have q3 := word_not (l := [42]) h3
  clear HR
  go_enter Tryz.func88, Tryz.ntmps88
  go_wp2
  go_ret
  exact ⟨ret_int (a := 7) HQ.out.symm, (Below.refl _ _).alloc (Nat.le_refl _) _⟩

end Go.Proofs.YthohkokhimdamaaGreat

/-
  The walks of what is wrong with a window, and an all: the program's.
-/
namespace Go.Proofs.YthohkokhimdamaaGreat
open Go.RowKit Go.GrainU

set_option maxHeartbeats 2000000 in
theorem pwindow_any (h : Hd) (ma : Option Addr) (ml mc : Nat) (ba : Option Addr) (bl bc : Nat) (ka : Option Addr) (kl kc : Nat) (w : World) (hM : Seg w ma (mcells h.ms)) (hml : ml = h.ms.length) (lM : ml ≤ 9223372036854775806)
    (fM : ∀ m ∈ h.ms, m.key.size ≤ 9223372036854775807 ∧ m.val.size ≤ 9223372036854775807) :
    Calls Tryz.prog 86 #[.agg #[.int .i64 h.kind, .int .i64 h.n, .int .i64 h.range, .string h.word, .slice ma ml mc, .slice ba bl bc, .slice ka kl kc]] w fun e w' => e = .returned (.int .i64 (winBad h)) ∧ Below w.heap.size w w' := by
  obtain ⟨R, hR⟩ : ∃ R, R = winBad h := ⟨_, rfl⟩
  rw [← hR]
  have HR := hide hR
  clear hR
  obtain ⟨kd, n, rg, wd, ms, bs⟩ := h
  simp only at hM hml fM ⊢
  have HML := hide hml
  have HFM := hide fM
  clear hml fM
  obtain ⟨W, hW⟩ : ∃ W, W = w.alloc (.cells #[.int .i64 kd, .int .i64 n, .int .i64 rg, .string wd, .slice ma ml mc, .slice ba bl bc, .slice ka kl kc] 27) := ⟨_, rfl⟩
  have bel0 : Below w.heap.size w W := by rw [hW]; exact (Below.refl _ _).alloc (Nat.le_refl _) _
  have F0 : W.heap[w.heap.size]? = some (.cells #[.int .i64 kd, .int .i64 n, .int .i64 rg, .string wd, .slice ma ml mc, .slice ba bl bc, .slice ka kl kc] 27 (0, 0)) := by rw [hW]; exact heap_alloc_new w _
  have HF := hide F0
  have HB := hide bel0
  have HS : Hid (∀ w', Below W.heap.size W w' → w'.cell? ⟨w.heap.size, 3, none⟩ = some (.string wd)) := fun w' hb => (seven_cells (below_block hb F0)).2.2.2.1
  have R0 : Below W.heap.size W W := Below.refl _ _
  have R1 : Below W.heap.size W W.drew := below_drewN (Below.refl _ W) 1
  have HW := hide hW
  clear hW F0 bel0
  cases hw : has words8 wd with
  | false =>
    have HQ : Hid (R = 7) := by show _ = _; rw [HR.out]; unfold winBad; rw [if_pos hw]
    clear HR
    go_enter Tryz.func86, Tryz.ntmps86
    go_wp2_with fail
    rw [← HW.out]
    go_region_held3 (fun w' => w'.cell? ⟨w.heap.size, 3, none⟩ = some (.string wd)) (exact HS.out _ (by assumption))
      (first
        | (go_at_call 99; refine (pwords_any _).mono ?_; rintro e w1 ⟨g, rfl, sg, b1⟩; have R2 := below_step7 b1 (by assumption))
        | (go_at_call 92; refine (ncont_any words8 wd _ 8 8 _ (by assumption) rfl (by decide)).mono ?_; intro e w2 hh; rw [hh.1, hh.2, hw]; clear hh))
    all_goals
      go_wp2_with fail
      go_ret
      exact ⟨ret_int (a := 7) HQ.out.symm, HB.out.trans ((by assumption : Below W.heap.size W _).mono HB.out.size)⟩
  | true =>
    go_enter Tryz.func86, Tryz.ntmps86
    go_wp2_with fail
    rw [← HW.out]
    go_region_held3 (fun w' => w'.cell? ⟨w.heap.size, 3, none⟩ = some (.string wd)) (exact HS.out _ (by assumption))
      (first
        | (go_at_call 99; refine (pwords_any _).mono ?_; rintro e w1 ⟨g, rfl, sg, b1⟩; have R2 := below_step7 b1 (by assumption))
        | (go_at_call 92; refine (ncont_any words8 wd _ 8 8 _ (by assumption) rfl (by decide)).mono ?_; intro e w2 hh; rw [hh.1, hh.2, hw]; clear hh))
    obtain ⟨p0, p1, p2, p3, p4, p5, p6⟩ := seven_cells (below_block R2 HF.out)
    by_cases h5 : 5 < ml
    · have HQ : Hid (R = 5) := by show _ = _; rw [HR.out]; unfold winBad; rw [if_neg (by simp [hw]), if_pos (by have := HML.out; simp only; omega)]
      have h5' : (5 : Int) < (ml : Int) := by omega
      clear HR
      go_wp2_with fail
      go_ret
      exact ⟨ret_int (a := 5) HQ.out.symm, HB.out.trans (R2.mono HB.out.size)⟩
    have h5' : ¬ (5 : Int) < (ml : Int) := by omega
    have HQ : Hid (R = if msBad ms = 0 then (if rg < 1 ∨ 100000 < rg then 3 else 0) else msBad ms) := by
      show _ = _; rw [HR.out]; unfold winBad; rw [if_neg (by simp [hw]), if_neg (by have := HML.out; simp only; omega)]
    clear HR HS R0 R1 hw
    go_wp2_with fail
    clear p0 p1 p2 p3 p4 p5 p6
    go_loopw [18] (fun i wr => ∃ k : Nat, k ≤ ml ∧ i = .int .i64 k ∧ Hid (msBad (ms.take k) = 0) ∧ Below W.heap.size W wr) (fun i _ => ml - (intOf i).toNat)
    case atStart => exact ⟨0, Nat.zero_le _, rfl, by show _ = _; simp [msBad], R2⟩
    case round =>
      obtain ⟨k, hk, rfl, HJ, bel⟩ := hrel
      have belw : Below w.heap.size w wr := HB.out.trans (bel.mono HB.out.size)
      by_cases hlt : k < ml
      · have hkl : k < ms.length := by rw [← HML.out]; exact hlt
        obtain ⟨b, off, rfl, hbl, hcell⟩ := seg_match hM hkl
        obtain ⟨m, hm⟩ : ∃ m, m = mt ms k := ⟨_, rfl⟩
        obtain ⟨q0, q1, q2⟩ := hcell k hkl
        rw [← hm] at q0 q1 q2
        have c0 := (belw.cell (p := ⟨b, off + k * 3, none⟩) (by exact hbl)).trans q0
        have c1 := (belw.cell (p := ⟨b, off + k * 3 + 1, none⟩) (by exact hbl)).trans q1
        have c2 := (belw.cell (p := ⟨b, off + k * 3 + 2, none⟩) (by exact hbl)).trans q2
        have HF2 := hide (HFM.out m (by rw [hm]; exact mt_mem hkl))
        have Hm := hide hm
        clear q0 q1 q2 hcell hm
        obtain ⟨mk, mkey, mval⟩ := m
        simp only at c0 c1 c2 HF2
        go_wp2_with fail
        have belV : Below W.heap.size W (wr.alloc (.cells #[.int .i64 mk, .string mkey, .string mval] 86)) := bel.alloc bel.size _
        refine (pmatch_any mk mkey mval _ HF2.out.1 HF2.out.2).mono ?_
        rintro e w3 ⟨rfl, b3⟩
        have bel3 : Below W.heap.size W w3 := belV.trans (b3.mono belV.size)
        obtain ⟨D, hD⟩ : ∃ D, D = mBad ⟨mk, mkey, mval⟩ := ⟨_, rfl⟩
        rw [← hD]
        have HD := hide hD
        clear hD
        by_cases hD0 : D = 0
        · have HJ' : Hid (msBad (ms.take (k + 1)) = 0) := msBad_take hkl HJ.out (by rw [← Hm.out, ← HD.out]; exact hD0)
          have eD : (D == 0) = true := by simp [hD0]
          clear hD0
          go_wp2
          go_roundw
          case rel => exact ⟨k + 1, by omega, by go_num, HJ', bel3⟩
          case measure => simp [intOf]; omega
        · have eD : (D == 0) = false := by simp [hD0]
          have HX : Hid (msBad ms = D) := by show _ = _; rw [msBad_at hkl HJ.out (by rw [← Hm.out, ← HD.out]; exact hD0), ← Hm.out]; exact HD.out.symm
          go_wp2
          go_ret
          exact ⟨ret_int (a := D) (by rw [HQ.out, HX.out, if_neg hD0]), HB.out.trans (bel3.mono HB.out.size)⟩
      · have HX : Hid (msBad ms = 0) := msBad_end (by have := HML.out; omega) HJ.out
        obtain ⟨p0, p1, p2, p3, p4, p5, p6⟩ := seven_cells (below_block bel HF.out)
        go_wp2_with fail
        refine (poutside_any rg 1 100000 _).mono ?_
        intro e w3 hh
        rw [hh.1, hh.2]
        clear hh
        obtain ⟨D, hD⟩ : ∃ D, D = if rg < 1 ∨ 100000 < rg then (3 : Int) else 0 := ⟨_, rfl⟩
        rw [← hD]
        have HD := hide hD
        clear hD
        go_wp2
        go_ret
        exact ⟨ret_int (a := D) (by rw [HQ.out, HX.out, if_pos rfl]; exact HD.out), belw⟩

set_option maxHeartbeats 2000000 in
theorem pall_any (h : Hd) (ma : Option Addr) (ml mc : Nat) (ba : Option Addr) (bl bc : Nat) (ka : Option Addr) (kl kc : Nat) (w : World) (hM : Seg w ba (wcells h.bs)) (hml : bl = h.bs.length) (lM : bl ≤ 9223372036854775806)
    (fM : ∀ b ∈ h.bs, b.size ≤ 9223372036854775807) :
    Calls Tryz.prog 87 #[.agg #[.int .i64 h.kind, .int .i64 h.n, .int .i64 h.range, .string h.word, .slice ma ml mc, .slice ba bl bc, .slice ka kl kc]] w fun e w' => e = .returned (.int .i64 (allBad h)) ∧ Below w.heap.size w w' := by
  obtain ⟨R, hR⟩ : ∃ R, R = allBad h := ⟨_, rfl⟩
  rw [← hR]
  have HR := hide hR
  clear hR
  obtain ⟨kd, n, rg, wd, ms, bs⟩ := h
  simp only at hM hml fM ⊢
  have HML := hide hml
  have HFM := hide fM
  clear hml fM
  obtain ⟨W, hW⟩ : ∃ W, W = w.alloc (.cells #[.int .i64 kd, .int .i64 n, .int .i64 rg, .string wd, .slice ma ml mc, .slice ba bl bc, .slice ka kl kc] 27) := ⟨_, rfl⟩
  have bel0 : Below w.heap.size w W := by rw [hW]; exact (Below.refl _ _).alloc (Nat.le_refl _) _
  have F0 : W.heap[w.heap.size]? = some (.cells #[.int .i64 kd, .int .i64 n, .int .i64 rg, .string wd, .slice ma ml mc, .slice ba bl bc, .slice ka kl kc] 27 (0, 0)) := by rw [hW]; exact heap_alloc_new w _
  have HF := hide F0
  have HB := hide bel0
  have HS : Hid (∀ w', Below W.heap.size W w' → w'.cell? ⟨w.heap.size, 3, none⟩ = some (.string wd)) := fun w' hb => (seven_cells (below_block hb F0)).2.2.2.1
  have R0 : Below W.heap.size W W := Below.refl _ _
  have R1 : Below W.heap.size W W.drew := below_drewN (Below.refl _ W) 1
  have HW := hide hW
  clear hW F0 bel0
  cases hw : has totals4 wd with
  | false =>
    have HQ : Hid (R = 7) := by show _ = _; rw [HR.out]; unfold allBad; rw [if_pos hw]
    clear HR
    go_enter Tryz.func87, Tryz.ntmps87
    go_wp2_with fail
    rw [← HW.out]
    go_region_held3 (fun w' => w'.cell? ⟨w.heap.size, 3, none⟩ = some (.string wd)) (exact HS.out _ (by assumption))
      (first
        | (go_at_call 101; refine (ptotals_any _).mono ?_; rintro e w1 ⟨g, rfl, sg, b1⟩; have R2 := below_step7 b1 (by assumption))
        | (go_at_call 92; refine (ncont_any totals4 wd _ 4 4 _ (by assumption) rfl (by decide)).mono ?_; intro e w2 hh; rw [hh.1, hh.2, hw]; clear hh))
    all_goals
      go_wp2_with fail
      go_ret
      exact ⟨ret_int (a := 7) HQ.out.symm, HB.out.trans ((by assumption : Below W.heap.size W _).mono HB.out.size)⟩
  | true =>
    go_enter Tryz.func87, Tryz.ntmps87
    go_wp2_with fail
    rw [← HW.out]
    go_region_held3 (fun w' => w'.cell? ⟨w.heap.size, 3, none⟩ = some (.string wd)) (exact HS.out _ (by assumption))
      (first
        | (go_at_call 101; refine (ptotals_any _).mono ?_; rintro e w1 ⟨g, rfl, sg, b1⟩; have R2 := below_step7 b1 (by assumption))
        | (go_at_call 92; refine (ncont_any totals4 wd _ 4 4 _ (by assumption) rfl (by decide)).mono ?_; intro e w2 hh; rw [hh.1, hh.2, hw]; clear hh))
    obtain ⟨p0, p1, p2, p3, p4, p5, p6⟩ := seven_cells (below_block R2 HF.out)
    by_cases h5 : 4 < bl
    · have HQ : Hid (R = 5) := by show _ = _; rw [HR.out]; unfold allBad; rw [if_neg (by simp [hw]), if_pos (by have := HML.out; simp only; omega)]
      have h5' : (4 : Int) < (bl : Int) := by omega
      clear HR
      go_wp2_with fail
      go_ret
      exact ⟨ret_int (a := 5) HQ.out.symm, HB.out.trans (R2.mono HB.out.size)⟩
    have h5' : ¬ (4 : Int) < (bl : Int) := by omega
    have HQ : Hid (R = if bs.all Grain.named = true then 0 else 7) := by
      show _ = _; rw [HR.out]; unfold allBad; rw [if_neg (by simp [hw]), if_neg (by have := HML.out; simp only; omega)]
    clear HR HS R0 R1 hw
    go_wp2_with fail
    clear p0 p1 p2 p3 p4 p5 p6
    go_loopw [17] (fun i wr => ∃ k : Nat, k ≤ bl ∧ i = .int .i64 k ∧ Hid ((bs.take k).all Grain.named = true) ∧ Below W.heap.size W wr) (fun i _ => bl - (intOf i).toNat)
    case atStart => exact ⟨0, Nat.zero_le _, rfl, by show _ = _; simp, R2⟩
    case round =>
      obtain ⟨k, hk, rfl, HJ, bel⟩ := hrel
      have belw : Below w.heap.size w wr := HB.out.trans (bel.mono HB.out.size)
      by_cases hlt : k < bl
      · have hkl : k < bs.length := by rw [← HML.out]; exact hlt
        obtain ⟨b, off, rfl, hbl, hcell⟩ := seg_word hM hkl
        obtain ⟨x, hx⟩ : ∃ x, x = bs.getD k ⟨#[]⟩ := ⟨_, rfl⟩
        have q0 := hcell k hkl
        rw [← hx] at q0
        have c0 := (belw.cell (p := ⟨b, off + k, none⟩) (by exact hbl)).trans q0
        have HF2 := hide (HFM.out x (by rw [hx]; exact getD_mem hkl))
        have Hm := hide hx
        clear q0 hcell hx
        cases hD : Grain.named x with
        | true =>
          have HJ' : Hid ((bs.take (k + 1)).all Grain.named = true) := all_take hkl HJ.out (by rw [← Hm.out]; exact hD)
          go_wp2_with fail
          refine (nnamed_any x _ HF2.out).mono ?_
          intro e w3 hh
          rw [hh.1, hh.2, hD]
          clear hh
          go_wp2
          go_roundw
          case rel => exact ⟨k + 1, by omega, by go_num, HJ', bel⟩
          case measure => simp [intOf]; omega
        | false =>
          have HX : Hid (bs.all Grain.named = false) := all_at hkl (by rw [← Hm.out]; exact hD)
          go_wp2_with fail
          refine (nnamed_any x _ HF2.out).mono ?_
          intro e w3 hh
          rw [hh.1, hh.2, hD]
          clear hh
          go_wp2
          go_ret
          exact ⟨ret_int (a := 7) (by rw [HQ.out, HX.out]; rfl), belw⟩
      · have HX : Hid (bs.all Grain.named = true) := all_end (by have := HML.out; omega) HJ.out
        go_wp2_with fail
        go_ret
        exact ⟨ret_int (a := 0) (by rw [HQ.out, HX.out]; rfl), belw⟩

end Go.Proofs.YthohkokhimdamaaGreat
