/-
  The walks of what is wrong with an expression, whatever its kids are: the program's.
-/
import Derived.Test.YthohkokhimdamaaExA
import Derived.Test.YthohkokhimdamaaExY
import Derived.Deep.RegionHeld3
import Derived.Deep.CutRange
namespace Go.GrainU
open Go.RowKit

theorem mBad_lo {k : Int} {a b : ByteArray} (h : k < 1 ∨ 4 < k) : mBad ⟨k, a, b⟩ = 1 := by unfold mBad; rw [if_pos h]
theorem mBad_key {k : Int} {a b : ByteArray} (h1 : 1 ≤ k) (h2 : k ≤ 4) (h : Grain.named a = false) : mBad ⟨k, a, b⟩ = 7 := by
  unfold mBad; rw [if_neg (by simp only; omega), if_neg (by simp [h])]
theorem mBad_val {k : Int} {a b : ByteArray} (h1 : 1 ≤ k) (h2 : k ≤ 2) (ha : Grain.named a = true) : mBad ⟨k, a, b⟩ = if Grain.named b = true then 0 else 7 := by
  unfold mBad; rw [if_neg (by simp only; omega)]; simp only [ha, Bool.true_and, show (decide (2 < k)) = false from by simp; omega, Bool.false_or]
theorem mBad_has {k : Int} {a b : ByteArray} (h1 : 3 ≤ k) (h2 : k ≤ 4) (ha : Grain.named a = true) : mBad ⟨k, a, b⟩ = 0 := by
  unfold mBad; rw [if_neg (by simp only; omega), if_pos (by simp [ha]; left; omega)]

theorem below_step7 {W V w' : World} (hb : Below V.heap.size V w') (h : Below W.heap.size W V) : Below W.heap.size W w' := h.trans (hb.mono h.size)

theorem three_cells7 {w : World} {B : Nat} {x0 x1 x2 : Value} {t : TypeId} (h : w.heap[B]? = some (.cells #[x0, x1, x2] t (0, 0))) :
    w.cell? ⟨B, 0, none⟩ = some x0 ∧ w.cell? ⟨B, 1, none⟩ = some x1 ∧ w.cell? ⟨B, 2, none⟩ = some x2 := by
  simp [World.cell?, h]

theorem word_not {x : ByteArray} {l : List UInt8} (h : x ≠ lit l) : (x.toList == l) = false := by
  rw [beq_eq_false_iff_ne]
  intro e
  apply h
  apply toList_inj
  rw [e, ByteArray.toList_eq]
  simp [lit]

theorem msBad_take {l : List Mt} {k : Nat} (h : k < l.length) (h0 : msBad (l.take k) = 0) (h' : mBad (mt l k) = 0) : msBad (l.take (k + 1)) = 0 := by
  rw [take_mt h]
  generalize l.take k = a at h0
  induction a with
  | nil => simp [msBad, h']
  | cons x r ih =>
    simp only [msBad] at h0
    split at h0
    · rename_i e
      simp only [List.cons_append, msBad, if_pos e]
      exact ih h0
    · rename_i e; exact absurd h0 e

theorem msBad_at {l : List Mt} {k : Nat} (h : k < l.length) (h0 : msBad (l.take k) = 0) (h' : mBad (mt l k) ≠ 0) : msBad l = mBad (mt l k) := by
  induction l generalizing k with
  | nil => simp at h
  | cons x r ih =>
    match k, h with
    | 0, _ => simp [mt] at h'; simp [mt, msBad, h']
    | k + 1, h =>
      simp only [List.take_succ_cons, msBad] at h0
      split at h0
      · rename_i e
        have g : mt (x :: r) (k + 1) = mt r k := by simp [mt]
        rw [g] at h' ⊢
        simp only [msBad, if_pos e]
        exact ih (by simpa using h) h0 h'
      · rename_i e; exact absurd h0 e

theorem msBad_end {l : List Mt} {k : Nat} (hk : k = l.length) (h : msBad (l.take k) = 0) : msBad l = 0 := by rw [hk, List.take_length] at h; exact h

theorem mt_mem {l : List Mt} {k : Nat} (h : k < l.length) : mt l k ∈ l := by simp [mt, List.getD, List.getElem?_eq_getElem h]

theorem all_take {l : List ByteArray} {k : Nat} (h : k < l.length) (h0 : (l.take k).all Grain.named = true) (h' : Grain.named (l.getD k ⟨#[]⟩) = true) : (l.take (k + 1)).all Grain.named = true := by
  rw [List.take_add_one, List.getElem?_eq_getElem h, List.all_append, h0]
  simp [List.getD, List.getElem?_eq_getElem h] at h'
  simp [h']

theorem all_at {l : List ByteArray} {k : Nat} (h : k < l.length) (h' : Grain.named (l.getD k ⟨#[]⟩) = false) : l.all Grain.named = false := by
  rw [List.all_eq_false]
  refine ⟨l[k], List.getElem_mem h, ?_⟩
  simp [List.getD, List.getElem?_eq_getElem h] at h'
  simp [h']

theorem all_end {l : List ByteArray} {k : Nat} (hk : k = l.length) (h : (l.take k).all Grain.named = true) : l.all Grain.named = true := by rw [hk, List.take_length] at h; exact h

theorem getD_mem {l : List ByteArray} {k : Nat} (h : k < l.length) : l.getD k ⟨#[]⟩ ∈ l := by simp [List.getD, List.getElem?_eq_getElem h]

end Go.GrainU
namespace Go.Proofs.Ythohkokhimdamaa
open Go.RowKit Go.GrainU

set_option maxHeartbeats 1000000 in
theorem pmatch_any (k : Int) (a b : ByteArray) (w : World) (ha : a.size ≤ 9223372036854775807) (hb : b.size ≤ 9223372036854775807) :
    Calls Try.prog 83 #[.agg #[.int .i64 k, .string a, .string b]] w fun e w' => e = .returned (.int .i64 (mBad ⟨k, a, b⟩)) ∧ Below w.heap.size w w' := by
  have bel : Below w.heap.size w (w.alloc (.cells #[.int .i64 k, .string a, .string b] 107)) := (Below.refl _ _).alloc (Nat.le_refl _) _
  obtain ⟨R, hR⟩ : ∃ R, R = mBad ⟨k, a, b⟩ := ⟨_, rfl⟩
  rw [← hR]
  have HR := hide hR
  clear hR
  by_cases h1 : k < 1
  · go_enter Try.func83, Try.ntmps83
    go_wp2_with fail
    go_ret
    exact ⟨ret_int (a := 1) (by rw [HR.out, mBad_lo (.inl h1)]), bel⟩
  by_cases h2 : 4 < k
  · go_enter Try.func83, Try.ntmps83
    go_wp2_with fail
    go_ret
    exact ⟨ret_int (a := 1) (by rw [HR.out, mBad_lo (.inr h2)]), bel⟩
  cases hA : Grain.named a with
  | false =>
    have HQ : Hid (R = 7) := by show _ = _; rw [HR.out, mBad_key (by omega) (by omega) hA]
    rcases (show k = 1 ∨ k = 2 ∨ k = 3 ∨ k = 4 by omega) with rfl | rfl | rfl | rfl
    all_goals
      go_enter Try.func83, Try.ntmps83
      go_wp2_with fail
      refine (nnamed_any a _ ha).mono ?_
      intro e w1 hh
      rw [hh.1, hh.2, hA]
      clear hh
      go_wp2_with fail
      go_ret
      exact ⟨ret_int (a := 7) HQ.out.symm, bel⟩
  | true =>
    by_cases h3 : k ≤ 2
    · have HQ : Hid (R = if Grain.named b = true then 0 else 7) := by show _ = _; rw [HR.out, mBad_val (by omega) h3 hA]
      cases hB : Grain.named b with
      | true =>
        rw [if_pos hB] at HQ
        rcases (show k = 1 ∨ k = 2 by omega) with rfl | rfl
        all_goals
          go_enter Try.func83, Try.ntmps83
          go_wp2_with fail
          refine (nnamed_any a _ ha).mono ?_
          intro e w1 hh
          rw [hh.1, hh.2, hA]
          clear hh
          go_wp2_with fail
          refine (nnamed_any b _ hb).mono ?_
          intro e w1 hh
          rw [hh.1, hh.2, hB]
          clear hh
          go_wp2_with fail
          go_ret
          exact ⟨ret_int (a := 0) HQ.out.symm, bel⟩
      | false =>
        rw [if_neg (by simp [hB])] at HQ
        rcases (show k = 1 ∨ k = 2 by omega) with rfl | rfl
        all_goals
          go_enter Try.func83, Try.ntmps83
          go_wp2_with fail
          refine (nnamed_any a _ ha).mono ?_
          intro e w1 hh
          rw [hh.1, hh.2, hA]
          clear hh
          go_wp2_with fail
          refine (nnamed_any b _ hb).mono ?_
          intro e w1 hh
          rw [hh.1, hh.2, hB]
          clear hh
          go_wp2_with fail
          go_ret
          exact ⟨ret_int (a := 7) HQ.out.symm, bel⟩
    · have HQ : Hid (R = 0) := by show _ = _; rw [HR.out, mBad_has (by omega) (by omega) hA]
      rcases (show k = 3 ∨ k = 4 by omega) with rfl | rfl
      all_goals
        go_enter Try.func83, Try.ntmps83
        go_wp2_with fail
        refine (nnamed_any a _ ha).mono ?_
        intro e w1 hh
        rw [hh.1, hh.2, hA]
        clear hh
        go_wp2_with fail
        go_ret
        exact ⟨ret_int (a := 0) HQ.out.symm, bel⟩

/-- an expression's seven values, by letters -/
abbrev av (kd n rg : Int) (wd : ByteArray) (ma : Option Addr) (ml mc : Nat) (ba : Option Addr) (bl bc : Nat) (ka : Option Addr) (kl kc : Nat) : Array Value :=
  #[.int .i64 kd, .int .i64 n, .int .i64 rg, .string wd, .slice ma ml mc, .slice ba bl bc, .slice ka kl kc]

theorem pbin_any (kd n rg : Int) (wd : ByteArray) (ma : Option Addr) (ml mc : Nat) (ba : Option Addr) (bl bc : Nat) (ka : Option Addr) (kl kc : Nat) (w : World) :
    Calls Try.prog 76 #[.agg #[.int .i64 kd, .int .i64 n, .int .i64 rg, .string wd, .slice ma ml mc, .slice ba bl bc, .slice ka kl kc]] w fun e w' => e = .returned (.int .i64 (if has signs3 wd = true then 0 else 7)) ∧ Below w.heap.size w w' := by
  obtain ⟨R, hR⟩ : ∃ R, R = if has signs3 wd = true then (0 : Int) else 7 := ⟨_, rfl⟩
  rw [← hR]
  have HR := hide hR
  clear hR
  by_cases h1 : wd = ⟨#[43]⟩
  · have HQ : Hid (R = 0) := by show _ = _; rw [HR.out, if_pos (by subst h1; rfl)]
    clear HR
    subst h1
    go_enter Try.func76, Try.ntmps76
    go_wp2
    go_ret
    exact ⟨ret_int (a := 0) HQ.out.symm, (Below.refl _ _).alloc (Nat.le_refl _) _⟩
  by_cases h2 : wd = ⟨#[45]⟩
  · have HQ : Hid (R = 0) := by show _ = _; rw [HR.out, if_pos (by subst h2; rfl)]
    clear HR
    subst h2
    go_enter Try.func76, Try.ntmps76
    go_wp2
    go_ret
    exact ⟨ret_int (a := 0) HQ.out.symm, (Below.refl _ _).alloc (Nat.le_refl _) _⟩
  by_cases h3 : wd = ⟨#[42]⟩
  · have HQ : Hid (R = 0) := by show _ = _; rw [HR.out, if_pos (by subst h3; rfl)]
    clear HR
    subst h3
    go_enter Try.func76, Try.ntmps76
    go_wp2
    go_ret
    exact ⟨ret_int (a := 0) HQ.out.symm, (Below.refl _ _).alloc (Nat.le_refl _) _⟩
  have HQ : Hid (R = 7) := by
    show _ = _
    rw [HR.out, if_neg]
    intro hh
    unfold has signs3 at hh
    simp at hh
    rcases hh with e | e | e
    · exact h1 e.symm
    · exact h2 e.symm
    · exact h3 e.symm
  have q1 := word_not (l := [43]) h1
  have q2 := word_not (l := [45]) h2
  have q3 := word_not (l := [42]) h3
  clear HR
  go_enter Try.func76, Try.ntmps76
  go_wp2
  go_ret
  exact ⟨ret_int (a := 7) HQ.out.symm, (Below.refl _ _).alloc (Nat.le_refl _) _⟩

end Go.Proofs.Ythohkokhimdamaa
