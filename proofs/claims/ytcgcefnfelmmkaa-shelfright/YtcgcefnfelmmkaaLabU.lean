/-
  Labels as cells; words' order.
-/
import Derived.Test.YtcgcefnfelmmkaaUtil
import Derived.Test.YtcgcefnfelmmkaaUtilD
import Derived.Test.YtcgcefnfelmmkaaNamesM
import Derived.Laws.StructEq
import Derived.Laws.Strings
namespace Go.GrainU
open Go.RowKit

/-- labels as cells -/
def lcells : List (ByteArray × ByteArray) → List Value
  | [] => []
  | s :: r => .string s.1 :: .string s.2 :: lcells r

/-- the key, and the value, of label k -/
def lk (l : List (ByteArray × ByteArray)) (k : Nat) : ByteArray := (l.getD k (⟨#[]⟩, ⟨#[]⟩)).1
def lv (l : List (ByteArray × ByteArray)) (k : Nat) : ByteArray := (l.getD k (⟨#[]⟩, ⟨#[]⟩)).2

theorem lcells_length (l : List (ByteArray × ByteArray)) : (lcells l).length = l.length * 2 := by
  induction l with
  | nil => rfl
  | cons s r ih => simp only [lcells, List.length_cons, ih]; omega

theorem lcells_at (l : List (ByteArray × ByteArray)) : ∀ k, k < l.length → (lcells l)[k * 2]? = some (.string (lk l k)) ∧ (lcells l)[k * 2 + 1]? = some (.string (lv l k)) := by
  induction l with
  | nil => intro k hk; simp at hk
  | cons s r ih =>
    intro k hk
    match k with
    | 0 => simp [lcells, lk, lv]
    | k + 1 =>
      have := ih k (by simpa using hk)
      rw [show (k + 1) * 2 = k * 2 + 1 + 1 from by omega]
      simpa [lcells, lk, lv] using this

theorem lcells_append (a b : List (ByteArray × ByteArray)) : lcells (a ++ b) = lcells a ++ lcells b := by
  induction a with
  | nil => rfl
  | cons x r ih => simp [lcells, ih]

theorem seg_label {w : World} {ao : Option Addr} {l : List (ByteArray × ByteArray)} (h : Seg w ao (lcells l)) {k : Nat} (hk : k < l.length) :
    ∃ b off, ao = some ⟨b, off, none⟩ ∧ b < w.heap.size ∧ ∀ j, j < l.length → w.cell? ⟨b, off + j * 2, none⟩ = some (.string (lk l j)) ∧ w.cell? ⟨b, off + j * 2 + 1, none⟩ = some (.string (lv l j)) := by
  have hs := lcells_length l
  rcases h with h | ⟨b, off, rfl, h⟩
  · rw [h] at hs; simp at hs; omega
  · have hc : ∀ j, j < l.length → w.cell? ⟨b, off + j * 2, none⟩ = some (.string (lk l j)) ∧ w.cell? ⟨b, off + j * 2 + 1, none⟩ = some (.string (lv l j)) := fun j hj => by
      have := lcells_at l j hj
      exact ⟨(h (j * 2) (by omega)).trans this.1, by rw [Nat.add_assoc]; exact (h (j * 2 + 1) (by omega)).trans this.2⟩
    exact ⟨b, off, rfl, World.block_lt_of_cell? w ⟨b, off + k * 2, none⟩ (hc k hk).1, hc⟩

theorem take_lab {l : List (ByteArray × ByteArray)} {k : Nat} (h : k < l.length) : l.take (k + 1) = l.take k ++ [(lk l k, lv l k)] := by
  rw [List.take_add_one, List.getElem?_eq_getElem h]
  simp only [lk, lv, List.getD, List.getElem?_eq_getElem h, Option.getD_some, Option.toList_some]

theorem toList_inj {a b : ByteArray} (h : a.toList = b.toList) : a = b := by
  rw [ByteArray.toList_eq, ByteArray.toList_eq] at h
  cases a
  cases b
  simp at h
  rw [h]

/-- two words are one, or not, as the walk says it -/
theorem word_eq (a b : ByteArray) : (a.toList == b.toList) = decide (a = b) := by
  rw [Bool.eq_iff_iff]
  simp only [beq_iff_eq, decide_eq_true_eq]
  exact ⟨toList_inj, fun h => by rw [h]⟩

theorem word_ne {a b : ByteArray} (h : a ≠ b) : (a == b) = false ∧ (a.toList == b.toList) = false := by
  have h1 : (a.toList == b.toList) = false := by rw [word_eq]; simpa using h
  exact ⟨by rw [Go.beq_toListBytes]; exact h1, h1⟩

theorem word_self (a : ByteArray) : (a == a) = true ∧ (a.toList == a.toList) = true := by
  have h1 : (a.toList == a.toList) = true := by simp
  exact ⟨by rw [Go.beq_toListBytes]; exact h1, h1⟩

end Go.GrainU
