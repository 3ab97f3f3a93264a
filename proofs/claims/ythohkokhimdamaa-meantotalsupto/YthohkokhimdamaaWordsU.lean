/-
  Words as cells; a word among words.
-/
import Derived.Test.YthohkokhimdamaaUtil
namespace Go.GrainU
open Go.RowKit

/-- words as cells -/
def wcells (l : List ByteArray) : List Value := l.map Value.string

theorem seg_word {w : World} {ao : Option Addr} {l : List ByteArray} (h : Seg w ao (wcells l)) {k : Nat} (hk : k < l.length) :
    ∃ b off, ao = some ⟨b, off, none⟩ ∧ b < w.heap.size ∧ ∀ j, j < l.length → w.cell? ⟨b, off + j, none⟩ = some (.string (l.getD j ⟨#[]⟩)) := by
  rcases h with h | ⟨b, off, rfl, h⟩
  · have := congrArg List.length h; simp [wcells] at this; subst this; simp at hk
  · have hc : ∀ j, j < l.length → w.cell? ⟨b, off + j, none⟩ = some (.string (l.getD j ⟨#[]⟩)) := fun j hj => by
      rw [h j (by simpa [wcells] using hj)]
      simp [wcells, List.getElem?_eq_getElem hj, List.getD]
    exact ⟨b, off, rfl, World.block_lt_of_cell? w ⟨b, off + k, none⟩ (hc k hk), hc⟩

/-- a word is among words -/
def has (ks : List ByteArray) (x : ByteArray) : Bool := ks.any fun k => decide (k = x)

theorem has_none {ks : List ByteArray} {x : ByteArray} (h : ∀ j, j < ks.length → ks.getD j ⟨#[]⟩ ≠ x) : has ks x = false := by
  unfold has
  rw [List.any_eq_false]
  intro k hk
  obtain ⟨j, hj, e⟩ := List.mem_iff_getElem.1 hk
  have := h j hj
  simp only [List.getD, List.getElem?_eq_getElem hj, e, Option.getD_some] at this
  simpa using this

theorem has_at {ks : List ByteArray} {x : ByteArray} {j : Nat} (hj : j < ks.length) (h : ks.getD j ⟨#[]⟩ = x) : has ks x = true := by
  unfold has
  rw [List.any_eq_true]
  exact ⟨ks.getD j ⟨#[]⟩, by simp [List.getD, List.getElem?_eq_getElem hj], by simpa using h⟩

end Go.GrainU
