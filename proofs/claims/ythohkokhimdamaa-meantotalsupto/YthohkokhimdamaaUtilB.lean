/-
  More of what the walks share.
-/
import Derived.Test.YthohkokhimdamaaUtil
namespace Go.GrainU
open Go.RowKit

theorem scells_take (l : List (Int × Int)) : ∀ m, scells (l.take m) = (scells l).take (m * 2) := by
  induction l with
  | nil => intro m; simp [scells]
  | cons s r ih =>
    intro m
    match m with
    | 0 => simp [scells]
    | m + 1 => rw [show (m + 1) * 2 = m * 2 + 1 + 1 from by omega]; simp [scells, ih]

theorem Seg.take {w : World} {ao : Option Addr} {xs : List Value} (h : Seg w ao xs) (m : Nat) : Seg w ao (xs.take m) := by
  rcases h with h | ⟨b, off, rfl, h⟩
  · left; rw [h]; simp
  · refine .inr ⟨b, off, rfl, fun j hj => ?_⟩
    simp at hj
    rw [h j (by omega), List.getElem?_take, if_pos (by omega)]

end Go.GrainU
