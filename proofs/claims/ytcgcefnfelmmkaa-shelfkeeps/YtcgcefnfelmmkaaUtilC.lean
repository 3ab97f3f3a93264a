/-
  What the walk of the document's Bytes needs of worlds.
-/
import Derived.Test.YtcgcefnfelmmkaaUtil
namespace Go.GrainU
open Go.RowKit

theorem grown_of_below {w w' : World} (hb : Below w.heap.size w w') : w.grownBy w' none := ⟨hb.os, hb.tape, hb.output, hb.size, fun k hk _ => hb.block k hk⟩

/-- a call that only makes memory, behind what is known -/
theorem grown_call {W V w' : World} {r : Option Nat} (h : W.grownBy V r) (hb : Below V.heap.size V w') : W.grownBy w' r := grown_trans h (grown_of_below hb) (fun k hk => by cases hk)

/-- an append to the row, or to a new one, behind what is known -/
theorem grown_app {W V w' : World} {g g' n c : Nat} (h : W.grownBy V (some g)) (hg : V.grownBy w' (Value.slice (some ⟨g', 0, none⟩) n c).ownBlock) (hr : g' = g ∨ W.heap.size ≤ g') : W.grownBy w' (some g) :=
  grown_trans h hg (fun k hk => by
    simp [Value.ownBlock] at hk
    subst hk
    rcases hr with e | e
    · left; rw [e]
    · exact .inr e)

theorem bcells_one (l : List Int) : ∀ u ∈ bcells l, u.oneCell' = true := by
  intro u hu
  simp [bcells] at hu
  obtain ⟨x, _, rfl⟩ := hu
  rfl

theorem bcells_append (a b : List Int) : bcells (a ++ b) = bcells a ++ bcells b := by simp [bcells]

/-- a row is as it was, behind an append to another one -/
theorem own_apart {w w' : World} {base e size g n cap g' n' c' : Nat} {xs : List Value} (h : w.ownsRow base e size (.slice (some ⟨g, 0, none⟩) n cap) n xs) (hg : w.grownBy w' (Value.slice (some ⟨g', 0, none⟩) n' c').ownBlock) (hne : g ≠ g') :
    w'.ownsRow base e size (.slice (some ⟨g, 0, none⟩) n cap) n xs := h.kept hg (.inr (by simpa [Value.ownBlock] using hne))

theorem at_cases {W : World} {g n c gc H : Nat} (h : (Value.slice (some ⟨g, 0, none⟩) n c).ownBlock = some gc ∨ gc = H) (hH : W.heap.size ≤ H) : gc = g ∨ W.heap.size ≤ gc := by
  rcases h with e | e
  · simp [Value.ownBlock] at e; exact .inl e.symm
  · right; omega

theorem gb_new {W V w' : World} {r : Option Nat} {e size g n cap : Nat} {xs : List Value} (R : W.grownBy V r) (own : w'.ownsRow V.heap.size e size (.slice (some ⟨g, 0, none⟩) n cap) n xs) : W.heap.size ≤ g :=
  Nat.le_trans R.size (own_block own).1

theorem num_rows {w : World} {base N : Nat} {v : Value} {n : Int} (h : w.ownsRow base 5 1 v N (bcells (Grain.num n))) (hp : 1 ≤ (Grain.num n).length) : 0 < N ∧ N ≤ 10 := by
  have h1 := own_len h
  have h2 := Grain.num_len n
  omega

end Go.GrainU
