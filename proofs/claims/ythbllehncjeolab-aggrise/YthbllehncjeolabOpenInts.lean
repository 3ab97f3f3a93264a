/-
  Arguments that are slices of whole numbers, opened.
-/
import Derived.Test.YthbllehncjeolabOpenSum
import Derived.Test.YthbllehncjeolabUtilE
namespace Go.Proofs.Ythbllehncjeolab
open Go.ChangeShapes Go.WideShapes Go.ChangeAt Go.RowKit Go.GrainU

theorem open_numbers {H : Type} {enc : TypeId × Value → H} {W : World} {fuel : Nat} {ao : Option Addr} {len cap : Nat} {x : DataW H × List MemPlace}
    (hf : DataW.trod enc Try.prog W 0 (fun _ => true) true fuel 35 (Value.slice ao len cap).cells.toList = some x) :
    ∃ l : List Int, Seg W ao (icells l) ∧ len = l.length ∧ len ≤ cap ∧ cap ≤ maxLen ∧ (len = 0 ∨ ∃ es sp, x.1 = .slice es sp ∧ es.length + sp.length = cap) := by
  rcases open_ints Try.underlying35 Try.underlying3 Try.cellsInt hf with ⟨hcs, _⟩ | ⟨a, l, c, zs, hcs, _, hl, hm, hz, hx, hcell, hwz⟩
  · simp [Value.cells] at hcs
    obtain ⟨rfl, rfl, rfl⟩ := hcs
    exact ⟨[], .inl rfl, rfl, Nat.le_refl _, by unfold maxLen; omega, .inl rfl⟩
  · simp [Value.cells] at hcs
    obtain ⟨rfl, rfl, rfl⟩ := hcs
    simp at hz
    refine ⟨zs.take len, ?_, by simp; omega, hl, hm, .inr ⟨_, _, by rw [hx], by simp [lits]; omega⟩⟩
    rcases Nat.eq_zero_or_pos len with h0 | h0
    · subst h0; exact .inl rfl
    · obtain ⟨b, off, rfl, hc⟩ := ints_at hcell (by omega)
      refine .inr ⟨b, off, rfl, fun j hj => ?_⟩
      simp [icells] at hj
      rw [hc j (by omega)]
      simp [icells, show j < len by omega, List.getElem?_eq_getElem (show j < zs.length by omega)]

end Go.Proofs.Ythbllehncjeolab
