/-
  An argument that is a slice of words, opened.
-/
import Derived.Test.YtfbipefllabefacOpenLabels
import Derived.Test.YtfbipefllabefacRefOnly
import Derived.Deep.Strs
namespace Go.Proofs.Ytfbipefllabefac
open Go.ChangeShapes Go.WideShapes Go.ChangeAt Go.RowKit Go.GrainU

theorem open_words {H : Type} {enc : TypeId × Value → H} {W : World} {fuel : Nat} {ao : Option Addr} {len cap : Nat} {x : DataW H × List MemPlace}
    (hf : DataW.trod enc Try.prog W 0 (fun _ => true) true fuel 39 (Value.slice ao len cap).cells.toList = some x) :
    ∃ l : List ByteArray, Seg W ao (wcells l) ∧ len = l.length ∧ len ≤ cap ∧ cap ≤ maxLen ∧ (len = 0 ∨ ∃ es sp, x.1 = .slice es sp ∧ es.length + sp.length = cap) := by
  rcases Go.Deep.open_strs Try.underlying39 Try.underlying9 Try.cellsStr hf with ⟨hcs, _⟩ | ⟨a, l, c, m, S, hcs, _, hl, hm, hmm, hx, hcell⟩
  · simp [Value.cells] at hcs
    obtain ⟨rfl, rfl, rfl⟩ := hcs
    exact ⟨[], .inl rfl, rfl, Nat.le_refl _, by unfold maxLen; omega, .inl rfl⟩
  · simp [Value.cells] at hcs
    obtain ⟨rfl, rfl, rfl⟩ := hcs
    simp at hmm
    subst hmm
    refine ⟨(List.range len).map S, ?_, by simp, hl, hm, .inr ⟨_, _, by rw [hx], by simp; omega⟩⟩
    rcases Nat.eq_zero_or_pos len with h0 | h0
    · subst h0; exact .inl rfl
    · obtain ⟨b, off, spot⟩ := a
      have hspot : spot = none := by
        have := (hcell 0 (by omega)).1
        simpa [Addr.add] using World.cell?_spot this
      subst hspot
      refine .inr ⟨b, off, rfl, fun j hj => ?_⟩
      simp [wcells] at hj
      have := (hcell j (by omega)).1
      rw [Go.WideShapes.add_plain] at this
      rw [this]
      simp [wcells, hj]

end Go.Proofs.Ytfbipefllabefac
