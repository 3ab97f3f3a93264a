/-
  Arguments that are slices of samples, opened.
-/
import Derived.Test.YtondeenhndkjbabOpenSum
namespace Go.Proofs.Ytondeenhndkjbab
open Go.ChangeShapes Go.WideShapes Go.ChangeAt Go.RowKit Go.GrainU

theorem scells_of (V0 V1 : Nat → Value) (n : Nat) (h0 : ∀ i, i < n → ∃ x, V0 i = .int .i64 x) (h1 : ∀ i, i < n → ∃ x, V1 i = .int .i64 x) : ∀ k, k ≤ n →
    scells ((List.range k).map fun i => (intOf (V0 i), intOf (V1 i))) = (List.range k).flatMap fun i => [V0 i, V1 i] := by
  intro k
  induction k with
  | zero => intro _; rfl
  | succ k ih =>
    intro hk
    obtain ⟨x, hx⟩ := h0 k (by omega)
    obtain ⟨y, hy⟩ := h1 k (by omega)
    rw [List.range_succ, List.map_append, scells_append, ih (by omega), List.flatMap_append]
    simp [scells, hx, hy, intOf]

theorem flat_len (V0 V1 : Nat → Value) (k : Nat) : ((List.range k).flatMap fun i => [V0 i, V1 i]).length = k * 2 := by
  induction k with
  | zero => rfl
  | succ k ih => rw [List.range_succ, List.flatMap_append, List.length_append, ih]; simp; omega

theorem flat_at (V0 V1 : Nat → Value) (n : Nat) : ∀ j, j < n * 2 → ((List.range n).flatMap fun i => [V0 i, V1 i])[j]? = some (if j % 2 = 0 then V0 (j / 2) else V1 (j / 2)) := by
  induction n with
  | zero => intro j hj; omega
  | succ n ih =>
    intro j hj
    rw [List.range_succ, List.flatMap_append]
    have hl := flat_len V0 V1 n
    by_cases h : j < n * 2
    · rw [List.getElem?_append_left (by omega), ih j h]
    · rw [List.getElem?_append_right (by omega), hl]
      rcases (show j = n * 2 ∨ j = n * 2 + 1 from by omega) with e | e
      · subst e; simp
      · subst e
        rw [show n * 2 + 1 - n * 2 = 1 from by omega, if_neg (by omega), show (n * 2 + 1) / 2 = n from by omega]; rfl

theorem open_samples {H : Type} {enc : TypeId × Value → H} {W : World} {fuel : Nat} {ao : Option Addr} {len cap : Nat} {x : DataW H × List MemPlace}
    (hf : DataW.trod enc Try.prog W 0 (fun _ => true) true fuel 27 (Value.slice ao len cap).cells.toList = some x) :
    ∃ l : List (Int × Int), Seg W ao (scells l) ∧ len = l.length ∧ len ≤ cap ∧ cap ≤ maxLen ∧ (len = 0 ∨ ∃ es sp, x.1 = .slice es sp ∧ es.length + sp.length = cap) := by
  rcases Go.Deep.open_slice_pairs Try.underlying27 Try.underlying29 Try.cellsSample rfl rfl Try.cellsInt Try.cellsInt hf with ⟨hcs, hx⟩ | ⟨a, l, c, m, n, V0, V1, D0, D1, P0, P1, hcs, _, hl, hm, hmm, hx, hcell⟩
  · simp [Value.cells] at hcs
    obtain ⟨rfl, rfl, rfl⟩ := hcs
    exact ⟨[], .inl rfl, rfl, Nat.le_refl _, by unfold maxLen; omega, .inl rfl⟩
  · simp [Value.cells] at hcs
    obtain ⟨rfl, rfl, rfl⟩ := hcs
    simp at hmm
    subst hmm
    have i0 : ∀ i, i < len → ∃ z, V0 i = .int .i64 z := fun i hi => by
      obtain ⟨z, hz, _, _⟩ := DataW.trod_int Try.underlying3 (hcell i (by omega)).2.2.1
      exact ⟨z, by simpa using hz⟩
    have i1 : ∀ i, i < len → ∃ z, V1 i = .int .i64 z := fun i hi => by
      obtain ⟨z, hz, _, _⟩ := DataW.trod_int Try.underlying3 (hcell i (by omega)).2.2.2
      exact ⟨z, by simpa using hz⟩
    refine ⟨(List.range len).map fun i => (intOf (V0 i), intOf (V1 i)), ?_, by simp, hl, hm, .inr ⟨_, _, by rw [hx], by simp; omega⟩⟩
    rw [scells_of V0 V1 len i0 i1 len (Nat.le_refl _)]
    rcases Nat.eq_zero_or_pos len with h0 | h0
    · subst h0; exact .inl rfl
    · obtain ⟨b, off, spot⟩ := a
      have hspot : spot = none := by simpa [Addr.add] using World.cell?_spot (hcell 0 (by omega)).1
      subst hspot
      refine .inr ⟨b, off, rfl, fun j hj => ?_⟩
      rw [flat_len] at hj
      rw [flat_at V0 V1 len j hj]
      have hc := hcell (j / 2) (by omega)
      rw [Go.WideShapes.add_plain, Go.WideShapes.add_plain] at hc
      rcases (show j % 2 = 0 ∨ j % 2 = 1 from by omega) with e | e
      · rw [if_pos e]; have := hc.1; rw [show j / 2 * 2 = j from by omega] at this; exact this
      · rw [if_neg (by omega)]; have := hc.2.1; rw [show j / 2 * 2 + 1 = j from by omega] at this; exact this

end Go.Proofs.Ytondeenhndkjbab
