/-
  Arguments opened, with the bounds of their numbers.
-/
import Derived.Test.YtondeenhndkjbabOpenSamples
namespace Go.Proofs.Ytondeenhndkjbab
open Go.ChangeShapes Go.WideShapes Go.ChangeAt Go.RowKit Go.GrainU

theorem wf_bounds {z : Int} (h : (Lit.int .i64 z).wf = true) : -9223372036854775808 ≤ z ∧ z ≤ 9223372036854775807 := by
  simpa [Lit.wf, IntKind.min, IntKind.max, IntKind.signed, IntKind.bits] using h

theorem open_samples_r {H : Type} {enc : TypeId × Value → H} {W : World} {fuel : Nat} {ao : Option Addr} {len cap : Nat} {x : DataW H × List MemPlace}
    (hf : DataW.trod enc Try.prog W 0 (fun _ => true) true fuel 27 (Value.slice ao len cap).cells.toList = some x) :
    ∃ l : List (Int × Int), Seg W ao (scells l) ∧ len = l.length ∧ len ≤ cap ∧ cap ≤ maxLen ∧ (len = 0 ∨ ∃ es sp, x.1 = .slice es sp ∧ es.length + sp.length = cap) ∧ (∀ j, j < len → -9223372036854775808 ≤ Grain.vl l j ∧ Grain.vl l j ≤ 9223372036854775807) := by
  rcases Go.Deep.open_slice_pairs Try.underlying27 Try.underlying29 Try.cellsSample rfl rfl Try.cellsInt Try.cellsInt hf with ⟨hcs, hx⟩ | ⟨a, l, c, m, n, V0, V1, D0, D1, P0, P1, hcs, _, hl, hm, hmm, hx, hcell⟩
  · simp [Value.cells] at hcs
    obtain ⟨rfl, rfl, rfl⟩ := hcs
    exact ⟨[], .inl rfl, rfl, Nat.le_refl _, by unfold maxLen; omega, .inl rfl, fun j hj => by omega⟩
  · simp [Value.cells] at hcs
    obtain ⟨rfl, rfl, rfl⟩ := hcs
    simp at hmm
    subst hmm
    have i0 : ∀ i, i < len → ∃ z, V0 i = .int .i64 z := fun i hi => by
      obtain ⟨z, hz, _, _⟩ := DataW.trod_int Try.underlying3 (hcell i (by omega)).2.2.1
      exact ⟨z, by simpa using hz⟩
    have i1 : ∀ i, i < len → ∃ z, V1 i = .int .i64 z := fun i hi => by
      obtain ⟨z, hz, _, _⟩ := DataW.trod_int Try.underlying3 (hcell i (by omega)).2.2.2
      exact ⟨z, by simpa using hz⟩
    refine ⟨(List.range len).map fun i => (intOf (V0 i), intOf (V1 i)), ?_, by simp, hl, hm, .inr ⟨_, _, by rw [hx], by simp; omega⟩, fun j hj => by
      obtain ⟨z, hz, _, hw⟩ := DataW.trod_int Try.underlying3 (hcell j (by omega)).2.2.2
      have hz' : V1 j = .int .i64 z := by simpa using hz
      have e : Grain.vl ((List.range len).map fun i => (intOf (V0 i), intOf (V1 i))) j = z := by
        simp [Grain.vl, List.getD, hj, hz', intOf]
      rw [e]
      exact wf_bounds hw⟩
    rw [scells_of V0 V1 len i0 i1 len (Nat.le_refl _)]
    rcases Nat.eq_zero_or_pos len with h0 | h0
    · subst h0; exact .inl rfl
    · obtain ⟨b, off, spot⟩ := a
      have hspot : spot = none := by simpa [Addr.add] using World.cell?_spot (hcell 0 (by omega)).1
      subst hspot
      refine .inr ⟨b, off, rfl, fun j hj => ?_⟩
      rw [flat_len] at hj
      rw [flat_at V0 V1 len j hj]
      have hc := hcell (j / 2) (by omega)
      rw [Go.WideShapes.add_plain, Go.WideShapes.add_plain] at hc
      rcases (show j % 2 = 0 ∨ j % 2 = 1 from by omega) with e | e
      · rw [if_pos e]; have := hc.1; rw [show j / 2 * 2 = j from by omega] at this; exact this
      · rw [if_neg (by omega)]; have := hc.2.1; rw [show j / 2 * 2 + 1 = j from by omega] at this; exact this


theorem field_int_r {H : Type} {enc : TypeId × Value → H} {W : World} {n : Nat} {c : Value} {o : Option (DataW H × List MemPlace)} (h : DataW.trod enc Try.prog W 0 (fun _ => true) true n 3 [c] = o) (ho : ∃ y, o = some y) : ∃ z, c = .int .i64 z ∧ -9223372036854775808 ≤ z ∧ z ≤ 9223372036854775807 := by
  obtain ⟨y, rfl⟩ := ho
  obtain ⟨z, hz, _, hw⟩ := DataW.trod_int Try.underlying3 h
  exact ⟨z, by simpa using hz, wf_bounds hw⟩

theorem open_sum_r {H : Type} {enc : TypeId × Value → H} {W : World} {b0 : Nat} {r : Reach} {v : Value} {d : DataW H} {p : List MemPlace} (hv : Value.okWide Try.prog W r b0 23 v)
    (h : DataW.Trod enc Try.prog W 0 (fun _ => true) true 23 v d p) : ∃ s : Grain.Sm, v = sv s ∧ -9223372036854775808 ≤ s.t ∧ s.t ≤ 9223372036854775807 := by
  obtain ⟨cs, rfl, hsz⟩ := okWide_struct Try.underlying23 hv
  obtain ⟨c0, c1, c2, c3, c4, c5, c6, rfl⟩ := array7 (hsz.trans Try.cellsSum)
  obtain ⟨fuel, hf⟩ := h
  obtain ⟨xs, n, _, _, _, hl, hh⟩ := DataW.trod_struct Try.underlying23 hf
  have hl' : xs.length = 7 := hl
  have ex : ∀ i, i < 7 → ∃ y, xs[i]? = some y := fun i hi => ⟨_, List.getElem?_eq_getElem (by omega)⟩
  have k0 := hh 0 _ rfl
  have k1 := hh 1 _ rfl
  have k2 := hh 2 _ rfl
  have k3 := hh 3 _ rfl
  have k4 := hh 4 _ rfl
  have k5 := hh 5 _ rfl
  have k6 := hh 6 _ rfl
  simp only [Value.cells] at k0 k1 k2 k3 k4 k5 k6
  obtain ⟨z0, rfl⟩ := field_int k0 (ex 0 (by omega))
  obtain ⟨z1, rfl, b0, b1⟩ := field_int_r k1 (ex 1 (by omega))
  obtain ⟨z2, rfl⟩ := field_int k2 (ex 2 (by omega))
  obtain ⟨z3, rfl⟩ := field_int k3 (ex 3 (by omega))
  obtain ⟨z4, rfl⟩ := field_int k4 (ex 4 (by omega))
  obtain ⟨z5, rfl⟩ := field_int k5 (ex 5 (by omega))
  obtain ⟨z6, rfl⟩ := field_int k6 (ex 6 (by omega))
  exact ⟨⟨z0, z1, z2, z3, z4, z5, z6⟩, rfl, b0, b1⟩

end Go.Proofs.Ytondeenhndkjbab
