/-
  Arguments that are slices of buckets, opened.
-/
import Derived.Test.YtondeenhndkjbabOpenSamples
import Derived.Test.YtondeenhndkjbabRollU
import Derived.Deep.Slices
namespace Go.Proofs.Ytondeenhndkjbab
open Go.ChangeShapes Go.WideShapes Go.ChangeAt Go.RowKit Go.GrainU

theorem Try.cellsBucket : Try.prog.cellsOf 57 = 8 := by kernel_rfl

/-- one bucket's cells -/
theorem open_bucket {H : Type} {enc : TypeId × Value → H} {W : World} {n : Nat} {cs : List Value} {x : DataW H × List MemPlace}
    (h : DataW.trod enc Try.prog W 0 (fun _ => true) true n 57 cs = some x) : ∃ k : Grain.Bk, cs = kc k := by
  obtain ⟨xs, m, _, _, hl, hlen, hf⟩ := DataW.trod_struct Try.underlying57 h
  rw [Try.cellsBucket] at hl
  match cs, hl with
  | [c0, c1, c2, c3, c4, c5, c6, c7], _ =>
    have hlen' : xs.length = 2 := hlen
    have ex : ∀ i, i < 2 → ∃ y, xs[i]? = some y := fun i hi => ⟨_, List.getElem?_eq_getElem (by omega)⟩
    have g0 : DataW.trod enc Try.prog W 0 (fun _ => true) true m 3 ((List.drop 0 [c0, c1, c2, c3, c4, c5, c6, c7]).take (Try.prog.cellsOf 3)) = xs[0]? := hf 0 _ rfl
    have g1 : DataW.trod enc Try.prog W 0 (fun _ => true) true m 23 ((List.drop 1 [c0, c1, c2, c3, c4, c5, c6, c7]).take (Try.prog.cellsOf 23)) = xs[1]? := hf 1 _ rfl
    rw [Try.cellsInt] at g0
    rw [Try.cellsSum] at g1
    simp only [List.drop_zero, List.drop_succ_cons, List.take_succ_cons, List.take_zero] at g0 g1
    obtain ⟨z0, rfl⟩ := field_int g0 (ex 0 (by omega))
    obtain ⟨y1, hy1⟩ := ex 1 (by omega)
    rw [hy1] at g1
    obtain ⟨ys, m', _, _, _, hl2, hf2⟩ := DataW.trod_struct Try.underlying23 g1
    have hl2' : ys.length = 7 := hl2
    have ey : ∀ i, i < 7 → ∃ y, ys[i]? = some y := fun i hi => ⟨_, List.getElem?_eq_getElem (by omega)⟩
    have k0 : DataW.trod enc Try.prog W 0 (fun _ => true) true m' 3 ((List.drop 0 [c1, c2, c3, c4, c5, c6, c7]).take (Try.prog.cellsOf 3)) = ys[0]? := hf2 0 _ rfl
    have k1 : DataW.trod enc Try.prog W 0 (fun _ => true) true m' 3 ((List.drop 1 [c1, c2, c3, c4, c5, c6, c7]).take (Try.prog.cellsOf 3)) = ys[1]? := hf2 1 _ rfl
    have k2 : DataW.trod enc Try.prog W 0 (fun _ => true) true m' 3 ((List.drop 2 [c1, c2, c3, c4, c5, c6, c7]).take (Try.prog.cellsOf 3)) = ys[2]? := hf2 2 _ rfl
    have k3 : DataW.trod enc Try.prog W 0 (fun _ => true) true m' 3 ((List.drop 3 [c1, c2, c3, c4, c5, c6, c7]).take (Try.prog.cellsOf 3)) = ys[3]? := hf2 3 _ rfl
    have k4 : DataW.trod enc Try.prog W 0 (fun _ => true) true m' 3 ((List.drop 4 [c1, c2, c3, c4, c5, c6, c7]).take (Try.prog.cellsOf 3)) = ys[4]? := hf2 4 _ rfl
    have k5 : DataW.trod enc Try.prog W 0 (fun _ => true) true m' 3 ((List.drop 5 [c1, c2, c3, c4, c5, c6, c7]).take (Try.prog.cellsOf 3)) = ys[5]? := hf2 5 _ rfl
    have k6 : DataW.trod enc Try.prog W 0 (fun _ => true) true m' 3 ((List.drop 6 [c1, c2, c3, c4, c5, c6, c7]).take (Try.prog.cellsOf 3)) = ys[6]? := hf2 6 _ rfl
    rw [Try.cellsInt] at k0 k1 k2 k3 k4 k5 k6
    simp only [List.drop_zero, List.drop_succ_cons, List.take_succ_cons, List.take_zero] at k0 k1 k2 k3 k4 k5 k6
    obtain ⟨z1, rfl⟩ := field_int k0 (ey 0 (by omega))
    obtain ⟨z2, rfl⟩ := field_int k1 (ey 1 (by omega))
    obtain ⟨z3, rfl⟩ := field_int k2 (ey 2 (by omega))
    obtain ⟨z4, rfl⟩ := field_int k3 (ey 3 (by omega))
    obtain ⟨z5, rfl⟩ := field_int k4 (ey 4 (by omega))
    obtain ⟨z6, rfl⟩ := field_int k5 (ey 5 (by omega))
    obtain ⟨z7, rfl⟩ := field_int k6 (ey 6 (by omega))
    exact ⟨⟨z0, ⟨z1, z2, z3, z4, z5, z6, z7⟩⟩, rfl⟩

instance : Inhabited Grain.Bk := ⟨⟨0, Grain.zero⟩⟩

theorem open_buckets {H : Type} {enc : TypeId × Value → H} {W : World} {fuel : Nat} {ao : Option Addr} {len cap : Nat} {x : DataW H × List MemPlace}
    (hf : DataW.trod enc Try.prog W 0 (fun _ => true) true fuel 39 (Value.slice ao len cap).cells.toList = some x) :
    ∃ B : List Grain.Bk, Seg W ao (kcells B) ∧ len = B.length ∧ len ≤ cap ∧ cap ≤ maxLen := by
  rcases Go.Deep.open_slice Try.underlying39 hf with ⟨hcs, _⟩ | ⟨a, l, c, m, n, D, Pl, hcs, _, hl, hm, hmm, _, hcell⟩
  · simp [Value.cells] at hcs
    obtain ⟨rfl, rfl, rfl⟩ := hcs
    exact ⟨[], .inl rfl, rfl, Nat.le_refl _, by unfold maxLen; omega⟩
  · simp [Value.cells] at hcs
    obtain ⟨rfl, rfl, rfl⟩ := hcs
    simp at hmm
    subst hmm
    have each : ∀ i, i < len → ∃ k : Grain.Bk, ∀ j, j < 8 → W.cell? (a.add (i * 8 + j)) = (kc k)[j]? := by
      intro i hi
      obtain ⟨cs', h1, h2⟩ := hcell i (by omega)
      rw [Try.cellsBucket] at h1
      obtain ⟨_, hlen, hc⟩ := World.cells?_some h1
      obtain ⟨k, rfl⟩ := open_bucket h2
      refine ⟨k, fun j hj => ?_⟩
      have := hc j hj
      rw [Go.Deep.add_add] at this
      exact this
    obtain ⟨f, hff⟩ := Go.Deep.choose_lt each
    refine ⟨(List.range len).map f, ?_, by simp, hl, hm⟩
    rcases Nat.eq_zero_or_pos len with h0 | h0
    · subst h0; exact .inl rfl
    · obtain ⟨b, off, spot⟩ := a
      have hspot : spot = none := by
        have := hff 0 h0 0 (by omega)
        simp only [kc, Nat.zero_mul, Nat.add_zero, List.getElem?_cons_zero] at this
        simpa [Addr.add] using World.cell?_spot this
      subst hspot
      refine .inr ⟨b, off, rfl, fun j hj => ?_⟩
      rw [kcells_length] at hj
      simp at hj
      have h1 := kcells_at ((List.range len).map f) (j / 8) (j % 8) (by simp; omega) (by omega)
      have h2 := hff (j / 8) (by omega) (j % 8) (by omega)
      rw [show j / 8 * 8 + j % 8 = j from by omega] at h1 h2
      have e : Grain.bk ((List.range len).map f) (j / 8) = f (j / 8) := by
        have hlt : j / 8 < len := by omega
        simp [Grain.bk, List.getD, hlt]
      rw [e] at h1
      rw [h1, ← h2, Go.WideShapes.add_plain]

end Go.Proofs.Ytondeenhndkjbab
