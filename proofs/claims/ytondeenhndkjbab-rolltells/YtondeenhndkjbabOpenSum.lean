/-
  Arguments that are sums, or slices of samples, opened: what the walks are told of them.
-/
import Derived.Test.YtondeenhndkjbabRows
import Derived.Test.YtondeenhndkjbabUtil
import Derived.Test.YtondeenhndkjbabJoin
import Derived.Deep.SlicePairs
import Derived.ProofKit
import Derived.OpenShut
import Derived.ChangeOld
import Derived.Below
import Derived.SizedLaws
namespace Go.Proofs.Ytondeenhndkjbab
open Go.ChangeShapes Go.WideShapes Go.ChangeAt Go.RowKit Go.GrainU

theorem Try.own : ownKnob Try.prog.godebug = none := by kernel_rfl
theorem Try.laidOut : laidOutB Try.prog = true := by kernel_rfl
theorem Try.cellsSum : Try.prog.cellsOf 23 = 7 := by kernel_rfl
theorem Try.cellsSample : Try.prog.cellsOf 29 = 2 := by kernel_rfl
theorem Try.cellsInt : Try.prog.cellsOf 3 = 1 := by kernel_rfl
theorem Try.bytesSample : Try.prog.bytesOf 29 = 16 := by kernel_rfl

theorem array7 {cs : Array Value} (h : cs.size = 7) : ∃ c0 c1 c2 c3 c4 c5 c6, cs = #[c0, c1, c2, c3, c4, c5, c6] := by
  rcases cs with ⟨l⟩
  match l, h with
  | [c0, c1, c2, c3, c4, c5, c6], _ => exact ⟨c0, c1, c2, c3, c4, c5, c6, rfl⟩

theorem field_int {H : Type} {enc : TypeId × Value → H} {W : World} {n : Nat} {c : Value} {o : Option (DataW H × List MemPlace)} (h : DataW.trod enc Try.prog W 0 (fun _ => true) true n 3 [c] = o) (ho : ∃ y, o = some y) : ∃ z, c = .int .i64 z := by
  obtain ⟨y, rfl⟩ := ho
  obtain ⟨z, hz, _, _⟩ := DataW.trod_int Try.underlying3 h
  exact ⟨z, by simpa using hz⟩

theorem open_sum {H : Type} {enc : TypeId × Value → H} {W : World} {b0 : Nat} {r : Reach} {v : Value} {d : DataW H} {p : List MemPlace} (hv : Value.okWide Try.prog W r b0 23 v)
    (h : DataW.Trod enc Try.prog W 0 (fun _ => true) true 23 v d p) : ∃ s : Grain.Sm, v = sv s := by
  obtain ⟨cs, rfl, hsz⟩ := okWide_struct Try.underlying23 hv
  obtain ⟨c0, c1, c2, c3, c4, c5, c6, rfl⟩ := array7 (hsz.trans Try.cellsSum)
  obtain ⟨fuel, hf⟩ := h
  obtain ⟨xs, n, _, _, _, hl, hh⟩ := DataW.trod_struct Try.underlying23 hf
  have hl' : xs.length = 7 := hl
  have ex : ∀ i, i < 7 → ∃ y, xs[i]? = some y := fun i hi => ⟨_, List.getElem?_eq_getElem (by omega)⟩
  have k0 := hh 0 _ rfl
  have k1 := hh 1 _ rfl
  have k2 := hh 2 _ rfl
  have k3 := hh 3 _ rfl
  have k4 := hh 4 _ rfl
  have k5 := hh 5 _ rfl
  have k6 := hh 6 _ rfl
  simp only [Value.cells] at k0 k1 k2 k3 k4 k5 k6
  obtain ⟨z0, rfl⟩ := field_int k0 (ex 0 (by omega))
  obtain ⟨z1, rfl⟩ := field_int k1 (ex 1 (by omega))
  obtain ⟨z2, rfl⟩ := field_int k2 (ex 2 (by omega))
  obtain ⟨z3, rfl⟩ := field_int k3 (ex 3 (by omega))
  obtain ⟨z4, rfl⟩ := field_int k4 (ex 4 (by omega))
  obtain ⟨z5, rfl⟩ := field_int k5 (ex 5 (by omega))
  obtain ⟨z6, rfl⟩ := field_int k6 (ex 6 (by omega))
  exact ⟨⟨z0, z1, z2, z3, z4, z5, z6⟩, rfl⟩

end Go.Proofs.Ytondeenhndkjbab
