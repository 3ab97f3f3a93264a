/-
  Arguments that are slices of samples, of parts, of whole numbers, opened: how many they hold is bounded by how much there is.
-/
import Derived.Test.YtfgablhgjbjbkafOpenShelf
import Derived.Test.YtfgablhgjbjbkafPlU
import Derived.Test.YtfgablhgjbjbkafUtilE
namespace Go.Proofs.Ytfgablhgjbjbkaf
open Go.ChangeShapes Go.WideShapes Go.ChangeAt Go.RowKit Go.GrainU

instance : Inhabited Grain.Pt := ⟨⟨0, 0, 0⟩⟩

theorem pcells_flat (l : List Grain.Pt) : pcells l = l.flatMap ptc := by
  induction l with
  | nil => rfl
  | cons x r ih => rw [pcells, ih]; simp

theorem icells_flat (l : List Int) : icells l = l.flatMap fun z => [.int .i64 z] := by
  induction l with
  | nil => rfl
  | cons x r ih => simp [icells] at ih ⊢; exact ih

theorem list3 {α : Type} {l : List α} (h : l.length = 3) : ∃ a b c, l = [a, b, c] := by
  match l, h with
  | [a, b, c], _ => exact ⟨a, b, c, rfl⟩

theorem Try.cellsPart : Try.prog.cellsOf 34 = 3 := by kernel_rfl
theorem Try.bytesPart : Try.prog.bytesOf 34 = 24 := by kernel_rfl
theorem Try.bytesInt : Try.prog.bytesOf 3 = 8 := by kernel_rfl

theorem open_pt {H : Type} {enc : TypeId × Value → H} {W : World} {n : Nat} {cs : List Value} {x : DataW H × List MemPlace}
    (h : DataW.trod enc Try.prog W 0 (fun _ => true) true n 34 cs = some x) : ∃ k : Grain.Pt, cs = ptc k := by
  obtain ⟨xs, m, _, _, hl, hlen, hf⟩ := DataW.trod_struct Try.underlying34 h
  rw [Try.cellsPart] at hl
  have hlen' : xs.length = 3 := hlen
  obtain ⟨c0, c1, c2, rfl⟩ := list3 hl
  obtain ⟨x0, x1, x2, rfl⟩ := list3 hlen'
  have g0 : DataW.trod enc Try.prog W 0 (fun _ => true) true m 3 ((List.drop 0 [c0, c1, c2]).take (Try.prog.cellsOf 3)) = some x0 := hf 0 _ rfl
  have g1 : DataW.trod enc Try.prog W 0 (fun _ => true) true m 3 ((List.drop 1 [c0, c1, c2]).take (Try.prog.cellsOf 3)) = some x1 := hf 1 _ rfl
  have g2 : DataW.trod enc Try.prog W 0 (fun _ => true) true m 3 ((List.drop 2 [c0, c1, c2]).take (Try.prog.cellsOf 3)) = some x2 := hf 2 _ rfl
  rw [Try.cellsInt] at g0 g1 g2
  simp only [List.drop_zero, List.drop_succ_cons, List.take_succ_cons, List.take_zero] at g0 g1 g2
  obtain ⟨z0, rfl⟩ := field_i64 g0
  obtain ⟨z1, rfl⟩ := field_i64 g1
  obtain ⟨z2, rfl⟩ := field_i64 g2
  exact ⟨⟨z0, z1, z2⟩, rfl⟩

theorem open_smps {H : Type} {enc : TypeId × Value → H} {W : World} {fuel : Nat} {ao : Option Addr} {n c : Nat} {x : DataW H × List MemPlace}
    (h : DataW.trod enc Try.prog W 0 (fun _ => true) true fuel 24 (Value.slice ao n c).cells.toList = some x) (hw : ∀ k ∈ x.1.weights Try.prog 24, k ≤ reachBytes) :
    ∃ l : List (Int × Int), n = l.length ∧ Seg W ao (scells l) ∧ n * 16 ≤ 140737488355328 := by
  obtain ⟨l, ao', c', e, sg, _, _, b, _, _⟩ := open_list2 (α := Int × Int) (fun x => [.int .i64 x.1, .int .i64 x.2]) (fun _ => True) 2 (by decide) (fun _ => rfl) Try.cellsSample2 (by rw [Try.bytesSample]; decide) Try.underlying24 h hw (fun n cs' y _ hy _ => by
    obtain ⟨k, hk⟩ := open_smp hy
    exact ⟨k, hk, trivial⟩)
  simp [Value.cells] at e
  obtain ⟨rfl, rfl, rfl⟩ := e
  rw [← scells_flat] at sg
  rw [Try.bytesSample] at b
  have hr : reachBytes ≤ 140737488355328 := by decide
  exact ⟨l, rfl, sg, by omega⟩

theorem open_pts {H : Type} {enc : TypeId × Value → H} {W : World} {fuel : Nat} {ao : Option Addr} {n c : Nat} {x : DataW H × List MemPlace}
    (h : DataW.trod enc Try.prog W 0 (fun _ => true) true fuel 29 (Value.slice ao n c).cells.toList = some x) (hw : ∀ k ∈ x.1.weights Try.prog 29, k ≤ reachBytes) :
    ∃ l : List Grain.Pt, n = l.length ∧ Seg W ao (pcells l) ∧ n * 24 ≤ 140737488355328 := by
  obtain ⟨l, ao', c', e, sg, _, _, b, _, _⟩ := open_list2 (α := Grain.Pt) ptc (fun _ => True) 3 (by decide) (fun _ => rfl) Try.cellsPart (by rw [Try.bytesPart]; decide) Try.underlying29 h hw (fun n cs' y _ hy _ => by
    obtain ⟨k, hk⟩ := open_pt hy
    exact ⟨k, hk, trivial⟩)
  simp [Value.cells] at e
  obtain ⟨rfl, rfl, rfl⟩ := e
  rw [← pcells_flat] at sg
  rw [Try.bytesPart] at b
  have hr : reachBytes ≤ 140737488355328 := by decide
  exact ⟨l, rfl, sg, by omega⟩

theorem open_its {H : Type} {enc : TypeId × Value → H} {W : World} {fuel : Nat} {ao : Option Addr} {n c : Nat} {x : DataW H × List MemPlace}
    (h : DataW.trod enc Try.prog W 0 (fun _ => true) true fuel 41 (Value.slice ao n c).cells.toList = some x) (hw : ∀ k ∈ x.1.weights Try.prog 41, k ≤ reachBytes) :
    ∃ l : List Int, n = l.length ∧ Seg W ao (icells l) ∧ n * 8 ≤ 140737488355328 := by
  obtain ⟨l, ao', c', e, sg, _, _, b, _, _⟩ := open_list2 (α := Int) (fun z => [.int .i64 z]) (fun _ => True) 1 (by decide) (fun _ => rfl) Try.cellsInt (by rw [Try.bytesInt]; decide) Try.underlying41 h hw (fun n cs' y _ hy _ => by
    obtain ⟨k, hk, _, _⟩ := DataW.trod_int Try.underlying3 hy
    exact ⟨k, hk, trivial⟩)
  simp [Value.cells] at e
  obtain ⟨rfl, rfl, rfl⟩ := e
  rw [← icells_flat] at sg
  rw [Try.bytesInt] at b
  have hr : reachBytes ≤ 140737488355328 := by decide
  exact ⟨l, rfl, sg, by omega⟩

end Go.Proofs.Ytfgablhgjbjbkaf
