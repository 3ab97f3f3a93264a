/-
  For every input, ShelfKeeps returns true: whatever is done to a shelf, what it holds is what was taken and not forgotten, in the tier that the time calls for. No condition.
-/
import Derived.Test.YtcgcefnfelmmkaaOpenShelf
import Derived.Test.YtcgcefnfelmmkaaShKW
namespace Go.GrainU
open Go.RowKit

theorem acells_flat (l : List Grain.Act) : acells l = l.flatMap acc5 := by
  induction l with
  | nil => rfl
  | cons x r ih => simp [acells, ih]

theorem list4 {α : Type} {l : List α} (h : l.length = 4) : ∃ a b c d, l = [a, b, c, d] := by
  match l, h with
  | [a, b, c, d], _ => exact ⟨a, b, c, d, rfl⟩

theorem list5 {α : Type} {l : List α} (h : l.length = 5) : ∃ a b c d e, l = [a, b, c, d, e] := by
  match l, h with
  | [a, b, c, d, e], _ => exact ⟨a, b, c, d, e, rfl⟩

instance : Inhabited Grain.Act := ⟨act0⟩

end Go.GrainU
namespace Go.Proofs.Ytcgcefnfelmmkaa
open Go.ChangeShapes Go.WideShapes Go.ChangeAt Go.RowKit Go.GrainU

theorem Try.cellsAct : Try.prog.cellsOf 73 = 5 := by kernel_rfl
theorem Try.bytesAct : Try.prog.bytesOf 73 = 40 := by kernel_rfl

/-- one deed -/
theorem open_act {H : Type} {enc : TypeId × Value → H} {W : World} {n : Nat} {cs : List Value} {x : DataW H × List MemPlace}
    (h : DataW.trod enc Try.prog W 0 (fun _ => true) true n 73 cs = some x) : ∃ k : Grain.Act, cs = acc5 k := by
  obtain ⟨xs, m, _, _, hl, hlen, hf⟩ := DataW.trod_struct Try.underlying73 h
  rw [Try.cellsAct] at hl
  have hlen' : xs.length = 4 := hlen
  obtain ⟨c0, c1, c2, c3, c4, rfl⟩ := list5 hl
  obtain ⟨x0, x1, x2, x3, rfl⟩ := list4 hlen'
  have g0 : DataW.trod enc Try.prog W 0 (fun _ => true) true m 3 ((List.drop 0 [c0, c1, c2, c3, c4]).take (Try.prog.cellsOf 3)) = some x0 := hf 0 _ rfl
  have g1 : DataW.trod enc Try.prog W 0 (fun _ => true) true m 29 ((List.drop 1 [c0, c1, c2, c3, c4]).take (Try.prog.cellsOf 29)) = some x1 := hf 1 _ rfl
  have g2 : DataW.trod enc Try.prog W 0 (fun _ => true) true m 3 ((List.drop 3 [c0, c1, c2, c3, c4]).take (Try.prog.cellsOf 3)) = some x2 := hf 2 _ rfl
  have g3 : DataW.trod enc Try.prog W 0 (fun _ => true) true m 3 ((List.drop 4 [c0, c1, c2, c3, c4]).take (Try.prog.cellsOf 3)) = some x3 := hf 3 _ rfl
  rw [Try.cellsInt] at g0 g2 g3
  rw [Try.cellsSample2] at g1
  simp only [List.drop_zero, List.drop_succ_cons, List.take_succ_cons, List.take_zero] at g0 g1 g2 g3
  obtain ⟨z0, rfl⟩ := field_i64 g0
  obtain ⟨⟨z1, z2⟩, e1⟩ := open_smp g1
  obtain ⟨z3, rfl⟩ := field_i64 g2
  obtain ⟨z4, rfl⟩ := field_i64 g3
  simp only [List.cons.injEq, and_true] at e1
  obtain ⟨rfl, rfl⟩ := e1
  exact ⟨⟨z0, z1, z2, z3, z4⟩, rfl⟩

set_option maxRecDepth 100000 in
theorem skeeps_lifted (os : Os) (started : os.Started) (H : Type) (enc : TypeId × Value → H) :
    ReturnsInHanded {} Try.checked os 4 .any (Rows.shelfKeepsSpec.pre6 enc Try.prog Try.f4 Rows.shelfKeepsRow.domain false) (Rows.shelfKeepsSpec.post enc Try.prog Try.f4 false true false false) := by
  refine returnsInHanded_of_change_sized (C := Try.checked) Try.own started (by kernel_rfl) Try.func4
    (ChangeSpec.witness6 (enc := enc) (C := Try.checked) false ⟨#[], #[.slice none 0 0], []⟩ 8 (by kernel_rfl) (by kernel_rfl) (by kernel_rfl) (by kernel_rfl)) ?_
  intro W base args ds gs before hval0 hW hcnd hsz0 _
  have hval : ∀ (j : Nat) t v, Try.f4.params[j]? = some t → args[j]? = some v → Value.okWide Try.prog W .any base t v := hval0
  have hsz : (DataW.weightsEach Try.prog (Try.f4.params.toList ++ Rows.shelfKeepsSpec.plain.varTypes Try.prog) (ds ++ gs)).all (· ≤ reachBytes) = true := hsz0
  have hW' := hW
  obtain ⟨p, q, hA0, hV, rfl, hfz, hnd⟩ := hW
  have hA : DataW.TrodAll enc Try.prog W 0 (fun _ => true) true Try.f4.params.toList args.toList ds p := hA0
  rw [Try.params4] at hA hval hsz
  obtain ⟨v0, d0, rfl, rfl, h0⟩ := trodAll_one hA
  obtain ⟨rfl, rfl⟩ := trodVars_none hV
  have lt0 : ∀ x ∈ p, x.block < W.heap.size := by obtain ⟨m, hm⟩ := h0; exact DataW.trod_lt m _ _ _ hm
  obtain ⟨a0, len0, cap0, rfl⟩ := okWide_slice Try.underlying40 (hval 0 40 v0 rfl rfl)
  have k0 := h0
  obtain ⟨f0, hf0⟩ := h0
  obtain ⟨l, ao, cap, e0, sg0, _, _, b0, _, _⟩ := open_list2 (α := Grain.Act) acc5 (fun _ => True) 5 (by decide) (fun _ => rfl) Try.cellsAct (by rw [Try.bytesAct]; decide) Try.underlying40 hf0 (fun k hk => of_decide_eq_true (List.all_eq_true.1 hsz k (DataW.weights_mem_each (j := 0) rfl rfl k hk))) (fun n cs' y _ hy _ => by
    obtain ⟨k, hk⟩ := open_act hy
    exact ⟨k, hk, trivial⟩)
  rw [← acells_flat] at sg0
  rw [Try.bytesAct] at b0
  have hr : reachBytes ≤ 140737488355328 := by decide
  have hv : Value.slice a0 len0 cap0 = .slice ao l.length cap := by
    simpa [Value.cells] using e0
  clear hA0 hval0 hsz0 hsz
  rw [hv] at hW' k0 ⊢
  refine (skeeps_any l ao l.length cap W sg0 rfl (by omega)).mono fun e W' ⟨he, bel⟩ => ?_
  subst he
  exact ⟨_, rfl, _, _, _, [], _, [], hW', trodAll_mk1 (shut_bool Try.underlying4 _), (trodAll_cons_mk (Below.trod Try.laidOut (by kernel_rfl) (of_decide_eq_true (by kernel_rfl)) k0 bel lt0) trodAll_mk0), rfl, bel.frame _, fun h => by cases h⟩

theorem skeeps_holds : Rows.ShelfKeepsSaid :=
  OpenClaim.holds_of_wide 4 Try.f4 rfl rfl rfl rfl rfl rfl rfl ⟨rfl, rfl, rfl, rfl, rfl⟩ rfl rfl rfl rfl rfl (by kernel_rfl) Try.func4 (by kernel_rfl)
    (of_decide_eq_true (by kernel_rfl)) (by unfold Func.isWrapper; first | (rw [if_pos (by decide +kernel)]; kernel_rfl) | (rw [if_neg (by decide +kernel)]; exact ⟨rfl, rfl⟩))
    (fun os started H enc _ => skeeps_lifted os started H enc)

end Go.Proofs.Ytcgcefnfelmmkaa
