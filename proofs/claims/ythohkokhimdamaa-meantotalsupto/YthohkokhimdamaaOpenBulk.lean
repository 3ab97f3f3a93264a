/-
  An argument that is lines, opened, with what the bound of the narrowed form gives: how many lines, and how many labels each has.
-/
import Derived.Test.YthohkokhimdamaaOpenLines
import Derived.Test.YthohkokhimdamaaBulk
namespace Go.Proofs.Ythohkokhimdamaa
open Go.ChangeShapes Go.WideShapes Go.ChangeAt Go.RowKit Go.GrainU

theorem bulk_mem {H : Type} {d : DataW H} : ∀ {l : List (DataW H)}, d ∈ l → Rows.uptoBulk d ≤ Rows.uptoBulkAll l
  | x :: r, h => by
    rw [Rows.uptoBulkAll]
    rcases List.mem_cons.1 h with e | e
    · rw [e]; omega
    · have := bulk_mem e
      omega

/-- a slice, whatever its elements are, and how much it holds -/
theorem open_list3 {H : Type} {enc : TypeId × Value → H} {W : World} {α : Type} [Inhabited α] {fuel : Nat} {t e : TypeId} {cs : List Value} {x : DataW H × List MemPlace} (cell : α → List Value) (Q : α → Prop) (c : Nat) (hc : 0 < c) (hcl : ∀ a, (cell a).length = c)
    (hcells : Try.prog.cellsOf e = c) (_hb : 1 ≤ Try.prog.bytesOf e) (ht : Try.prog.underlying t = some (.slice e)) (h : DataW.trod enc Try.prog W 0 (fun _ => true) true fuel t cs = some x) (hw : ∀ n ∈ x.1.weights Try.prog t, n ≤ reachBytes) {N : Nat} (hbk : Rows.uptoBulk x.1 ≤ N)
    (each : ∀ n cs' y, n < fuel → DataW.trod enc Try.prog W 0 (fun _ => true) true n e cs' = some y → (∀ k ∈ y.1.weights Try.prog e, k ≤ reachBytes) → Rows.uptoBulk y.1 ≤ N → ∃ a, cs' = cell a ∧ Q a) :
    ∃ (l : List α) (ao : Option Addr) (cap : Nat), cs = [.slice ao l.length cap] ∧ Seg W ao (l.flatMap cell) ∧ (∀ a ∈ l, Q a) ∧ l.length ≤ cap ∧ l.length * Try.prog.bytesOf e ≤ reachBytes ∧ (ao = none → l.length = 0 ∧ cap = 0) ∧ cap ≤ maxLen ∧ l.length ≤ N := by
  rcases DataW.trod_slice ht h with ⟨hcs, _⟩ | ⟨a, len, cap, elems, rest, n, hn, hcs, hx, _, hl, hm, hlen, hel, hsp, hns⟩
  · exact ⟨[], none, 0, hcs, .inl rfl, fun a ha => by (cases ha), Nat.le_refl _, by simp, fun _ => ⟨rfl, rfl⟩, Nat.zero_le _, Nat.zero_le _⟩
  · have hwt : ∀ k, k ∈ (elems.length + rest.length) * Try.prog.bytesOf e :: (DataW.weightsAll Try.prog e (elems.map (·.1)) ++ DataW.weightsAll Try.prog e (rest.map (·.1))) → k ≤ reachBytes := by
      intro k hk
      refine hw k ?_
      rw [hx]
      simp only [DataW.weights, ht]
      simpa using hk
    have hlb : len * Try.prog.bytesOf e ≤ reachBytes := by
      have h1 := hwt _ (List.mem_cons_self ..)
      have h2 : len * Try.prog.bytesOf e ≤ (elems.length + rest.length) * Try.prog.bytesOf e := Nat.mul_le_mul_right _ (by omega)
      omega
    have hbl : ∀ d ∈ elems.map (·.1), Rows.uptoBulk d ≤ N := by
      intro d hd
      refine Nat.le_trans ?_ hbk
      rw [hx, Rows.uptoBulk]
      have := bulk_mem hd
      omega
    have hln : len ≤ N := by
      refine Nat.le_trans ?_ hbk
      rw [hx, Rows.uptoBulk]
      have := bulk_long (elems.map (·.1))
      rw [List.length_map] at this
      omega
    have ex : ∀ i, i < len → ∃ y : α, (∀ j, j < c → W.cell? (a.add (i * c + j)) = (cell y)[j]?) ∧ Q y := by
      intro i hi
      have h1 := hel i hi
      have hi' : i < elems.length := by omega
      rw [List.getElem?_eq_getElem hi', Option.bind_eq_some_iff] at h1
      obtain ⟨cs', h2, h3⟩ := h1
      rw [hcells] at h2
      obtain ⟨_, hlen', hcc⟩ := World.cells?_some h2
      obtain ⟨y, rfl, hq⟩ := each n cs' _ (by omega) h3 (fun k hk => hwt k (List.mem_cons_of_mem _ (List.mem_append_left _ (weights_mem_all (List.mem_map_of_mem (List.getElem_mem hi')) k hk)))) (hbl _ (List.mem_map_of_mem (List.getElem_mem hi')))
      refine ⟨y, fun j hj => ?_, hq⟩
      have := hcc j hj
      rw [Go.Deep.add_add] at this
      exact this
    obtain ⟨f, hf⟩ := Go.Deep.choose_lt ex
    refine ⟨(List.range len).map f, some a, cap, by simpa using hcs, ?_, fun y hy => ?_, by simpa using hl, by simpa using hlb, fun h => (by cases h), hm, by simpa using hln⟩
    · rcases Nat.eq_zero_or_pos len with h0 | h0
      · subst h0; exact .inl rfl
      · obtain ⟨b, off, spot⟩ := a
        have hspot : spot = none := by
          have h1 := (hf 0 h0).1 0 hc
          have h2 : 0 < (cell (f 0)).length := by rw [hcl]; exact hc
          rw [List.getElem?_eq_getElem h2] at h1
          simp only [Nat.zero_mul, Nat.add_zero] at h1
          simpa [Addr.add] using World.cell?_spot h1
        subst hspot
        rw [List.flatMap_map]
        refine seg_of hc f cell hcl (fun i hi j hj => ?_)
        have := (hf i hi).1 j hj
        rw [Go.WideShapes.add_plain] at this
        exact this
    · obtain ⟨i, hi, rfl⟩ := List.mem_map.1 hy
      exact (hf i (by simpa using hi)).2

/-- a line -/
theorem open_lineB {H : Type} {enc : TypeId × Value → H} {W : World} {n : Nat} {cs : List Value} {x : DataW H × List MemPlace}
    (h : DataW.trod enc Try.prog W 0 (fun _ => true) true n 38 cs = some x) (hw : ∀ k ∈ x.1.weights Try.prog 38, k ≤ reachBytes) {N : Nat} (hbk : Rows.uptoBulk x.1 ≤ N) : ∃ k : LT, cs = tcell k ∧ LnIn W k ∧ k.ser.length ≤ N := by
  obtain ⟨xs, m, _, hx, hl, hlen, hf⟩ := DataW.trod_struct Try.underlying38 h
  rw [Try.cellsLine2] at hl
  have hlen' : xs.length = 2 := hlen
  obtain ⟨c0, c1, rfl⟩ := list2 hl
  obtain ⟨x0, x1, rfl⟩ := list2 hlen'
  have g0 : DataW.trod enc Try.prog W 0 (fun _ => true) true m 35 ((List.drop 0 [c0, c1]).take (Try.prog.cellsOf 35)) = some x0 := hf 0 _ rfl
  have g1 : DataW.trod enc Try.prog W 0 (fun _ => true) true m 36 ((List.drop 1 [c0, c1]).take (Try.prog.cellsOf 36)) = some x1 := hf 1 _ rfl
  rw [Try.cellsSeries] at g0
  rw [Try.cellsSamples] at g1
  simp only [List.drop_zero, List.drop_succ_cons, List.take_succ_cons, List.take_zero] at g0 g1
  have hwe : ∀ k, k ∈ DataW.weightsEach Try.prog [35, 36] [x0.1, x1.1] → k ≤ reachBytes := by
    intro k hk
    refine hw k ?_
    rw [hx]
    simp only [DataW.weights, Try.underlying38]
    exact hk
  have hb0 : Rows.uptoBulk x0.1 ≤ N := by
    refine Nat.le_trans ?_ hbk
    rw [hx, Rows.uptoBulk]
    have := bulk_mem (d := x0.1) (l := [x0, x1].map (·.1)) (by simp)
    omega
  obtain ⟨ls, sa, sc, e0, sg0, q0, l0, b0, n0, m0, k0⟩ := open_list3 (α := ByteArray × ByteArray) (fun x => [.string x.1, .string x.2]) (fun k => k.1.size ≤ 140737488355328 ∧ k.2.size ≤ 140737488355328) 2 (by decide) (fun _ => rfl) Try.cellsLabel2 (by rw [Try.bytesLabel]; decide) Try.underlying35 g0 (fun k hk => hwe k (DataW.weights_mem_each (j := 0) rfl rfl k hk)) hb0 (fun n cs' y _ hy hwy _ => open_lab hy hwy)
  obtain ⟨ps, pa, pc, e1, sg1, _, l1, b1, n1, m1⟩ := open_list2 (α := Int × Int) (fun x => [.int .i64 x.1, .int .i64 x.2]) (fun _ => True) 2 (by decide) (fun _ => rfl) Try.cellsSample2 (by rw [Try.bytesSample]; decide) Try.underlying36 g1 (fun k hk => hwe k (DataW.weights_mem_each (j := 1) rfl rfl k hk)) (fun n cs' y _ hy _ => by
    obtain ⟨k, hk⟩ := open_smp hy
    exact ⟨k, hk, trivial⟩)
  rw [← lcells_flat] at sg0
  rw [← scells_flat] at sg1
  simp at e0 e1
  subst e0 e1
  rw [Try.bytesLabel] at b0
  rw [Try.bytesSample] at b1
  have hr : reachBytes ≤ 140737488355328 := by decide
  have hm1 : pc ≤ 9223372036854775807 := by unfold maxLen at m1; exact m1
  refine ⟨⟨ls, ps, sa, sc, pa, pc⟩, rfl, ⟨⟨sg0, sg1, ?_, by show ls.length ≤ _; omega, by show ps.length ≤ _; omega, n0, ⟨l1, hm1⟩, n1⟩, by show ls.length * 32 ≤ _; omega, by show ps.length * 16 ≤ _; omega⟩, k0⟩
  intro k hk
  have hk' : k < ls.length := hk
  have e : lk ls k = (ls[k]).1 ∧ lv ls k = (ls[k]).2 := by simp [lk, lv, List.getD, List.getElem?_eq_getElem hk']
  have := q0 _ (List.getElem_mem hk')
  show (lk ls k).size ≤ _ ∧ (lv ls k).size ≤ _
  rw [e.1, e.2]
  omega

/-- lines -/
theorem open_linesB {H : Type} {enc : TypeId × Value → H} {W : World} {fuel : Nat} {cs : List Value} {x : DataW H × List MemPlace}
    (h : DataW.trod enc Try.prog W 0 (fun _ => true) true fuel 22 cs = some x) (hw : ∀ k ∈ x.1.weights Try.prog 22, k ≤ reachBytes) {N : Nat} (hbk : Rows.uptoBulk x.1 ≤ N) :
    ∃ (l : List LT) (ao : Option Addr) (cap : Nat), cs = [.slice ao l.length cap] ∧ Seg W ao (tcells l) ∧ (∀ x ∈ l, LnIn W x ∧ x.ser.length ≤ N) ∧ l.length * 48 ≤ 140737488355328 ∧ l.length ≤ N := by
  obtain ⟨l, ao, cap, e, sg, q, _, b, _, _, hN⟩ := open_list3 (α := LT) tcell (fun x => LnIn W x ∧ x.ser.length ≤ N) 2 (by decide) (fun _ => rfl) Try.cellsLine2 (by rw [Try.bytesLine]; decide) Try.underlying22 h hw hbk (fun n cs' y _ hy hwy hby => open_lineB hy hwy hby)
  rw [← tcells_flat] at sg
  rw [Try.bytesLine] at b
  have hr : reachBytes ≤ 140737488355328 := by decide
  exact ⟨l, ao, cap, e, sg, q, by omega, hN⟩

end Go.Proofs.Ythohkokhimdamaa
