/-
  An argument that is an expression, opened.
-/
import Derived.Test.YthohkokhimdamaaRows
import Derived.Test.YthohkokhimdamaaExM
import Derived.Test.YthohkokhimdamaaSegOf
import Derived.Deep.Slices
import Derived.ProofKit
import Derived.OpenShut
import Derived.ChangeOld
import Derived.Below
import Derived.SizedLaws
namespace Go.GrainU
open Go.RowKit

theorem mcells_flat (l : List Mt) : mcells l = l.flatMap fun x => [.int .i64 x.kind, .string x.key, .string x.val] := by
  induction l with
  | nil => rfl
  | cons x r ih => simp [mcells, ih]

theorem wcells_flat (l : List ByteArray) : wcells l = l.flatMap fun x => [.string x] := by
  induction l with
  | nil => rfl
  | cons x r ih => simp [wcells] at ih ⊢; exact ih

theorem ecells_flat (l : List ET) : ecells l = l.flatMap ecell := by
  induction l with
  | nil => rfl
  | cons x r ih => simp [ecells, ih]

instance : Inhabited Mt := ⟨⟨0, ⟨#[]⟩, ⟨#[]⟩⟩⟩

theorem list3 {α : Type} {l : List α} (h : l.length = 3) : ∃ a b c, l = [a, b, c] := by
  match l, h with
  | [a, b, c], _ => exact ⟨a, b, c, rfl⟩

theorem list7 {α : Type} {l : List α} (h : l.length = 7) : ∃ a b c d e f g, l = [a, b, c, d, e, f, g] := by
  match l, h with
  | [a, b, c, d, e, f, g], _ => exact ⟨a, b, c, d, e, f, g, rfl⟩

theorem weights_mem_all {H : Type} {P : Program} {e : TypeId} {l : List (DataW H)} {d : DataW H} (h : d ∈ l) : ∀ n ∈ d.weights P e, n ∈ DataW.weightsAll P e l := by
  induction l with
  | nil => cases h
  | cons a r ih =>
    intro n hn
    simp only [DataW.weightsAll, List.mem_append]
    rcases List.mem_cons.1 h with e | e
    · rw [e] at hn; exact .inl hn
    · exact .inr (ih e n hn)

end Go.GrainU
namespace Go.Proofs.Ythohkokhimdamaa
open Go.ChangeShapes Go.WideShapes Go.ChangeAt Go.RowKit Go.GrainU

theorem Try.own : ownKnob Try.prog.godebug = none := by kernel_rfl
theorem Try.laidOut : laidOutB Try.prog = true := by kernel_rfl
theorem Try.cellsMatch : Try.prog.cellsOf 107 = 3 := by kernel_rfl
theorem Try.cellsStr : Try.prog.cellsOf 9 = 1 := by kernel_rfl
theorem Try.cellsInt : Try.prog.cellsOf 3 = 1 := by kernel_rfl
theorem Try.cellsExpr : Try.prog.cellsOf 27 = 7 := by kernel_rfl
theorem Try.bytesMatch : Try.prog.bytesOf 107 = 40 := by kernel_rfl
theorem Try.bytesStr : Try.prog.bytesOf 9 = 16 := by kernel_rfl
theorem Try.bytesExpr : Try.prog.bytesOf 27 = 112 := by kernel_rfl
theorem Try.cellsMatches : Try.prog.cellsOf 23 = 1 := by kernel_rfl
theorem Try.cellsWords : Try.prog.cellsOf 24 = 1 := by kernel_rfl
theorem Try.cellsExprs : Try.prog.cellsOf 25 = 1 := by kernel_rfl

/-- a slice, whatever its elements are -/
theorem open_list {H : Type} {enc : TypeId × Value → H} {W : World} {α : Type} [Inhabited α] {fuel : Nat} {t e : TypeId} {cs : List Value} {x : DataW H × List MemPlace} (cell : α → List Value) (Q : α → Prop) (c : Nat) (hc : 0 < c) (hcl : ∀ a, (cell a).length = c)
    (hcells : Try.prog.cellsOf e = c) (hb : 1 ≤ Try.prog.bytesOf e) (ht : Try.prog.underlying t = some (.slice e)) (h : DataW.trod enc Try.prog W 0 (fun _ => true) true fuel t cs = some x) (hw : ∀ n ∈ x.1.weights Try.prog t, n ≤ reachBytes)
    (each : ∀ n cs' y, n < fuel → DataW.trod enc Try.prog W 0 (fun _ => true) true n e cs' = some y → (∀ k ∈ y.1.weights Try.prog e, k ≤ reachBytes) → ∃ a, cs' = cell a ∧ Q a) :
    ∃ (l : List α) (ao : Option Addr) (cap : Nat), cs = [.slice ao l.length cap] ∧ Seg W ao (l.flatMap cell) ∧ (∀ a ∈ l, Q a) ∧ l.length ≤ cap ∧ l.length ≤ reachBytes := by
  rcases DataW.trod_slice ht h with ⟨hcs, _⟩ | ⟨a, len, cap, elems, rest, n, hn, hcs, hx, _, hl, hm, hlen, hel, hsp, hns⟩
  · exact ⟨[], none, 0, hcs, .inl rfl, fun a ha => by (cases ha), Nat.le_refl _, Nat.zero_le _⟩
  · have hwt : ∀ k, k ∈ (elems.length + rest.length) * Try.prog.bytesOf e :: (DataW.weightsAll Try.prog e (elems.map (·.1)) ++ DataW.weightsAll Try.prog e (rest.map (·.1))) → k ≤ reachBytes := by
      intro k hk
      refine hw k ?_
      rw [hx]
      simp only [DataW.weights, ht]
      simpa using hk
    have hlb : len ≤ reachBytes := by
      have h1 := hwt _ (List.mem_cons_self ..)
      have h2 := Nat.mul_le_mul_left (elems.length + rest.length) hb
      omega
    have ex : ∀ i, i < len → ∃ y : α, (∀ j, j < c → W.cell? (a.add (i * c + j)) = (cell y)[j]?) ∧ Q y := by
      intro i hi
      have h1 := hel i hi
      have hi' : i < elems.length := by omega
      rw [List.getElem?_eq_getElem hi', Option.bind_eq_some_iff] at h1
      obtain ⟨cs', h2, h3⟩ := h1
      rw [hcells] at h2
      obtain ⟨_, hlen', hcc⟩ := World.cells?_some h2
      obtain ⟨y, rfl, hq⟩ := each n cs' _ (by omega) h3 (fun k hk => hwt k (List.mem_cons_of_mem _ (List.mem_append_left _ (weights_mem_all (List.mem_map_of_mem (List.getElem_mem hi')) k hk))))
      refine ⟨y, fun j hj => ?_, hq⟩
      have := hcc j hj
      rw [Go.Deep.add_add] at this
      exact this
    obtain ⟨f, hf⟩ := Go.Deep.choose_lt ex
    refine ⟨(List.range len).map f, some a, cap, by simpa using hcs, ?_, fun y hy => ?_, by simpa using hl, by simpa using hlb⟩
    · rcases Nat.eq_zero_or_pos len with h0 | h0
      · subst h0; exact .inl rfl
      · obtain ⟨b, off, spot⟩ := a
        have hspot : spot = none := by
          have h1 := (hf 0 h0).1 0 hc
          have h2 : 0 < (cell (f 0)).length := by rw [hcl]; exact hc
          rw [List.getElem?_eq_getElem h2] at h1
          simp only [Nat.zero_mul, Nat.add_zero] at h1
          simpa [Addr.add] using World.cell?_spot h1
        subst hspot
        rw [List.flatMap_map]
        refine seg_of hc f cell hcl (fun i hi j hj => ?_)
        have := (hf i hi).1 j hj
        rw [Go.WideShapes.add_plain] at this
        exact this
    · obtain ⟨i, hi, rfl⟩ := List.mem_map.1 hy
      exact (hf i (by simpa using hi)).2

theorem field_str {H : Type} {enc : TypeId × Value → H} {W : World} {n : Nat} {c : Value} {y : DataW H × List MemPlace} (h : DataW.trod enc Try.prog W 0 (fun _ => true) true n 9 [c] = some y) (hw : ∀ k ∈ y.1.weights Try.prog 9, k ≤ reachBytes) : ∃ z : ByteArray, c = .string z ∧ z.size ≤ 140737488355328 := by
  obtain ⟨z, hz, hy, _⟩ := DataW.trod_string Try.underlying9 h
  have := hw z.data.toList.length (by rw [hy]; exact List.mem_singleton.2 rfl)
  refine ⟨z, by simpa using hz, ?_⟩
  have hr : reachBytes ≤ 140737488355328 := by decide
  have e : z.size = z.data.toList.length := by show z.data.size = _; exact Array.length_toList.symm
  omega

theorem field_i64 {H : Type} {enc : TypeId × Value → H} {W : World} {n : Nat} {c : Value} {y : DataW H × List MemPlace} (h : DataW.trod enc Try.prog W 0 (fun _ => true) true n 3 [c] = some y) : ∃ z, c = .int .i64 z := by
  obtain ⟨z, hz, _, _⟩ := DataW.trod_int Try.underlying3 h
  exact ⟨z, by simpa using hz⟩

/-- a match -/
theorem open_match7 {H : Type} {enc : TypeId × Value → H} {W : World} {n : Nat} {cs : List Value} {x : DataW H × List MemPlace}
    (h : DataW.trod enc Try.prog W 0 (fun _ => true) true n 107 cs = some x) (hw : ∀ k ∈ x.1.weights Try.prog 107, k ≤ reachBytes) : ∃ k : Mt, cs = [.int .i64 k.kind, .string k.key, .string k.val] ∧ k.key.size ≤ 140737488355328 ∧ k.val.size ≤ 140737488355328 := by
  obtain ⟨xs, m, _, hx, hl, hlen, hf⟩ := DataW.trod_struct Try.underlying107 h
  rw [Try.cellsMatch] at hl
  have hlen' : xs.length = 3 := hlen
  obtain ⟨c0, c1, c2, rfl⟩ := list3 hl
  obtain ⟨x0, x1, x2, rfl⟩ := list3 hlen'
  · skip
    have g0 : DataW.trod enc Try.prog W 0 (fun _ => true) true m 3 ((List.drop 0 [c0, c1, c2]).take (Try.prog.cellsOf 3)) = some x0 := hf 0 _ rfl
    have g1 : DataW.trod enc Try.prog W 0 (fun _ => true) true m 9 ((List.drop 1 [c0, c1, c2]).take (Try.prog.cellsOf 9)) = some x1 := hf 1 _ rfl
    have g2 : DataW.trod enc Try.prog W 0 (fun _ => true) true m 9 ((List.drop 2 [c0, c1, c2]).take (Try.prog.cellsOf 9)) = some x2 := hf 2 _ rfl
    rw [Try.cellsInt] at g0
    rw [Try.cellsStr] at g1 g2
    simp only [List.drop_zero, List.drop_succ_cons, List.take_succ_cons, List.take_zero] at g0 g1 g2
    have hwe : ∀ k, k ∈ DataW.weightsEach Try.prog [3, 9, 9] [x0.1, x1.1, x2.1] → k ≤ reachBytes := by
      intro k hk
      refine hw k ?_
      rw [hx]
      simp only [DataW.weights, Try.underlying107]
      exact hk
    obtain ⟨z0, rfl⟩ := field_i64 g0
    obtain ⟨z1, rfl, s1⟩ := field_str g1 (fun k hk => hwe k (DataW.weights_mem_each (j := 1) rfl rfl k hk))
    obtain ⟨z2, rfl, s2⟩ := field_str g2 (fun k hk => hwe k (DataW.weights_mem_each (j := 2) rfl rfl k hk))
    exact ⟨⟨z0, z1, z2⟩, rfl, s1, s2⟩

theorem open_expr {H : Type} {enc : TypeId × Value → H} {W : World} : ∀ (fuel : Nat) (cs : List Value) (x : DataW H × List MemPlace),
    DataW.trod enc Try.prog W 0 (fun _ => true) true fuel 27 cs = some x → (∀ k ∈ x.1.weights Try.prog 27, k ≤ reachBytes) → ∃ t : ET, cs = ecell t ∧ t.In W := by
  intro fuel
  induction fuel using Nat.strongRecOn with
  | ind fuel ih =>
  intro cs x h hw
  obtain ⟨xs, m, hm, hx, hl, hlen, hf⟩ := DataW.trod_struct Try.underlying27 h
  rw [Try.cellsExpr] at hl
  have hlen' : xs.length = 7 := hlen
  obtain ⟨c0, c1, c2, c3, c4, c5, c6, rfl⟩ := list7 hl
  obtain ⟨x0, x1, x2, x3, x4, x5, x6, rfl⟩ := list7 hlen'
  · skip
    have g0 : DataW.trod enc Try.prog W 0 (fun _ => true) true m 3 ((List.drop 0 [c0, c1, c2, c3, c4, c5, c6]).take (Try.prog.cellsOf 3)) = some x0 := hf 0 _ rfl
    have g1 : DataW.trod enc Try.prog W 0 (fun _ => true) true m 3 ((List.drop 1 [c0, c1, c2, c3, c4, c5, c6]).take (Try.prog.cellsOf 3)) = some x1 := hf 1 _ rfl
    have g2 : DataW.trod enc Try.prog W 0 (fun _ => true) true m 3 ((List.drop 2 [c0, c1, c2, c3, c4, c5, c6]).take (Try.prog.cellsOf 3)) = some x2 := hf 2 _ rfl
    have g3 : DataW.trod enc Try.prog W 0 (fun _ => true) true m 9 ((List.drop 3 [c0, c1, c2, c3, c4, c5, c6]).take (Try.prog.cellsOf 9)) = some x3 := hf 3 _ rfl
    have g4 : DataW.trod enc Try.prog W 0 (fun _ => true) true m 23 ((List.drop 4 [c0, c1, c2, c3, c4, c5, c6]).take (Try.prog.cellsOf 23)) = some x4 := hf 4 _ rfl
    have g5 : DataW.trod enc Try.prog W 0 (fun _ => true) true m 24 ((List.drop 5 [c0, c1, c2, c3, c4, c5, c6]).take (Try.prog.cellsOf 24)) = some x5 := hf 5 _ rfl
    have g6 : DataW.trod enc Try.prog W 0 (fun _ => true) true m 25 ((List.drop 6 [c0, c1, c2, c3, c4, c5, c6]).take (Try.prog.cellsOf 25)) = some x6 := hf 6 _ rfl
    rw [Try.cellsInt] at g0 g1 g2
    rw [Try.cellsStr] at g3
    rw [Try.cellsMatches] at g4
    rw [Try.cellsWords] at g5
    rw [Try.cellsExprs] at g6
    simp only [List.drop_zero, List.drop_succ_cons, List.take_succ_cons, List.take_zero] at g0 g1 g2 g3 g4 g5 g6
    have hwe : ∀ k, k ∈ DataW.weightsEach Try.prog [3, 3, 3, 9, 23, 24, 25] [x0.1, x1.1, x2.1, x3.1, x4.1, x5.1, x6.1] → k ≤ reachBytes := by
      intro k hk
      refine hw k ?_
      rw [hx]
      simp only [DataW.weights, Try.underlying27]
      exact hk
    obtain ⟨z0, rfl⟩ := field_i64 g0
    obtain ⟨z1, rfl⟩ := field_i64 g1
    obtain ⟨z2, rfl⟩ := field_i64 g2
    obtain ⟨z3, rfl, s3⟩ := field_str g3 (fun k hk => hwe k (DataW.weights_mem_each (j := 3) rfl rfl k hk))
    obtain ⟨ms, ma, mc, e4, sg4, q4, _, b4⟩ := open_list (α := Mt) (fun x => [.int .i64 x.kind, .string x.key, .string x.val]) (fun k => k.key.size ≤ 140737488355328 ∧ k.val.size ≤ 140737488355328) 3 (by decide) (fun _ => rfl) Try.cellsMatch (by rw [Try.bytesMatch]; decide) Try.underlying23 g4 (fun k hk => hwe k (DataW.weights_mem_each (j := 4) rfl rfl k hk)) (fun n cs' y _ hy hwy => open_match7 hy hwy)
    obtain ⟨bs, ba, bc, e5, sg5, q5, l5, b5⟩ := open_list (α := ByteArray) (fun x => [.string x]) (fun b => b.size ≤ 140737488355328) 1 (by decide) (fun _ => rfl) Try.cellsStr (by rw [Try.bytesStr]; decide) Try.underlying24 g5 (fun k hk => hwe k (DataW.weights_mem_each (j := 5) rfl rfl k hk)) (fun n cs' y _ hy hwy => by
      obtain ⟨z, hz, _⟩ := DataW.trod_string Try.underlying9 hy
      subst hz
      obtain ⟨z', e, s⟩ := field_str hy hwy
      exact ⟨z', by rw [e], s⟩)
    obtain ⟨ks, ka, kc, e6, sg6, q6, _, b6⟩ := open_list (α := ET) ecell (fun t => t.In W) 7 (by decide) (fun _ => rfl) Try.cellsExpr (by rw [Try.bytesExpr]; decide) Try.underlying25 g6 (fun k hk => hwe k (DataW.weights_mem_each (j := 6) rfl rfl k hk)) (fun n cs' y hn hy hwy => ih n (by omega) cs' y hy hwy)
    rw [← mcells_flat] at sg4
    rw [← wcells_flat] at sg5
    rw [← ecells_flat] at sg6
    simp at e4 e5 e6
    subst e4 e5 e6
    unfold reachBytes at b4 b5 b6
    refine ⟨.node ⟨z0, z1, z2, z3, ms, bs⟩ ⟨ma, mc, ba, bc, ka, kc⟩ ks, rfl, ?_⟩
    simp only [ET.In]
    exact ⟨⟨sg4, sg5, sg6⟩, ⟨by omega, by omega, by omega, by omega, fun m hm => ⟨by have := (q4 m hm).1; omega, by have := (q4 m hm).2; omega⟩, fun b hb => by have := q5 b hb; omega, l5, q4⟩, inL_of q6⟩

end Go.Proofs.Ythohkokhimdamaa
