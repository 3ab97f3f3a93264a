/-
  An argument that is a shelf, opened.
-/
import Derived.Test.YtcgcefnfelmmkaaRows
import Derived.Test.YtcgcefnfelmmkaaShCp
import Derived.Test.YtcgcefnfelmmkaaSegOf
import Derived.Deep.Slices
import Derived.ProofKit
import Derived.OpenShut
import Derived.ChangeOld
import Derived.Below
import Derived.SizedLaws
namespace Go.GrainU
open Go.RowKit

theorem lcells_flat (l : List (ByteArray × ByteArray)) : lcells l = l.flatMap fun x => [.string x.1, .string x.2] := by
  induction l with
  | nil => rfl
  | cons x r ih => simp [lcells, ih]

theorem scells_flat (l : List (Int × Int)) : scells l = l.flatMap fun x => [.int .i64 x.1, .int .i64 x.2] := by
  induction l with
  | nil => rfl
  | cons x r ih => simp [scells, ih]

theorem kcells_flat (l : List Grain.Bk) : kcells l = l.flatMap kc := by
  induction l with
  | nil => rfl
  | cons x r ih => simp [kcells, ih]

theorem list2 {α : Type} {l : List α} (h : l.length = 2) : ∃ a b, l = [a, b] := by
  match l, h with
  | [a, b], _ => exact ⟨a, b, rfl⟩

theorem list8 {α : Type} {l : List α} (h : l.length = 8) : ∃ a b c d e f g i, l = [a, b, c, d, e, f, g, i] := by
  match l, h with
  | [a, b, c, d, e, f, g, i], _ => exact ⟨a, b, c, d, e, f, g, i, rfl⟩

theorem list9 {α : Type} {l : List α} (h : l.length = 9) : ∃ a b c d e f g i j, l = [a, b, c, d, e, f, g, i, j] := by
  match l, h with
  | [a, b, c, d, e, f, g, i, j], _ => exact ⟨a, b, c, d, e, f, g, i, j, rfl⟩

instance : Inhabited Grain.Bk := ⟨⟨0, Grain.zero⟩⟩

theorem weights_mem_all {H : Type} {P : Program} {e : TypeId} {l : List (DataW H)} {d : DataW H} (h : d ∈ l) : ∀ n ∈ d.weights P e, n ∈ DataW.weightsAll P e l := by
  induction l with
  | nil => cases h
  | cons a r ih =>
    intro n hn
    simp only [DataW.weightsAll, List.mem_append]
    rcases List.mem_cons.1 h with e | e
    · rw [e] at hn; exact .inl hn
    · exact .inr (ih e n hn)

end Go.GrainU
namespace Go.Proofs.Ytcgcefnfelmmkaa
open Go.ChangeShapes Go.WideShapes Go.ChangeAt Go.RowKit Go.GrainU

theorem Try.own : ownKnob Try.prog.godebug = none := by kernel_rfl
theorem Try.laidOut : laidOutB Try.prog = true := by kernel_rfl
theorem Try.cellsStr : Try.prog.cellsOf 9 = 1 := by kernel_rfl
theorem Try.cellsInt : Try.prog.cellsOf 3 = 1 := by kernel_rfl
theorem Try.cellsLabel2 : Try.prog.cellsOf 71 = 2 := by kernel_rfl
theorem Try.cellsSample2 : Try.prog.cellsOf 29 = 2 := by kernel_rfl
theorem Try.cellsSum : Try.prog.cellsOf 47 = 7 := by kernel_rfl
theorem Try.cellsBucket : Try.prog.cellsOf 67 = 8 := by kernel_rfl
theorem Try.cellsShelf : Try.prog.cellsOf 27 = 9 := by kernel_rfl
theorem Try.cellsSeries : Try.prog.cellsOf 23 = 1 := by kernel_rfl
theorem Try.cellsSamples : Try.prog.cellsOf 24 = 1 := by kernel_rfl
theorem Try.cellsBuckets : Try.prog.cellsOf 25 = 1 := by kernel_rfl
theorem Try.bytesLabel : Try.prog.bytesOf 71 = 32 := by kernel_rfl
theorem Try.bytesSample : Try.prog.bytesOf 29 = 16 := by kernel_rfl
theorem Try.bytesBucket : Try.prog.bytesOf 67 = 64 := by kernel_rfl

theorem field_str {H : Type} {enc : TypeId × Value → H} {W : World} {n : Nat} {c : Value} {y : DataW H × List MemPlace} (h : DataW.trod enc Try.prog W 0 (fun _ => true) true n 9 [c] = some y) (hw : ∀ k ∈ y.1.weights Try.prog 9, k ≤ reachBytes) : ∃ z : ByteArray, c = .string z ∧ z.size ≤ 140737488355328 := by
  obtain ⟨z, hz, hy, _⟩ := DataW.trod_string Try.underlying9 h
  have := hw z.data.toList.length (by rw [hy]; exact List.mem_singleton.2 rfl)
  refine ⟨z, by simpa using hz, ?_⟩
  have hr : reachBytes ≤ 140737488355328 := by decide
  have e : z.size = z.data.toList.length := by show z.data.size = _; exact Array.length_toList.symm
  omega

theorem field_i64 {H : Type} {enc : TypeId × Value → H} {W : World} {n : Nat} {c : Value} {y : DataW H × List MemPlace} (h : DataW.trod enc Try.prog W 0 (fun _ => true) true n 3 [c] = some y) : ∃ z, c = .int .i64 z := by
  obtain ⟨z, hz, _, _⟩ := DataW.trod_int Try.underlying3 h
  exact ⟨z, by simpa using hz⟩

theorem field_int8 {H : Type} {enc : TypeId × Value → H} {W : World} {n : Nat} {c : Value} {o : Option (DataW H × List MemPlace)} (h : DataW.trod enc Try.prog W 0 (fun _ => true) true n 3 [c] = o) (ho : ∃ y, o = some y) : ∃ z, c = .int .i64 z := by
  obtain ⟨y, rfl⟩ := ho
  obtain ⟨z, hz, _, _⟩ := DataW.trod_int Try.underlying3 h
  exact ⟨z, by simpa using hz⟩

/-- a slice, whatever its elements are, and how much it holds -/
theorem open_list2 {H : Type} {enc : TypeId × Value → H} {W : World} {α : Type} [Inhabited α] {fuel : Nat} {t e : TypeId} {cs : List Value} {x : DataW H × List MemPlace} (cell : α → List Value) (Q : α → Prop) (c : Nat) (hc : 0 < c) (hcl : ∀ a, (cell a).length = c)
    (hcells : Try.prog.cellsOf e = c) (_hb : 1 ≤ Try.prog.bytesOf e) (ht : Try.prog.underlying t = some (.slice e)) (h : DataW.trod enc Try.prog W 0 (fun _ => true) true fuel t cs = some x) (hw : ∀ n ∈ x.1.weights Try.prog t, n ≤ reachBytes)
    (each : ∀ n cs' y, n < fuel → DataW.trod enc Try.prog W 0 (fun _ => true) true n e cs' = some y → (∀ k ∈ y.1.weights Try.prog e, k ≤ reachBytes) → ∃ a, cs' = cell a ∧ Q a) :
    ∃ (l : List α) (ao : Option Addr) (cap : Nat), cs = [.slice ao l.length cap] ∧ Seg W ao (l.flatMap cell) ∧ (∀ a ∈ l, Q a) ∧ l.length ≤ cap ∧ l.length * Try.prog.bytesOf e ≤ reachBytes ∧ (ao = none → l.length = 0 ∧ cap = 0) ∧ cap ≤ maxLen := by
  rcases DataW.trod_slice ht h with ⟨hcs, _⟩ | ⟨a, len, cap, elems, rest, n, hn, hcs, hx, _, hl, hm, hlen, hel, hsp, hns⟩
  · exact ⟨[], none, 0, hcs, .inl rfl, fun a ha => by (cases ha), Nat.le_refl _, by simp, fun _ => ⟨rfl, rfl⟩, Nat.zero_le _⟩
  · have hwt : ∀ k, k ∈ (elems.length + rest.length) * Try.prog.bytesOf e :: (DataW.weightsAll Try.prog e (elems.map (·.1)) ++ DataW.weightsAll Try.prog e (rest.map (·.1))) → k ≤ reachBytes := by
      intro k hk
      refine hw k ?_
      rw [hx]
      simp only [DataW.weights, ht]
      simpa using hk
    have hlb : len * Try.prog.bytesOf e ≤ reachBytes := by
      have h1 := hwt _ (List.mem_cons_self ..)
      have h2 : len * Try.prog.bytesOf e ≤ (elems.length + rest.length) * Try.prog.bytesOf e := Nat.mul_le_mul_right _ (by omega)
      omega
    have ex : ∀ i, i < len → ∃ y : α, (∀ j, j < c → W.cell? (a.add (i * c + j)) = (cell y)[j]?) ∧ Q y := by
      intro i hi
      have h1 := hel i hi
      have hi' : i < elems.length := by omega
      rw [List.getElem?_eq_getElem hi', Option.bind_eq_some_iff] at h1
      obtain ⟨cs', h2, h3⟩ := h1
      rw [hcells] at h2
      obtain ⟨_, hlen', hcc⟩ := World.cells?_some h2
      obtain ⟨y, rfl, hq⟩ := each n cs' _ (by omega) h3 (fun k hk => hwt k (List.mem_cons_of_mem _ (List.mem_append_left _ (weights_mem_all (List.mem_map_of_mem (List.getElem_mem hi')) k hk))))
      refine ⟨y, fun j hj => ?_, hq⟩
      have := hcc j hj
      rw [Go.Deep.add_add] at this
      exact this
    obtain ⟨f, hf⟩ := Go.Deep.choose_lt ex
    refine ⟨(List.range len).map f, some a, cap, by simpa using hcs, ?_, fun y hy => ?_, by simpa using hl, by simpa using hlb, fun h => (by cases h), hm⟩
    · rcases Nat.eq_zero_or_pos len with h0 | h0
      · subst h0; exact .inl rfl
      · obtain ⟨b, off, spot⟩ := a
        have hspot : spot = none := by
          have h1 := (hf 0 h0).1 0 hc
          have h2 : 0 < (cell (f 0)).length := by rw [hcl]; exact hc
          rw [List.getElem?_eq_getElem h2] at h1
          simp only [Nat.zero_mul, Nat.add_zero] at h1
          simpa [Addr.add] using World.cell?_spot h1
        subst hspot
        rw [List.flatMap_map]
        refine seg_of hc f cell hcl (fun i hi j hj => ?_)
        have := (hf i hi).1 j hj
        rw [Go.WideShapes.add_plain] at this
        exact this
    · obtain ⟨i, hi, rfl⟩ := List.mem_map.1 hy
      exact (hf i (by simpa using hi)).2

/-- a label -/
theorem open_lab {H : Type} {enc : TypeId × Value → H} {W : World} {n : Nat} {cs : List Value} {x : DataW H × List MemPlace}
    (h : DataW.trod enc Try.prog W 0 (fun _ => true) true n 71 cs = some x) (hw : ∀ k ∈ x.1.weights Try.prog 71, k ≤ reachBytes) : ∃ k : ByteArray × ByteArray, cs = [.string k.1, .string k.2] ∧ k.1.size ≤ 140737488355328 ∧ k.2.size ≤ 140737488355328 := by
  obtain ⟨xs, m, _, hx, hl, hlen, hf⟩ := DataW.trod_struct Try.underlying71 h
  rw [Try.cellsLabel2] at hl
  have hlen' : xs.length = 2 := hlen
  obtain ⟨c0, c1, rfl⟩ := list2 hl
  obtain ⟨x0, x1, rfl⟩ := list2 hlen'
  have g0 : DataW.trod enc Try.prog W 0 (fun _ => true) true m 9 ((List.drop 0 [c0, c1]).take (Try.prog.cellsOf 9)) = some x0 := hf 0 _ rfl
  have g1 : DataW.trod enc Try.prog W 0 (fun _ => true) true m 9 ((List.drop 1 [c0, c1]).take (Try.prog.cellsOf 9)) = some x1 := hf 1 _ rfl
  rw [Try.cellsStr] at g0 g1
  simp only [List.drop_zero, List.drop_succ_cons, List.take_succ_cons, List.take_zero] at g0 g1
  have hwe : ∀ k, k ∈ DataW.weightsEach Try.prog [9, 9] [x0.1, x1.1] → k ≤ reachBytes := by
    intro k hk
    refine hw k ?_
    rw [hx]
    simp only [DataW.weights, Try.underlying71]
    exact hk
  obtain ⟨z0, rfl, s0⟩ := field_str g0 (fun k hk => hwe k (DataW.weights_mem_each (j := 0) rfl rfl k hk))
  obtain ⟨z1, rfl, s1⟩ := field_str g1 (fun k hk => hwe k (DataW.weights_mem_each (j := 1) rfl rfl k hk))
  exact ⟨⟨z0, z1⟩, rfl, s0, s1⟩

/-- a sample -/
theorem open_smp {H : Type} {enc : TypeId × Value → H} {W : World} {n : Nat} {cs : List Value} {x : DataW H × List MemPlace}
    (h : DataW.trod enc Try.prog W 0 (fun _ => true) true n 29 cs = some x) : ∃ k : Int × Int, cs = [.int .i64 k.1, .int .i64 k.2] := by
  obtain ⟨xs, m, _, hx, hl, hlen, hf⟩ := DataW.trod_struct Try.underlying29 h
  rw [Try.cellsSample2] at hl
  have hlen' : xs.length = 2 := hlen
  obtain ⟨c0, c1, rfl⟩ := list2 hl
  obtain ⟨x0, x1, rfl⟩ := list2 hlen'
  have g0 : DataW.trod enc Try.prog W 0 (fun _ => true) true m 3 ((List.drop 0 [c0, c1]).take (Try.prog.cellsOf 3)) = some x0 := hf 0 _ rfl
  have g1 : DataW.trod enc Try.prog W 0 (fun _ => true) true m 3 ((List.drop 1 [c0, c1]).take (Try.prog.cellsOf 3)) = some x1 := hf 1 _ rfl
  rw [Try.cellsInt] at g0 g1
  simp only [List.drop_zero, List.drop_succ_cons, List.take_succ_cons, List.take_zero] at g0 g1
  obtain ⟨z0, rfl⟩ := field_i64 g0
  obtain ⟨z1, rfl⟩ := field_i64 g1
  exact ⟨⟨z0, z1⟩, rfl⟩

/-- one bucket's cells -/
theorem open_bucket {H : Type} {enc : TypeId × Value → H} {W : World} {n : Nat} {cs : List Value} {x : DataW H × List MemPlace}
    (h : DataW.trod enc Try.prog W 0 (fun _ => true) true n 67 cs = some x) : ∃ k : Grain.Bk, cs = kc k := by
  obtain ⟨xs, m, _, _, hl, hlen, hf⟩ := DataW.trod_struct Try.underlying67 h
  rw [Try.cellsBucket] at hl
  obtain ⟨c0, c1, c2, c3, c4, c5, c6, c7, rfl⟩ := list8 hl
  ·
    have hlen' : xs.length = 2 := hlen
    have ex : ∀ i, i < 2 → ∃ y, xs[i]? = some y := fun i hi => ⟨_, List.getElem?_eq_getElem (by omega)⟩
    have g0 : DataW.trod enc Try.prog W 0 (fun _ => true) true m 3 ((List.drop 0 [c0, c1, c2, c3, c4, c5, c6, c7]).take (Try.prog.cellsOf 3)) = xs[0]? := hf 0 _ rfl
    have g1 : DataW.trod enc Try.prog W 0 (fun _ => true) true m 47 ((List.drop 1 [c0, c1, c2, c3, c4, c5, c6, c7]).take (Try.prog.cellsOf 47)) = xs[1]? := hf 1 _ rfl
    rw [Try.cellsInt] at g0
    rw [Try.cellsSum] at g1
    simp only [List.drop_zero, List.drop_succ_cons, List.take_succ_cons, List.take_zero] at g0 g1
    obtain ⟨z0, rfl⟩ := field_int8 g0 (ex 0 (by omega))
    obtain ⟨y1, hy1⟩ := ex 1 (by omega)
    rw [hy1] at g1
    obtain ⟨ys, m', _, _, _, hl2, hf2⟩ := DataW.trod_struct Try.underlying47 g1
    have hl2' : ys.length = 7 := hl2
    have ey : ∀ i, i < 7 → ∃ y, ys[i]? = some y := fun i hi => ⟨_, List.getElem?_eq_getElem (by omega)⟩
    have k0 : DataW.trod enc Try.prog W 0 (fun _ => true) true m' 3 ((List.drop 0 [c1, c2, c3, c4, c5, c6, c7]).take (Try.prog.cellsOf 3)) = ys[0]? := hf2 0 _ rfl
    have k1 : DataW.trod enc Try.prog W 0 (fun _ => true) true m' 3 ((List.drop 1 [c1, c2, c3, c4, c5, c6, c7]).take (Try.prog.cellsOf 3)) = ys[1]? := hf2 1 _ rfl
    have k2 : DataW.trod enc Try.prog W 0 (fun _ => true) true m' 3 ((List.drop 2 [c1, c2, c3, c4, c5, c6, c7]).take (Try.prog.cellsOf 3)) = ys[2]? := hf2 2 _ rfl
    have k3 : DataW.trod enc Try.prog W 0 (fun _ => true) true m' 3 ((List.drop 3 [c1, c2, c3, c4, c5, c6, c7]).take (Try.prog.cellsOf 3)) = ys[3]? := hf2 3 _ rfl
    have k4 : DataW.trod enc Try.prog W 0 (fun _ => true) true m' 3 ((List.drop 4 [c1, c2, c3, c4, c5, c6, c7]).take (Try.prog.cellsOf 3)) = ys[4]? := hf2 4 _ rfl
    have k5 : DataW.trod enc Try.prog W 0 (fun _ => true) true m' 3 ((List.drop 5 [c1, c2, c3, c4, c5, c6, c7]).take (Try.prog.cellsOf 3)) = ys[5]? := hf2 5 _ rfl
    have k6 : DataW.trod enc Try.prog W 0 (fun _ => true) true m' 3 ((List.drop 6 [c1, c2, c3, c4, c5, c6, c7]).take (Try.prog.cellsOf 3)) = ys[6]? := hf2 6 _ rfl
    rw [Try.cellsInt] at k0 k1 k2 k3 k4 k5 k6
    simp only [List.drop_zero, List.drop_succ_cons, List.take_succ_cons, List.take_zero] at k0 k1 k2 k3 k4 k5 k6
    obtain ⟨z1, rfl⟩ := field_int8 k0 (ey 0 (by omega))
    obtain ⟨z2, rfl⟩ := field_int8 k1 (ey 1 (by omega))
    obtain ⟨z3, rfl⟩ := field_int8 k2 (ey 2 (by omega))
    obtain ⟨z4, rfl⟩ := field_int8 k3 (ey 3 (by omega))
    obtain ⟨z5, rfl⟩ := field_int8 k4 (ey 4 (by omega))
    obtain ⟨z6, rfl⟩ := field_int8 k5 (ey 5 (by omega))
    obtain ⟨z7, rfl⟩ := field_int8 k6 (ey 6 (by omega))
    exact ⟨⟨z0, ⟨z1, z2, z3, z4, z5, z6, z7⟩⟩, rfl⟩

/-- a shelf -/
theorem open_shelf_cap {H : Type} {enc : TypeId × Value → H} {W : World} {n : Nat} {cs : List Value} {x : DataW H × List MemPlace}
    (h : DataW.trod enc Try.prog W 0 (fun _ => true) true n 27 cs = some x) (hw : ∀ k ∈ x.1.weights Try.prog 27, k ≤ reachBytes) : ∃ k : ShT, cs = k.cells ∧ ShIn W k ∧ ShCap k := by
  obtain ⟨xs, m, _, hx, hl, hlen, hf⟩ := DataW.trod_struct Try.underlying27 h
  rw [Try.cellsShelf] at hl
  have hlen' : xs.length = 9 := hlen
  obtain ⟨c0, c1, c2, c3, c4, c5, c6, c7, c8, rfl⟩ := list9 hl
  obtain ⟨x0, x1, x2, x3, x4, x5, x6, x7, x8, rfl⟩ := list9 hlen'
  have g0 : DataW.trod enc Try.prog W 0 (fun _ => true) true m 23 ((List.drop 0 [c0, c1, c2, c3, c4, c5, c6, c7, c8]).take (Try.prog.cellsOf 23)) = some x0 := hf 0 _ rfl
  have g1 : DataW.trod enc Try.prog W 0 (fun _ => true) true m 24 ((List.drop 1 [c0, c1, c2, c3, c4, c5, c6, c7, c8]).take (Try.prog.cellsOf 24)) = some x1 := hf 1 _ rfl
  have g2 : DataW.trod enc Try.prog W 0 (fun _ => true) true m 25 ((List.drop 2 [c0, c1, c2, c3, c4, c5, c6, c7, c8]).take (Try.prog.cellsOf 25)) = some x2 := hf 2 _ rfl
  have g3 : DataW.trod enc Try.prog W 0 (fun _ => true) true m 25 ((List.drop 3 [c0, c1, c2, c3, c4, c5, c6, c7, c8]).take (Try.prog.cellsOf 25)) = some x3 := hf 3 _ rfl
  have g4 : DataW.trod enc Try.prog W 0 (fun _ => true) true m 3 ((List.drop 4 [c0, c1, c2, c3, c4, c5, c6, c7, c8]).take (Try.prog.cellsOf 3)) = some x4 := hf 4 _ rfl
  have g5 : DataW.trod enc Try.prog W 0 (fun _ => true) true m 3 ((List.drop 5 [c0, c1, c2, c3, c4, c5, c6, c7, c8]).take (Try.prog.cellsOf 3)) = some x5 := hf 5 _ rfl
  have g6 : DataW.trod enc Try.prog W 0 (fun _ => true) true m 3 ((List.drop 6 [c0, c1, c2, c3, c4, c5, c6, c7, c8]).take (Try.prog.cellsOf 3)) = some x6 := hf 6 _ rfl
  have g7 : DataW.trod enc Try.prog W 0 (fun _ => true) true m 3 ((List.drop 7 [c0, c1, c2, c3, c4, c5, c6, c7, c8]).take (Try.prog.cellsOf 3)) = some x7 := hf 7 _ rfl
  have g8 : DataW.trod enc Try.prog W 0 (fun _ => true) true m 3 ((List.drop 8 [c0, c1, c2, c3, c4, c5, c6, c7, c8]).take (Try.prog.cellsOf 3)) = some x8 := hf 8 _ rfl
  rw [Try.cellsSeries] at g0
  rw [Try.cellsSamples] at g1
  rw [Try.cellsBuckets] at g2 g3
  rw [Try.cellsInt] at g4 g5 g6 g7 g8
  simp only [List.drop_zero, List.drop_succ_cons, List.take_succ_cons, List.take_zero] at g0 g1 g2 g3 g4 g5 g6 g7 g8
  have hwe : ∀ k, k ∈ DataW.weightsEach Try.prog [23, 24, 25, 25, 3, 3, 3, 3, 3] [x0.1, x1.1, x2.1, x3.1, x4.1, x5.1, x6.1, x7.1, x8.1] → k ≤ reachBytes := by
    intro k hk
    refine hw k ?_
    rw [hx]
    simp only [DataW.weights, Try.underlying27]
    exact hk
  obtain ⟨ls, sa, sc, e0, sg0, q0, l0, b0, n0, m0⟩ := open_list2 (α := ByteArray × ByteArray) (fun x => [.string x.1, .string x.2]) (fun k => k.1.size ≤ 140737488355328 ∧ k.2.size ≤ 140737488355328) 2 (by decide) (fun _ => rfl) Try.cellsLabel2 (by rw [Try.bytesLabel]; decide) Try.underlying23 g0 (fun k hk => hwe k (DataW.weights_mem_each (j := 0) rfl rfl k hk)) (fun n cs' y _ hy hwy => open_lab hy hwy)
  obtain ⟨ps, pa, pc, e1, sg1, _, l1, b1, n1, m1⟩ := open_list2 (α := Int × Int) (fun x => [.int .i64 x.1, .int .i64 x.2]) (fun _ => True) 2 (by decide) (fun _ => rfl) Try.cellsSample2 (by rw [Try.bytesSample]; decide) Try.underlying24 g1 (fun k hk => hwe k (DataW.weights_mem_each (j := 1) rfl rfl k hk)) (fun n cs' y _ hy _ => by
    obtain ⟨k, hk⟩ := open_smp hy
    exact ⟨k, hk, trivial⟩)
  obtain ⟨fs, fa, fc, e2, sg2, _, l2, b2, n2, m2⟩ := open_list2 (α := Grain.Bk) kc (fun _ => True) 8 (by decide) (fun _ => rfl) Try.cellsBucket (by rw [Try.bytesBucket]; decide) Try.underlying25 g2 (fun k hk => hwe k (DataW.weights_mem_each (j := 2) rfl rfl k hk)) (fun n cs' y _ hy _ => by
    obtain ⟨k, hk⟩ := open_bucket hy
    exact ⟨k, hk, trivial⟩)
  obtain ⟨gs, ga, gc, e3, sg3, _, l3, b3, n3, m3⟩ := open_list2 (α := Grain.Bk) kc (fun _ => True) 8 (by decide) (fun _ => rfl) Try.cellsBucket (by rw [Try.bytesBucket]; decide) Try.underlying25 g3 (fun k hk => hwe k (DataW.weights_mem_each (j := 3) rfl rfl k hk)) (fun n cs' y _ hy _ => by
    obtain ⟨k, hk⟩ := open_bucket hy
    exact ⟨k, hk, trivial⟩)
  obtain ⟨z4, rfl⟩ := field_i64 g4
  obtain ⟨z5, rfl⟩ := field_i64 g5
  obtain ⟨z6, rfl⟩ := field_i64 g6
  obtain ⟨z7, rfl⟩ := field_i64 g7
  obtain ⟨z8, rfl⟩ := field_i64 g8
  rw [← lcells_flat] at sg0
  rw [← scells_flat] at sg1
  rw [← kcells_flat] at sg2 sg3
  simp at e0 e1 e2 e3
  subst e0 e1 e2 e3
  rw [Try.bytesLabel] at b0
  rw [Try.bytesSample] at b1
  rw [Try.bytesBucket] at b2 b3
  have hr : reachBytes ≤ 140737488355328 := by decide
  refine ⟨⟨⟨ls, ps, fs, gs, z4, z5, z6, z7, z8⟩, sa, sc, pa, pc, fa, fc, ga, gc⟩, rfl, ⟨sg0, sg1, sg2, sg3, ?_, ?_, ?_, ?_, ?_, n0, n1, n2, n3⟩, ⟨l1, l2, l3⟩⟩
  · intro k hk
    have hk' : k < ls.length := hk
    have e : lk ls k = (ls[k]).1 ∧ lv ls k = (ls[k]).2 := by simp [lk, lv, List.getD, List.getElem?_eq_getElem hk']
    have := q0 _ (List.getElem_mem hk')
    show (lk ls k).size ≤ _ ∧ (lv ls k).size ≤ _
    rw [e.1, e.2]
    omega
  · show ls.length * 32 ≤ _; omega
  · show ps.length * 16 ≤ _; omega
  · show fs.length * 64 ≤ _; omega
  · show gs.length * 64 ≤ _; omega

theorem open_shelf {H : Type} {enc : TypeId × Value → H} {W : World} {n : Nat} {cs : List Value} {x : DataW H × List MemPlace}
    (h : DataW.trod enc Try.prog W 0 (fun _ => true) true n 27 cs = some x) (hw : ∀ k ∈ x.1.weights Try.prog 27, k ≤ reachBytes) : ∃ k : ShT, cs = k.cells ∧ ShIn W k := by
  obtain ⟨k, h1, h2, _⟩ := open_shelf_cap h hw
  exact ⟨k, h1, h2⟩

end Go.Proofs.Ytcgcefnfelmmkaa
