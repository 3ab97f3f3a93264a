/-
  For every input, PlanTells returns true: Covers, Choose and Read tell which parts cover a window of any shelf, which are chosen, and what any come to. No condition.
-/
import Derived.Test.YtfgablhgjbjbkaeShU
import Derived.Test.YtfgablhgjbjbkaeUtil
import Derived.Test.YtfgablhgjbjbkaeRows
import Derived.Deep.Slices
import Derived.ProofKit
import Derived.OpenShut
import Derived.ChangeOld
import Derived.Below
import Derived.SizedLaws
import Derived.Test.YtfgablhgjbjbkaePlU
import Derived.Test.YtfgablhgjbjbkaeUtilE
import Derived.Test.YtfgablhgjbjbkaePlA
import Derived.Test.YtfgablhgjbjbkaeSkipL
import Derived.Deep.RegionWith
import Derived.Test.YtfgablhgjbjbkaePlR
import Derived.Test.YtfgablhgjbjbkaeRollPutB
import Derived.Test.YtfgablhgjbjbkaeShF
import Derived.Test.YtfgablhgjbjbkaeUtilC
import Derived.Test.YtfgablhgjbjbkaeUtilD
import Derived.Test.YtfgablhgjbjbkaeShB
import Derived.Deep.RegionHeld3
import Derived.Test.YtfgablhgjbjbkaeRollU
import Derived.Test.YtfgablhgjbjbkaeShM
import Derived.Test.YtfgablhgjbjbkaeRollGr
import Derived.Test.YtfgablhgjbjbkaeOf
import Derived.Test.YtfgablhgjbjbkaeShD
import Derived.Test.YtfgablhgjbjbkaeShE
import Derived.Test.YtfgablhgjbjbkaeShC
import Derived.Deep.CutRange
import Derived.Test.YtfgablhgjbjbkaePlX
import Derived.Test.YtfgablhgjbjbkaePlT
import Derived.Test.YtfgablhgjbjbkaeShX
import Derived.Test.YtfgablhgjbjbkaePlZ
/-
  A shelf whose slices have room for what they hold.
-/
namespace Go.GrainU

structure ShCap (x : ShT) : Prop where
  k1 : x.s.ra.length ≤ x.c1
  k2 : x.s.fi.length ≤ x.c2
  k3 : x.s.co.length ≤ x.c3

end Go.GrainU

/-
  Cells that lie behind an address, by an element's own list.
-/
namespace Go.GrainU
open Go.RowKit

/-- cells that lie behind an address, c of them an element, by an element's own list -/
theorem seg_of {α : Type} {W : World} {b off len c : Nat} (hc : 0 < c) (f : Nat → α) (cell : α → List Value) (hcl : ∀ x, (cell x).length = c)
    (h : ∀ i, i < len → ∀ j, j < c → W.cell? ⟨b, off + (i * c + j), none⟩ = (cell (f i))[j]?) : Seg W (some ⟨b, off, none⟩) ((List.range len).flatMap fun i => cell (f i)) := by
  refine .inr ⟨b, off, rfl, fun j hj => ?_⟩
  have hl : ∀ n, ((List.range n).flatMap fun i => cell (f i)).length = n * c := by
    intro n
    induction n with
    | zero => simp
    | succ n ih => rw [List.range_succ, List.flatMap_append, List.length_append, ih]; simp [hcl, Nat.add_mul]
  rw [hl] at hj
  have hat : ∀ n i, i < n → ∀ q, q < c → ((List.range n).flatMap fun i => cell (f i))[i * c + q]? = (cell (f i))[q]? := by
    intro n
    induction n with
    | zero => intro i hi; omega
    | succ n ih =>
      intro i hi q hq
      rw [List.range_succ, List.flatMap_append]
      have hle : (i + 1) * c ≤ (n + 1) * c := Nat.mul_le_mul_right c (by omega)
      rw [Nat.add_mul] at hle
      by_cases e : i < n
      · have h2 : (i + 1) * c ≤ n * c := Nat.mul_le_mul_right c (by omega)
        rw [Nat.add_mul] at h2
        rw [List.getElem?_append_left (by rw [hl]; omega)]
        exact ih i e q hq
      · have e' : i = n := by omega
        subst e'
        rw [List.getElem?_append_right (by rw [hl]; omega), hl, show i * c + q - i * c = q from by omega]
        simp
  have hq : j % c < c := Nat.mod_lt _ hc
  have hd : j / c < len := Nat.div_lt_of_lt_mul (by rw [Nat.mul_comm]; exact hj)
  have hm : j / c * c + j % c = j := by rw [Nat.mul_comm]; exact Nat.div_add_mod j c
  have h1 := hat len (j / c) hd (j % c) hq
  have h2 := h (j / c) hd (j % c) hq
  rw [hm] at h1 h2
  rw [h1, h2]

end Go.GrainU

/-
  An argument that is a shelf, opened.
-/
namespace Go.GrainU
open Go.RowKit

theorem lcells_flat (l : List (ByteArray × ByteArray)) : lcells l = l.flatMap fun x => [.string x.1, .string x.2] := by
  induction l with
  | nil => rfl
  | cons x r ih => simp [lcells, ih]

theorem scells_flat (l : List (Int × Int)) : scells l = l.flatMap fun x => [.int .i64 x.1, .int .i64 x.2] := by
  induction l with
  | nil => rfl
  | cons x r ih => simp [scells, ih]

theorem kcells_flat (l : List Grain.Bk) : kcells l = l.flatMap kc := by
  induction l with
  | nil => rfl
  | cons x r ih => simp [kcells, ih]

theorem list2 {α : Type} {l : List α} (h : l.length = 2) : ∃ a b, l = [a, b] := by
  match l, h with
  | [a, b], _ => exact ⟨a, b, rfl⟩

theorem list8 {α : Type} {l : List α} (h : l.length = 8) : ∃ a b c d e f g i, l = [a, b, c, d, e, f, g, i] := by
  match l, h with
  | [a, b, c, d, e, f, g, i], _ => exact ⟨a, b, c, d, e, f, g, i, rfl⟩

theorem list9 {α : Type} {l : List α} (h : l.length = 9) : ∃ a b c d e f g i j, l = [a, b, c, d, e, f, g, i, j] := by
  match l, h with
  | [a, b, c, d, e, f, g, i, j], _ => exact ⟨a, b, c, d, e, f, g, i, j, rfl⟩

instance : Inhabited Grain.Bk := ⟨⟨0, Grain.zero⟩⟩

theorem weights_mem_all {H : Type} {P : Program} {e : TypeId} {l : List (DataW H)} {d : DataW H} (h : d ∈ l) : ∀ n ∈ d.weights P e, n ∈ DataW.weightsAll P e l := by
  induction l with
  | nil => cases h
  | cons a r ih =>
    intro n hn
    simp only [DataW.weightsAll, List.mem_append]
    rcases List.mem_cons.1 h with e | e
    · rw [e] at hn; exact .inl hn
    · exact .inr (ih e n hn)

end Go.GrainU
namespace Go.Proofs.Ytfgablhgjbjbkae
open Go.ChangeShapes Go.WideShapes Go.ChangeAt Go.RowKit Go.GrainU

theorem Try.own : ownKnob Try.prog.godebug = none := by kernel_rfl
theorem Try.laidOut : laidOutB Try.prog = true := by kernel_rfl
theorem Try.cellsStr : Try.prog.cellsOf 9 = 1 := by kernel_rfl
theorem Try.cellsInt : Try.prog.cellsOf 3 = 1 := by kernel_rfl
theorem Try.cellsLabel2 : Try.prog.cellsOf 93 = 2 := by kernel_rfl
theorem Try.cellsSample2 : Try.prog.cellsOf 35 = 2 := by kernel_rfl
theorem Try.cellsSum : Try.prog.cellsOf 62 = 7 := by kernel_rfl
theorem Try.cellsBucket : Try.prog.cellsOf 90 = 8 := by kernel_rfl
theorem Try.cellsShelf : Try.prog.cellsOf 44 = 9 := by kernel_rfl
theorem Try.cellsSeries : Try.prog.cellsOf 30 = 1 := by kernel_rfl
theorem Try.cellsSamples : Try.prog.cellsOf 31 = 1 := by kernel_rfl
theorem Try.cellsBuckets : Try.prog.cellsOf 42 = 1 := by kernel_rfl
theorem Try.bytesLabel : Try.prog.bytesOf 93 = 32 := by kernel_rfl
theorem Try.bytesSample : Try.prog.bytesOf 35 = 16 := by kernel_rfl
theorem Try.bytesBucket : Try.prog.bytesOf 90 = 64 := by kernel_rfl

theorem field_str {H : Type} {enc : TypeId × Value → H} {W : World} {n : Nat} {c : Value} {y : DataW H × List MemPlace} (h : DataW.trod enc Try.prog W 0 (fun _ => true) true n 9 [c] = some y) (hw : ∀ k ∈ y.1.weights Try.prog 9, k ≤ reachBytes) : ∃ z : ByteArray, c = .string z ∧ z.size ≤ 140737488355328 := by
  obtain ⟨z, hz, hy, _⟩ := DataW.trod_string Try.underlying9 h
  have := hw z.data.toList.length (by rw [hy]; exact List.mem_singleton.2 rfl)
  refine ⟨z, by simpa using hz, ?_⟩
  have hr : reachBytes ≤ 140737488355328 := by decide
  have e : z.size = z.data.toList.length := by show z.data.size = _; exact Array.length_toList.symm
  omega

theorem field_i64 {H : Type} {enc : TypeId × Value → H} {W : World} {n : Nat} {c : Value} {y : DataW H × List MemPlace} (h : DataW.trod enc Try.prog W 0 (fun _ => true) true n 3 [c] = some y) : ∃ z, c = .int .i64 z := by
  obtain ⟨z, hz, _, _⟩ := DataW.trod_int Try.underlying3 h
  exact ⟨z, by simpa using hz⟩

theorem field_int8 {H : Type} {enc : TypeId × Value → H} {W : World} {n : Nat} {c : Value} {o : Option (DataW H × List MemPlace)} (h : DataW.trod enc Try.prog W 0 (fun _ => true) true n 3 [c] = o) (ho : ∃ y, o = some y) : ∃ z, c = .int .i64 z := by
  obtain ⟨y, rfl⟩ := ho
  obtain ⟨z, hz, _, _⟩ := DataW.trod_int Try.underlying3 h
  exact ⟨z, by simpa using hz⟩

/-- a slice, whatever its elements are, and how much it holds -/
theorem open_list2 {H : Type} {enc : TypeId × Value → H} {W : World} {α : Type} [Inhabited α] {fuel : Nat} {t e : TypeId} {cs : List Value} {x : DataW H × List MemPlace} (cell : α → List Value) (Q : α → Prop) (c : Nat) (hc : 0 < c) (hcl : ∀ a, (cell a).length = c)
    (hcells : Try.prog.cellsOf e = c) (_hb : 1 ≤ Try.prog.bytesOf e) (ht : Try.prog.underlying t = some (.slice e)) (h : DataW.trod enc Try.prog W 0 (fun _ => true) true fuel t cs = some x) (hw : ∀ n ∈ x.1.weights Try.prog t, n ≤ reachBytes)
    (each : ∀ n cs' y, n < fuel → DataW.trod enc Try.prog W 0 (fun _ => true) true n e cs' = some y → (∀ k ∈ y.1.weights Try.prog e, k ≤ reachBytes) → ∃ a, cs' = cell a ∧ Q a) :
    ∃ (l : List α) (ao : Option Addr) (cap : Nat), cs = [.slice ao l.length cap] ∧ Seg W ao (l.flatMap cell) ∧ (∀ a ∈ l, Q a) ∧ l.length ≤ cap ∧ l.length * Try.prog.bytesOf e ≤ reachBytes ∧ (ao = none → l.length = 0 ∧ cap = 0) ∧ cap ≤ maxLen := by
  rcases DataW.trod_slice ht h with ⟨hcs, _⟩ | ⟨a, len, cap, elems, rest, n, hn, hcs, hx, _, hl, hm, hlen, hel, hsp, hns⟩
  · exact ⟨[], none, 0, hcs, .inl rfl, fun a ha => by (cases ha), Nat.le_refl _, by simp, fun _ => ⟨rfl, rfl⟩, Nat.zero_le _⟩
  · have hwt : ∀ k, k ∈ (elems.length + rest.length) * Try.prog.bytesOf e :: (DataW.weightsAll Try.prog e (elems.map (·.1)) ++ DataW.weightsAll Try.prog e (rest.map (·.1))) → k ≤ reachBytes := by
      intro k hk
      refine hw k ?_
      rw [hx]
      simp only [DataW.weights, ht]
      simpa using hk
    have hlb : len * Try.prog.bytesOf e ≤ reachBytes := by
      have h1 := hwt _ (List.mem_cons_self ..)
      have h2 : len * Try.prog.bytesOf e ≤ (elems.length + rest.length) * Try.prog.bytesOf e := Nat.mul_le_mul_right _ (by omega)
      omega
    have ex : ∀ i, i < len → ∃ y : α, (∀ j, j < c → W.cell? (a.add (i * c + j)) = (cell y)[j]?) ∧ Q y := by
      intro i hi
      have h1 := hel i hi
      have hi' : i < elems.length := by omega
      rw [List.getElem?_eq_getElem hi', Option.bind_eq_some_iff] at h1
      obtain ⟨cs', h2, h3⟩ := h1
      rw [hcells] at h2
      obtain ⟨_, hlen', hcc⟩ := World.cells?_some h2
      obtain ⟨y, rfl, hq⟩ := each n cs' _ (by omega) h3 (fun k hk => hwt k (List.mem_cons_of_mem _ (List.mem_append_left _ (weights_mem_all (List.mem_map_of_mem (List.getElem_mem hi')) k hk))))
      refine ⟨y, fun j hj => ?_, hq⟩
      have := hcc j hj
      rw [Go.Deep.add_add] at this
      exact this
    obtain ⟨f, hf⟩ := Go.Deep.choose_lt ex
    refine ⟨(List.range len).map f, some a, cap, by simpa using hcs, ?_, fun y hy => ?_, by simpa using hl, by simpa using hlb, fun h => (by cases h), hm⟩
    · rcases Nat.eq_zero_or_pos len with h0 | h0
      · subst h0; exact .inl rfl
      · obtain ⟨b, off, spot⟩ := a
        have hspot : spot = none := by
          have h1 := (hf 0 h0).1 0 hc
          have h2 : 0 < (cell (f 0)).length := by rw [hcl]; exact hc
          rw [List.getElem?_eq_getElem h2] at h1
          simp only [Nat.zero_mul, Nat.add_zero] at h1
          simpa [Addr.add] using World.cell?_spot h1
        subst hspot
        rw [List.flatMap_map]
        refine seg_of hc f cell hcl (fun i hi j hj => ?_)
        have := (hf i hi).1 j hj
        rw [Go.WideShapes.add_plain] at this
        exact this
    · obtain ⟨i, hi, rfl⟩ := List.mem_map.1 hy
      exact (hf i (by simpa using hi)).2

/-- a label -/
theorem open_lab {H : Type} {enc : TypeId × Value → H} {W : World} {n : Nat} {cs : List Value} {x : DataW H × List MemPlace}
    (h : DataW.trod enc Try.prog W 0 (fun _ => true) true n 93 cs = some x) (hw : ∀ k ∈ x.1.weights Try.prog 93, k ≤ reachBytes) : ∃ k : ByteArray × ByteArray, cs = [.string k.1, .string k.2] ∧ k.1.size ≤ 140737488355328 ∧ k.2.size ≤ 140737488355328 := by
  obtain ⟨xs, m, _, hx, hl, hlen, hf⟩ := DataW.trod_struct Try.underlying93 h
  rw [Try.cellsLabel2] at hl
  have hlen' : xs.length = 2 := hlen
  obtain ⟨c0, c1, rfl⟩ := list2 hl
  obtain ⟨x0, x1, rfl⟩ := list2 hlen'
  have g0 : DataW.trod enc Try.prog W 0 (fun _ => true) true m 9 ((List.drop 0 [c0, c1]).take (Try.prog.cellsOf 9)) = some x0 := hf 0 _ rfl
  have g1 : DataW.trod enc Try.prog W 0 (fun _ => true) true m 9 ((List.drop 1 [c0, c1]).take (Try.prog.cellsOf 9)) = some x1 := hf 1 _ rfl
  rw [Try.cellsStr] at g0 g1
  simp only [List.drop_zero, List.drop_succ_cons, List.take_succ_cons, List.take_zero] at g0 g1
  have hwe : ∀ k, k ∈ DataW.weightsEach Try.prog [9, 9] [x0.1, x1.1] → k ≤ reachBytes := by
    intro k hk
    refine hw k ?_
    rw [hx]
    simp only [DataW.weights, Try.underlying93]
    exact hk
  obtain ⟨z0, rfl, s0⟩ := field_str g0 (fun k hk => hwe k (DataW.weights_mem_each (j := 0) rfl rfl k hk))
  obtain ⟨z1, rfl, s1⟩ := field_str g1 (fun k hk => hwe k (DataW.weights_mem_each (j := 1) rfl rfl k hk))
  exact ⟨⟨z0, z1⟩, rfl, s0, s1⟩

/-- a sample -/
theorem open_smp {H : Type} {enc : TypeId × Value → H} {W : World} {n : Nat} {cs : List Value} {x : DataW H × List MemPlace}
    (h : DataW.trod enc Try.prog W 0 (fun _ => true) true n 35 cs = some x) : ∃ k : Int × Int, cs = [.int .i64 k.1, .int .i64 k.2] := by
  obtain ⟨xs, m, _, hx, hl, hlen, hf⟩ := DataW.trod_struct Try.underlying35 h
  rw [Try.cellsSample2] at hl
  have hlen' : xs.length = 2 := hlen
  obtain ⟨c0, c1, rfl⟩ := list2 hl
  obtain ⟨x0, x1, rfl⟩ := list2 hlen'
  have g0 : DataW.trod enc Try.prog W 0 (fun _ => true) true m 3 ((List.drop 0 [c0, c1]).take (Try.prog.cellsOf 3)) = some x0 := hf 0 _ rfl
  have g1 : DataW.trod enc Try.prog W 0 (fun _ => true) true m 3 ((List.drop 1 [c0, c1]).take (Try.prog.cellsOf 3)) = some x1 := hf 1 _ rfl
  rw [Try.cellsInt] at g0 g1
  simp only [List.drop_zero, List.drop_succ_cons, List.take_succ_cons, List.take_zero] at g0 g1
  obtain ⟨z0, rfl⟩ := field_i64 g0
  obtain ⟨z1, rfl⟩ := field_i64 g1
  exact ⟨⟨z0, z1⟩, rfl⟩

/-- one bucket's cells -/
theorem open_bucket {H : Type} {enc : TypeId × Value → H} {W : World} {n : Nat} {cs : List Value} {x : DataW H × List MemPlace}
    (h : DataW.trod enc Try.prog W 0 (fun _ => true) true n 90 cs = some x) : ∃ k : Grain.Bk, cs = kc k := by
  obtain ⟨xs, m, _, _, hl, hlen, hf⟩ := DataW.trod_struct Try.underlying90 h
  rw [Try.cellsBucket] at hl
  obtain ⟨c0, c1, c2, c3, c4, c5, c6, c7, rfl⟩ := list8 hl
  ·
    have hlen' : xs.length = 2 := hlen
    have ex : ∀ i, i < 2 → ∃ y, xs[i]? = some y := fun i hi => ⟨_, List.getElem?_eq_getElem (by omega)⟩
    have g0 : DataW.trod enc Try.prog W 0 (fun _ => true) true m 3 ((List.drop 0 [c0, c1, c2, c3, c4, c5, c6, c7]).take (Try.prog.cellsOf 3)) = xs[0]? := hf 0 _ rfl
    have g1 : DataW.trod enc Try.prog W 0 (fun _ => true) true m 62 ((List.drop 1 [c0, c1, c2, c3, c4, c5, c6, c7]).take (Try.prog.cellsOf 62)) = xs[1]? := hf 1 _ rfl
    rw [Try.cellsInt] at g0
    rw [Try.cellsSum] at g1
    simp only [List.drop_zero, List.drop_succ_cons, List.take_succ_cons, List.take_zero] at g0 g1
    obtain ⟨z0, rfl⟩ := field_int8 g0 (ex 0 (by omega))
    obtain ⟨y1, hy1⟩ := ex 1 (by omega)
    rw [hy1] at g1
    obtain ⟨ys, m', _, _, _, hl2, hf2⟩ := DataW.trod_struct Try.underlying62 g1
    have hl2' : ys.length = 7 := hl2
    have ey : ∀ i, i < 7 → ∃ y, ys[i]? = some y := fun i hi => ⟨_, List.getElem?_eq_getElem (by omega)⟩
    have k0 : DataW.trod enc Try.prog W 0 (fun _ => true) true m' 3 ((List.drop 0 [c1, c2, c3, c4, c5, c6, c7]).take (Try.prog.cellsOf 3)) = ys[0]? := hf2 0 _ rfl
    have k1 : DataW.trod enc Try.prog W 0 (fun _ => true) true m' 3 ((List.drop 1 [c1, c2, c3, c4, c5, c6, c7]).take (Try.prog.cellsOf 3)) = ys[1]? := hf2 1 _ rfl
    have k2 : DataW.trod enc Try.prog W 0 (fun _ => true) true m' 3 ((List.drop 2 [c1, c2, c3, c4, c5, c6, c7]).take (Try.prog.cellsOf 3)) = ys[2]? := hf2 2 _ rfl
    have k3 : DataW.trod enc Try.prog W 0 (fun _ => true) true m' 3 ((List.drop 3 [c1, c2, c3, c4, c5, c6, c7]).take (Try.prog.cellsOf 3)) = ys[3]? := hf2 3 _ rfl
    have k4 : DataW.trod enc Try.prog W 0 (fun _ => true) true m' 3 ((List.drop 4 [c1, c2, c3, c4, c5, c6, c7]).take (Try.prog.cellsOf 3)) = ys[4]? := hf2 4 _ rfl
    have k5 : DataW.trod enc Try.prog W 0 (fun _ => true) true m' 3 ((List.drop 5 [c1, c2, c3, c4, c5, c6, c7]).take (Try.prog.cellsOf 3)) = ys[5]? := hf2 5 _ rfl
    have k6 : DataW.trod enc Try.prog W 0 (fun _ => true) true m' 3 ((List.drop 6 [c1, c2, c3, c4, c5, c6, c7]).take (Try.prog.cellsOf 3)) = ys[6]? := hf2 6 _ rfl
    rw [Try.cellsInt] at k0 k1 k2 k3 k4 k5 k6
    simp only [List.drop_zero, List.drop_succ_cons, List.take_succ_cons, List.take_zero] at k0 k1 k2 k3 k4 k5 k6
    obtain ⟨z1, rfl⟩ := field_int8 k0 (ey 0 (by omega))
    obtain ⟨z2, rfl⟩ := field_int8 k1 (ey 1 (by omega))
    obtain ⟨z3, rfl⟩ := field_int8 k2 (ey 2 (by omega))
    obtain ⟨z4, rfl⟩ := field_int8 k3 (ey 3 (by omega))
    obtain ⟨z5, rfl⟩ := field_int8 k4 (ey 4 (by omega))
    obtain ⟨z6, rfl⟩ := field_int8 k5 (ey 5 (by omega))
    obtain ⟨z7, rfl⟩ := field_int8 k6 (ey 6 (by omega))
    exact ⟨⟨z0, ⟨z1, z2, z3, z4, z5, z6, z7⟩⟩, rfl⟩

/-- a shelf -/
theorem open_shelf_cap {H : Type} {enc : TypeId × Value → H} {W : World} {n : Nat} {cs : List Value} {x : DataW H × List MemPlace}
    (h : DataW.trod enc Try.prog W 0 (fun _ => true) true n 44 cs = some x) (hw : ∀ k ∈ x.1.weights Try.prog 44, k ≤ reachBytes) : ∃ k : ShT, cs = k.cells ∧ ShIn W k ∧ ShCap k := by
  obtain ⟨xs, m, _, hx, hl, hlen, hf⟩ := DataW.trod_struct Try.underlying44 h
  rw [Try.cellsShelf] at hl
  have hlen' : xs.length = 9 := hlen
  obtain ⟨c0, c1, c2, c3, c4, c5, c6, c7, c8, rfl⟩ := list9 hl
  obtain ⟨x0, x1, x2, x3, x4, x5, x6, x7, x8, rfl⟩ := list9 hlen'
  have g0 : DataW.trod enc Try.prog W 0 (fun _ => true) true m 30 ((List.drop 0 [c0, c1, c2, c3, c4, c5, c6, c7, c8]).take (Try.prog.cellsOf 30)) = some x0 := hf 0 _ rfl
  have g1 : DataW.trod enc Try.prog W 0 (fun _ => true) true m 31 ((List.drop 1 [c0, c1, c2, c3, c4, c5, c6, c7, c8]).take (Try.prog.cellsOf 31)) = some x1 := hf 1 _ rfl
  have g2 : DataW.trod enc Try.prog W 0 (fun _ => true) true m 42 ((List.drop 2 [c0, c1, c2, c3, c4, c5, c6, c7, c8]).take (Try.prog.cellsOf 42)) = some x2 := hf 2 _ rfl
  have g3 : DataW.trod enc Try.prog W 0 (fun _ => true) true m 42 ((List.drop 3 [c0, c1, c2, c3, c4, c5, c6, c7, c8]).take (Try.prog.cellsOf 42)) = some x3 := hf 3 _ rfl
  have g4 : DataW.trod enc Try.prog W 0 (fun _ => true) true m 3 ((List.drop 4 [c0, c1, c2, c3, c4, c5, c6, c7, c8]).take (Try.prog.cellsOf 3)) = some x4 := hf 4 _ rfl
  have g5 : DataW.trod enc Try.prog W 0 (fun _ => true) true m 3 ((List.drop 5 [c0, c1, c2, c3, c4, c5, c6, c7, c8]).take (Try.prog.cellsOf 3)) = some x5 := hf 5 _ rfl
  have g6 : DataW.trod enc Try.prog W 0 (fun _ => true) true m 3 ((List.drop 6 [c0, c1, c2, c3, c4, c5, c6, c7, c8]).take (Try.prog.cellsOf 3)) = some x6 := hf 6 _ rfl
  have g7 : DataW.trod enc Try.prog W 0 (fun _ => true) true m 3 ((List.drop 7 [c0, c1, c2, c3, c4, c5, c6, c7, c8]).take (Try.prog.cellsOf 3)) = some x7 := hf 7 _ rfl
  have g8 : DataW.trod enc Try.prog W 0 (fun _ => true) true m 3 ((List.drop 8 [c0, c1, c2, c3, c4, c5, c6, c7, c8]).take (Try.prog.cellsOf 3)) = some x8 := hf 8 _ rfl
  rw [Try.cellsSeries] at g0
  rw [Try.cellsSamples] at g1
  rw [Try.cellsBuckets] at g2 g3
  rw [Try.cellsInt] at g4 g5 g6 g7 g8
  simp only [List.drop_zero, List.drop_succ_cons, List.take_succ_cons, List.take_zero] at g0 g1 g2 g3 g4 g5 g6 g7 g8
  have hwe : ∀ k, k ∈ DataW.weightsEach Try.prog [30, 31, 42, 42, 3, 3, 3, 3, 3] [x0.1, x1.1, x2.1, x3.1, x4.1, x5.1, x6.1, x7.1, x8.1] → k ≤ reachBytes := by
    intro k hk
    refine hw k ?_
    rw [hx]
    simp only [DataW.weights, Try.underlying44]
    exact hk
  obtain ⟨ls, sa, sc, e0, sg0, q0, l0, b0, n0, m0⟩ := open_list2 (α := ByteArray × ByteArray) (fun x => [.string x.1, .string x.2]) (fun k => k.1.size ≤ 140737488355328 ∧ k.2.size ≤ 140737488355328) 2 (by decide) (fun _ => rfl) Try.cellsLabel2 (by rw [Try.bytesLabel]; decide) Try.underlying30 g0 (fun k hk => hwe k (DataW.weights_mem_each (j := 0) rfl rfl k hk)) (fun n cs' y _ hy hwy => open_lab hy hwy)
  obtain ⟨ps, pa, pc, e1, sg1, _, l1, b1, n1, m1⟩ := open_list2 (α := Int × Int) (fun x => [.int .i64 x.1, .int .i64 x.2]) (fun _ => True) 2 (by decide) (fun _ => rfl) Try.cellsSample2 (by rw [Try.bytesSample]; decide) Try.underlying31 g1 (fun k hk => hwe k (DataW.weights_mem_each (j := 1) rfl rfl k hk)) (fun n cs' y _ hy _ => by
    obtain ⟨k, hk⟩ := open_smp hy
    exact ⟨k, hk, trivial⟩)
  obtain ⟨fs, fa, fc, e2, sg2, _, l2, b2, n2, m2⟩ := open_list2 (α := Grain.Bk) kc (fun _ => True) 8 (by decide) (fun _ => rfl) Try.cellsBucket (by rw [Try.bytesBucket]; decide) Try.underlying42 g2 (fun k hk => hwe k (DataW.weights_mem_each (j := 2) rfl rfl k hk)) (fun n cs' y _ hy _ => by
    obtain ⟨k, hk⟩ := open_bucket hy
    exact ⟨k, hk, trivial⟩)
  obtain ⟨gs, ga, gc, e3, sg3, _, l3, b3, n3, m3⟩ := open_list2 (α := Grain.Bk) kc (fun _ => True) 8 (by decide) (fun _ => rfl) Try.cellsBucket (by rw [Try.bytesBucket]; decide) Try.underlying42 g3 (fun k hk => hwe k (DataW.weights_mem_each (j := 3) rfl rfl k hk)) (fun n cs' y _ hy _ => by
    obtain ⟨k, hk⟩ := open_bucket hy
    exact ⟨k, hk, trivial⟩)
  obtain ⟨z4, rfl⟩ := field_i64 g4
  obtain ⟨z5, rfl⟩ := field_i64 g5
  obtain ⟨z6, rfl⟩ := field_i64 g6
  obtain ⟨z7, rfl⟩ := field_i64 g7
  obtain ⟨z8, rfl⟩ := field_i64 g8
  rw [← lcells_flat] at sg0
  rw [← scells_flat] at sg1
  rw [← kcells_flat] at sg2 sg3
  simp at e0 e1 e2 e3
  subst e0 e1 e2 e3
  rw [Try.bytesLabel] at b0
  rw [Try.bytesSample] at b1
  rw [Try.bytesBucket] at b2 b3
  have hr : reachBytes ≤ 140737488355328 := by decide
  refine ⟨⟨⟨ls, ps, fs, gs, z4, z5, z6, z7, z8⟩, sa, sc, pa, pc, fa, fc, ga, gc⟩, rfl, ⟨sg0, sg1, sg2, sg3, ?_, ?_, ?_, ?_, ?_, n0, n1, n2, n3⟩, ⟨l1, l2, l3⟩⟩
  · intro k hk
    have hk' : k < ls.length := hk
    have e : lk ls k = (ls[k]).1 ∧ lv ls k = (ls[k]).2 := by simp [lk, lv, List.getD, List.getElem?_eq_getElem hk']
    have := q0 _ (List.getElem_mem hk')
    show (lk ls k).size ≤ _ ∧ (lv ls k).size ≤ _
    rw [e.1, e.2]
    omega
  · show ls.length * 32 ≤ _; omega
  · show ps.length * 16 ≤ _; omega
  · show fs.length * 64 ≤ _; omega
  · show gs.length * 64 ≤ _; omega

theorem open_shelf {H : Type} {enc : TypeId × Value → H} {W : World} {n : Nat} {cs : List Value} {x : DataW H × List MemPlace}
    (h : DataW.trod enc Try.prog W 0 (fun _ => true) true n 44 cs = some x) (hw : ∀ k ∈ x.1.weights Try.prog 44, k ≤ reachBytes) : ∃ k : ShT, cs = k.cells ∧ ShIn W k := by
  obtain ⟨k, h1, h2, _⟩ := open_shelf_cap h hw
  exact ⟨k, h1, h2⟩

end Go.Proofs.Ytfgablhgjbjbkae

/-
  Arguments that are slices of samples, of parts, of whole numbers, opened: how many they hold is bounded by how much there is.
-/
namespace Go.Proofs.Ytfgablhgjbjbkae
open Go.ChangeShapes Go.WideShapes Go.ChangeAt Go.RowKit Go.GrainU

instance : Inhabited Grain.Pt := ⟨⟨0, 0, 0⟩⟩

theorem pcells_flat (l : List Grain.Pt) : pcells l = l.flatMap ptc := by
  induction l with
  | nil => rfl
  | cons x r ih => rw [pcells, ih]; simp

theorem icells_flat (l : List Int) : icells l = l.flatMap fun z => [.int .i64 z] := by
  induction l with
  | nil => rfl
  | cons x r ih => simp [icells] at ih ⊢; exact ih

theorem list3 {α : Type} {l : List α} (h : l.length = 3) : ∃ a b c, l = [a, b, c] := by
  match l, h with
  | [a, b, c], _ => exact ⟨a, b, c, rfl⟩

theorem Try.cellsPart : Try.prog.cellsOf 112 = 3 := by kernel_rfl
theorem Try.bytesPart : Try.prog.bytesOf 112 = 24 := by kernel_rfl
theorem Try.bytesInt : Try.prog.bytesOf 3 = 8 := by kernel_rfl

theorem open_pt {H : Type} {enc : TypeId × Value → H} {W : World} {n : Nat} {cs : List Value} {x : DataW H × List MemPlace}
    (h : DataW.trod enc Try.prog W 0 (fun _ => true) true n 112 cs = some x) : ∃ k : Grain.Pt, cs = ptc k := by
  obtain ⟨xs, m, _, _, hl, hlen, hf⟩ := DataW.trod_struct Try.underlying112 h
  rw [Try.cellsPart] at hl
  have hlen' : xs.length = 3 := hlen
  obtain ⟨c0, c1, c2, rfl⟩ := list3 hl
  obtain ⟨x0, x1, x2, rfl⟩ := list3 hlen'
  have g0 : DataW.trod enc Try.prog W 0 (fun _ => true) true m 3 ((List.drop 0 [c0, c1, c2]).take (Try.prog.cellsOf 3)) = some x0 := hf 0 _ rfl
  have g1 : DataW.trod enc Try.prog W 0 (fun _ => true) true m 3 ((List.drop 1 [c0, c1, c2]).take (Try.prog.cellsOf 3)) = some x1 := hf 1 _ rfl
  have g2 : DataW.trod enc Try.prog W 0 (fun _ => true) true m 3 ((List.drop 2 [c0, c1, c2]).take (Try.prog.cellsOf 3)) = some x2 := hf 2 _ rfl
  rw [Try.cellsInt] at g0 g1 g2
  simp only [List.drop_zero, List.drop_succ_cons, List.take_succ_cons, List.take_zero] at g0 g1 g2
  obtain ⟨z0, rfl⟩ := field_i64 g0
  obtain ⟨z1, rfl⟩ := field_i64 g1
  obtain ⟨z2, rfl⟩ := field_i64 g2
  exact ⟨⟨z0, z1, z2⟩, rfl⟩

theorem open_smps {H : Type} {enc : TypeId × Value → H} {W : World} {fuel : Nat} {ao : Option Addr} {n c : Nat} {x : DataW H × List MemPlace}
    (h : DataW.trod enc Try.prog W 0 (fun _ => true) true fuel 31 (Value.slice ao n c).cells.toList = some x) (hw : ∀ k ∈ x.1.weights Try.prog 31, k ≤ reachBytes) :
    ∃ l : List (Int × Int), n = l.length ∧ Seg W ao (scells l) ∧ n * 16 ≤ 140737488355328 := by
  obtain ⟨l, ao', c', e, sg, _, _, b, _, _⟩ := open_list2 (α := Int × Int) (fun x => [.int .i64 x.1, .int .i64 x.2]) (fun _ => True) 2 (by decide) (fun _ => rfl) Try.cellsSample2 (by rw [Try.bytesSample]; decide) Try.underlying31 h hw (fun n cs' y _ hy _ => by
    obtain ⟨k, hk⟩ := open_smp hy
    exact ⟨k, hk, trivial⟩)
  simp [Value.cells] at e
  obtain ⟨rfl, rfl, rfl⟩ := e
  rw [← scells_flat] at sg
  rw [Try.bytesSample] at b
  have hr : reachBytes ≤ 140737488355328 := by decide
  exact ⟨l, rfl, sg, by omega⟩

theorem open_pts {H : Type} {enc : TypeId × Value → H} {W : World} {fuel : Nat} {ao : Option Addr} {n c : Nat} {x : DataW H × List MemPlace}
    (h : DataW.trod enc Try.prog W 0 (fun _ => true) true fuel 66 (Value.slice ao n c).cells.toList = some x) (hw : ∀ k ∈ x.1.weights Try.prog 66, k ≤ reachBytes) :
    ∃ l : List Grain.Pt, n = l.length ∧ Seg W ao (pcells l) ∧ n * 24 ≤ 140737488355328 := by
  obtain ⟨l, ao', c', e, sg, _, _, b, _, _⟩ := open_list2 (α := Grain.Pt) ptc (fun _ => True) 3 (by decide) (fun _ => rfl) Try.cellsPart (by rw [Try.bytesPart]; decide) Try.underlying66 h hw (fun n cs' y _ hy _ => by
    obtain ⟨k, hk⟩ := open_pt hy
    exact ⟨k, hk, trivial⟩)
  simp [Value.cells] at e
  obtain ⟨rfl, rfl, rfl⟩ := e
  rw [← pcells_flat] at sg
  rw [Try.bytesPart] at b
  have hr : reachBytes ≤ 140737488355328 := by decide
  exact ⟨l, rfl, sg, by omega⟩


end Go.Proofs.Ytfgablhgjbjbkae

/-
  The walks of plan's follow and Covers.
-/
namespace Go.Proofs.Ytfgablhgjbjbkae
open Go.RowKit Go.GrainU

/-- a shelf's block, by its values -/
def sbl (v0 v1 v2 v3 : Value) (s : Grain.Shf) : Obj := .cells #[v0, v1, v2, v3, .int .i64 s.rf, .int .i64 s.ff, .int .i64 s.ft, .int .i64 s.cf, .int .i64 s.ct] 44

set_option maxHeartbeats 4000000 in
theorem follow_any (s : Grain.Shf) (v0 v1 v2 v3 : Value) (l : List Grain.Pt) (ao : Option Addr) (n c : Nat) (b : Bool) (w : World) (hs : Seg w ao (pcells l)) (hn : n = l.length) (hL : n ≤ 1000000000000000) (hb : b = Grain.fol s l) :
    Calls Try.prog 73 #[.agg #[v0, v1, v2, v3, .int .i64 s.rf, .int .i64 s.ff, .int .i64 s.ft, .int .i64 s.cf, .int .i64 s.ct], .slice ao n c] w fun e w' => e = .returned (.bool b) ∧ Below w.heap.size w w' := by
  have HN := hide hn
  have HB := hide hb
  clear hn hb
  obtain ⟨X, hX⟩ : ∃ X, X = w.heap.size := ⟨_, rfl⟩
  obtain ⟨V, hV⟩ : ∃ V, V = w.alloc (.cells #[v0, v1, v2, v3, .int .i64 s.rf, .int .i64 s.ff, .int .i64 s.ft, .int .i64 s.cf, .int .i64 s.ct] 44) := ⟨_, rfl⟩
  have bel : Below X w V := by rw [hV, hX]; exact (Below.refl _ _).alloc (Nat.le_refl _) _
  have S0 : V.heap[X]? = some (sbl v0 v1 v2 v3 s) := by rw [hV, hX]; exact heap_alloc_new w _
  have hXV : X ≤ V.heap.size := by rw [hX]; exact bel.size
  have hsV := hs.below (by rw [← hX]; exact bel)
  have HV := hide hV
  have HX := hide hX
  clear hV hX hs
  go_enter Try.func73, Try.ntmps73
  go_wp2
  rw [← HV.out, ← HX.out]
  go_loopw [9] (fun i wr => ∃ k : Nat, k ≤ n ∧ i = .int .i64 k ∧ Hid (∀ j, j < k → Grain.okp s l j = true) ∧ Below V.heap.size V wr) (fun i _ => n - (intOf i).toNat)
  case atStart => exact ⟨0, Nat.zero_le _, rfl, (fun j hj => absurd hj (Nat.not_lt_zero _) : ∀ j, j < 0 → Grain.okp s l j = true), Below.refl _ _⟩
  case round =>
    obtain ⟨k, hk, rfl, HO, belr⟩ := hrel
    by_cases hlt : k < n
    · have hkl : k < l.length := by rw [← HN.out]; exact hlt
      obtain ⟨bb, off, rfl, hbl, hcell⟩ := seg_part hsV hkl
      obtain ⟨P, hP⟩ : ∃ P, P = Grain.pt l k := ⟨_, rfl⟩
      have q := (hcell k hkl).below belr hbl
      rw [← hP] at q
      obtain ⟨c0, c1, c2⟩ := q
      obtain ⟨W, hW⟩ : ∃ W, W = wr.alloc (.cells #[.int .i64 P.k, .int .i64 P.f, .int .i64 P.t] 112) := ⟨_, rfl⟩
      have hbW : Below wr.heap.size wr W := by rw [hW]; exact (Below.refl _ _).alloc (Nat.le_refl _) _
      have belW : Below V.heap.size V W := belr.trans (hbW.mono belr.size)
      have P0 : W.heap[wr.heap.size]? = some (.cells #[.int .i64 P.k, .int .i64 P.f, .int .i64 P.t] 112 (0, 0)) := by rw [hW]; exact heap_alloc_new wr _
      have S1 := below_block belW S0
      obtain ⟨x0, x1, x2, x3, x4, x5, x6, x7, x8⟩ := nine9 S1
      obtain ⟨y0, y1, y2⟩ := three3 P0
      have Xl : X < W.heap.size := lt_of_block S1
      have Yl : wr.heap.size < W.heap.size := lt_of_block P0
      have HW := hide hW
      have HP := hide hP
      clear hW hP
      obtain ⟨m, hm⟩ : ∃ m, m = Grain.may s P := ⟨_, rfl⟩
      have HM := hide hm
      clear hm
      go_wp2_with fail
      rw [← HW.out]
      clear c0 c1 c2
      cases m
      · have e : b = false := by
          rw [HB.out, Bool.eq_false_iff]
          intro h
          have := (Grain.fol_iff s l).1 h k hkl
          simp [Grain.okp, ← HP.out, ← HM.out] at this
        subst e
        clear HB HO HP hcell
        have HS : Hid (∀ w', Below W.heap.size W w' → w'.cell? ⟨X, 0, none⟩ = some v0 ∧ w'.cell? ⟨X, 1, none⟩ = some v1 ∧ w'.cell? ⟨X, 2, none⟩ = some v2 ∧ w'.cell? ⟨X, 3, none⟩ = some v3 ∧ w'.cell? ⟨X, 4, none⟩ = some (.int .i64 s.rf) ∧ w'.cell? ⟨X, 5, none⟩ = some (.int .i64 s.ff) ∧ w'.cell? ⟨X, 6, none⟩ = some (.int .i64 s.ft) ∧ w'.cell? ⟨X, 7, none⟩ = some (.int .i64 s.cf) ∧ w'.cell? ⟨X, 8, none⟩ = some (.int .i64 s.ct) ∧ w'.cell? ⟨wr.heap.size, 0, none⟩ = some (.int .i64 P.k) ∧ w'.cell? ⟨wr.heap.size, 1, none⟩ = some (.int .i64 P.f) ∧ w'.cell? ⟨wr.heap.size, 2, none⟩ = some (.int .i64 P.t)) := fun w' hb' => ⟨(hb'.cell (by exact Xl)).trans x0, (hb'.cell (by exact Xl)).trans x1, (hb'.cell (by exact Xl)).trans x2, (hb'.cell (by exact Xl)).trans x3, (hb'.cell (by exact Xl)).trans x4, (hb'.cell (by exact Xl)).trans x5, (hb'.cell (by exact Xl)).trans x6, (hb'.cell (by exact Xl)).trans x7, (hb'.cell (by exact Xl)).trans x8, (hb'.cell (by exact Yl)).trans y0, (hb'.cell (by exact Yl)).trans y1, (hb'.cell (by exact Yl)).trans y2⟩
        have R1 : Below W.heap.size W W.drew := below_drewN (Below.refl _ _) 1
        clear x0 x1 x2 x3 x4 x5 x6 x7 x8 y0 y1 y2
        obtain ⟨x0, x1, x2, x3, x4, x5, x6, x7, x8, y0, y1, y2⟩ := HS.out _ R1
        refine wp_region_any (by kernel_rfl) ?_
        try (change wpAny _ _ _ _ _ _ _ (World.drew _))
        refine wpAny_ready (rs := [0, 1]) (by kernel_rfl) (by simp) ?_
        refine AllReady.cons rfl (fun K hK => ?_) (AllReady.cons rfl (fun K hK => ?_) AllReady.nil)
        · go_simp
          refine hK _ _ ?_
          clear hK K
          refine wpAny_ready (rs := [1]) (by kernel_rfl) (by simp) ?_
          refine AllReady.cons rfl (fun K hK => ?_) AllReady.nil
          go_simp
          refine hK _ _ ?_
          clear hK K
          clear x0 x1 x2 x3 x4 x5 x6 x7 x8 y0 y1 y2
          refine wpAny_ready (rs := [2]) (by kernel_rfl) (by simp) ?_
          refine AllReady.cons rfl (fun K hK => ?_) AllReady.nil
          go_simp
          go_wp2_with (first | (go_at_call 76; refine (may_any s v0 v1 v2 v3 P false _ HM.out).mono ?_; rintro e w1 ⟨rfl, hb1⟩; have R2 := below_pl hb1 R1; obtain ⟨x0, x1, x2, x3, x4, x5, x6, x7, x8, y0, y1, y2⟩ := HS.out _ R2; clear hb1))
          refine wpAny_ready (rs := [3]) (by kernel_rfl) (by simp) ?_
          refine AllReady.cons rfl (fun K hK => ?_) AllReady.nil
          go_simp
          refine hK _ _ ?_
          clear hK K
          refine wpAny_ready (rs := [4]) (by kernel_rfl) (by simp) ?_
          refine AllReady.cons rfl (fun K hK => ?_) AllReady.nil
          go_simp
          refine hK _ _ ?_
          clear hK K
          refine wpAny_skips (by kernel_rfl) (fun _ _ _ _ h => h) [(5, 19), (6, 20), (7, 21), (8, 22), (9, 23), (10, 24), (11, 25), (12, 26), (13, 27), (14, 28), (15, 29), (16, 30), (17, 31)] 1 14 _ _ _ rfl (by kernel_rfl) ?_
          simp only [skipAct, skipSet]
          refine wpAny_ready (rs := [18]) (by kernel_rfl) (by simp) ?_
          refine AllReady.cons rfl (fun K hK => ?_) AllReady.nil
          go_simp
          refine hK _ _ ?_
          clear hK K
          refine wpAny_done (by kernel_rfl) ?_ _
          go_wp2
          go_ret
          exact ⟨rfl, by rw [← HX.out]; exact bel.trans ((below_pl R2 belW).mono hXV)⟩
        · go_simp
          refine hK _ _ ?_
          clear hK K
          refine wpAny_ready (rs := [0]) (by kernel_rfl) (by simp) ?_
          refine AllReady.cons rfl (fun K hK => ?_) AllReady.nil
          go_simp
          refine hK _ _ ?_
          clear hK K
          clear x0 x1 x2 x3 x4 x5 x6 x7 x8 y0 y1 y2
          refine wpAny_ready (rs := [2]) (by kernel_rfl) (by simp) ?_
          refine AllReady.cons rfl (fun K hK => ?_) AllReady.nil
          go_simp
          go_wp2_with (first | (go_at_call 76; refine (may_any s v0 v1 v2 v3 P false _ HM.out).mono ?_; rintro e w1 ⟨rfl, hb1⟩; have R2 := below_pl hb1 R1; obtain ⟨x0, x1, x2, x3, x4, x5, x6, x7, x8, y0, y1, y2⟩ := HS.out _ R2; clear hb1))
          refine wpAny_ready (rs := [3]) (by kernel_rfl) (by simp) ?_
          refine AllReady.cons rfl (fun K hK => ?_) AllReady.nil
          go_simp
          refine hK _ _ ?_
          clear hK K
          refine wpAny_ready (rs := [4]) (by kernel_rfl) (by simp) ?_
          refine AllReady.cons rfl (fun K hK => ?_) AllReady.nil
          go_simp
          refine hK _ _ ?_
          clear hK K
          refine wpAny_skips (by kernel_rfl) (fun _ _ _ _ h => h) [(5, 19), (6, 20), (7, 21), (8, 22), (9, 23), (10, 24), (11, 25), (12, 26), (13, 27), (14, 28), (15, 29), (16, 30), (17, 31)] 1 14 _ _ _ rfl (by kernel_rfl) ?_
          simp only [skipAct, skipSet]
          refine wpAny_ready (rs := [18]) (by kernel_rfl) (by simp) ?_
          refine AllReady.cons rfl (fun K hK => ?_) AllReady.nil
          go_simp
          refine hK _ _ ?_
          clear hK K
          refine wpAny_done (by kernel_rfl) ?_ _
          go_wp2
          go_ret
          exact ⟨rfl, by rw [← HX.out]; exact bel.trans ((below_pl R2 belW).mono hXV)⟩
      · rcases Nat.eq_zero_or_pos k with hk0 | hk0
        · subst hk0
          have OK : Hid (∀ j, j < 0 + 1 → Grain.okp s l j = true) := by
            intro j hj
            obtain rfl : j = 0 := by omega
            simp [Grain.okp, ← HP.out, ← HM.out]
          clear HO HP hcell
          have HS : Hid (∀ w', Below W.heap.size W w' → w'.cell? ⟨X, 0, none⟩ = some v0 ∧ w'.cell? ⟨X, 1, none⟩ = some v1 ∧ w'.cell? ⟨X, 2, none⟩ = some v2 ∧ w'.cell? ⟨X, 3, none⟩ = some v3 ∧ w'.cell? ⟨X, 4, none⟩ = some (.int .i64 s.rf) ∧ w'.cell? ⟨X, 5, none⟩ = some (.int .i64 s.ff) ∧ w'.cell? ⟨X, 6, none⟩ = some (.int .i64 s.ft) ∧ w'.cell? ⟨X, 7, none⟩ = some (.int .i64 s.cf) ∧ w'.cell? ⟨X, 8, none⟩ = some (.int .i64 s.ct) ∧ w'.cell? ⟨wr.heap.size, 0, none⟩ = some (.int .i64 P.k) ∧ w'.cell? ⟨wr.heap.size, 1, none⟩ = some (.int .i64 P.f) ∧ w'.cell? ⟨wr.heap.size, 2, none⟩ = some (.int .i64 P.t)) := fun w' hb' => ⟨(hb'.cell (by exact Xl)).trans x0, (hb'.cell (by exact Xl)).trans x1, (hb'.cell (by exact Xl)).trans x2, (hb'.cell (by exact Xl)).trans x3, (hb'.cell (by exact Xl)).trans x4, (hb'.cell (by exact Xl)).trans x5, (hb'.cell (by exact Xl)).trans x6, (hb'.cell (by exact Xl)).trans x7, (hb'.cell (by exact Xl)).trans x8, (hb'.cell (by exact Yl)).trans y0, (hb'.cell (by exact Yl)).trans y1, (hb'.cell (by exact Yl)).trans y2⟩
          have R1 : Below W.heap.size W W.drew := below_drewN (Below.refl _ _) 1
          clear x0 x1 x2 x3 x4 x5 x6 x7 x8 y0 y1 y2
          obtain ⟨x0, x1, x2, x3, x4, x5, x6, x7, x8, y0, y1, y2⟩ := HS.out _ R1
          refine wp_region_any (by kernel_rfl) ?_
          try (change wpAny _ _ _ _ _ _ _ (World.drew _))
          refine wpAny_ready (rs := [0, 1]) (by kernel_rfl) (by simp) ?_
          refine AllReady.cons rfl (fun K hK => ?_) (AllReady.cons rfl (fun K hK => ?_) AllReady.nil)
          · go_simp
            refine hK _ _ ?_
            clear hK K
            refine wpAny_ready (rs := [1]) (by kernel_rfl) (by simp) ?_
            refine AllReady.cons rfl (fun K hK => ?_) AllReady.nil
            go_simp
            refine hK _ _ ?_
            clear hK K
            clear x0 x1 x2 x3 x4 x5 x6 x7 x8 y0 y1 y2
            refine wpAny_ready (rs := [2]) (by kernel_rfl) (by simp) ?_
            refine AllReady.cons rfl (fun K hK => ?_) AllReady.nil
            go_simp
            go_wp2_with (first | (go_at_call 76; refine (may_any s v0 v1 v2 v3 P true _ HM.out).mono ?_; rintro e w1 ⟨rfl, hb1⟩; have R2 := below_pl hb1 R1; obtain ⟨x0, x1, x2, x3, x4, x5, x6, x7, x8, y0, y1, y2⟩ := HS.out _ R2; clear hb1))
            refine wpAny_ready (rs := [3]) (by kernel_rfl) (by simp) ?_
            refine AllReady.cons rfl (fun K hK => ?_) AllReady.nil
            go_simp
            refine hK _ _ ?_
            clear hK K
            refine wpAny_ready (rs := [4]) (by kernel_rfl) (by simp) ?_
            refine AllReady.cons rfl (fun K hK => ?_) AllReady.nil
            go_simp
            refine hK _ _ ?_
            clear hK K
            refine wpAny_ready (rs := [5]) (by kernel_rfl) (by simp) ?_
            refine AllReady.cons rfl (fun K hK => ?_) AllReady.nil
            go_simp
            refine hK _ _ ?_
            clear hK K
            refine wpAny_ready (rs := [6]) (by kernel_rfl) (by simp) ?_
            refine AllReady.cons rfl (fun K hK => ?_) AllReady.nil
            go_simp
            refine hK _ _ ?_
            clear hK K
            refine wpAny_ready (rs := [7]) (by kernel_rfl) (by simp) ?_
            refine AllReady.cons rfl (fun K hK => ?_) AllReady.nil
            go_simp
            refine hK _ _ ?_
            clear hK K
            refine wpAny_skips (by kernel_rfl) (fun _ _ _ _ h => h) [(8, 22), (9, 23), (10, 24), (11, 25), (12, 26), (13, 27), (14, 28), (15, 29), (16, 30)] 2 11 _ _ _ rfl (by kernel_rfl) ?_
            simp only [skipAct, skipSet]
            refine wpAny_ready (rs := [17]) (by kernel_rfl) (by simp) ?_
            refine AllReady.cons rfl (fun K hK => ?_) AllReady.nil
            go_simp
            refine hK _ _ ?_
            clear hK K
            refine wpAny_ready (rs := [18]) (by kernel_rfl) (by simp) ?_
            refine AllReady.cons rfl (fun K hK => ?_) AllReady.nil
            go_simp
            refine hK _ _ ?_
            clear hK K
            refine wpAny_done (by kernel_rfl) ?_ _
            go_wp2
            go_roundw
            case rel => exact ⟨0 + 1, by omega, by go_num, OK, below_pl R2 belW⟩
            case measure => simp [intOf]; omega
          · go_simp
            refine hK _ _ ?_
            clear hK K
            refine wpAny_ready (rs := [0]) (by kernel_rfl) (by simp) ?_
            refine AllReady.cons rfl (fun K hK => ?_) AllReady.nil
            go_simp
            refine hK _ _ ?_
            clear hK K
            clear x0 x1 x2 x3 x4 x5 x6 x7 x8 y0 y1 y2
            refine wpAny_ready (rs := [2]) (by kernel_rfl) (by simp) ?_
            refine AllReady.cons rfl (fun K hK => ?_) AllReady.nil
            go_simp
            go_wp2_with (first | (go_at_call 76; refine (may_any s v0 v1 v2 v3 P true _ HM.out).mono ?_; rintro e w1 ⟨rfl, hb1⟩; have R2 := below_pl hb1 R1; obtain ⟨x0, x1, x2, x3, x4, x5, x6, x7, x8, y0, y1, y2⟩ := HS.out _ R2; clear hb1))
            refine wpAny_ready (rs := [3]) (by kernel_rfl) (by simp) ?_
            refine AllReady.cons rfl (fun K hK => ?_) AllReady.nil
            go_simp
            refine hK _ _ ?_
            clear hK K
            refine wpAny_ready (rs := [4]) (by kernel_rfl) (by simp) ?_
            refine AllReady.cons rfl (fun K hK => ?_) AllReady.nil
            go_simp
            refine hK _ _ ?_
            clear hK K
            refine wpAny_ready (rs := [5]) (by kernel_rfl) (by simp) ?_
            refine AllReady.cons rfl (fun K hK => ?_) AllReady.nil
            go_simp
            refine hK _ _ ?_
            clear hK K
            refine wpAny_ready (rs := [6]) (by kernel_rfl) (by simp) ?_
            refine AllReady.cons rfl (fun K hK => ?_) AllReady.nil
            go_simp
            refine hK _ _ ?_
            clear hK K
            refine wpAny_ready (rs := [7]) (by kernel_rfl) (by simp) ?_
            refine AllReady.cons rfl (fun K hK => ?_) AllReady.nil
            go_simp
            refine hK _ _ ?_
            clear hK K
            refine wpAny_skips (by kernel_rfl) (fun _ _ _ _ h => h) [(8, 22), (9, 23), (10, 24), (11, 25), (12, 26), (13, 27), (14, 28), (15, 29), (16, 30)] 2 11 _ _ _ rfl (by kernel_rfl) ?_
            simp only [skipAct, skipSet]
            refine wpAny_ready (rs := [17]) (by kernel_rfl) (by simp) ?_
            refine AllReady.cons rfl (fun K hK => ?_) AllReady.nil
            go_simp
            refine hK _ _ ?_
            clear hK K
            refine wpAny_ready (rs := [18]) (by kernel_rfl) (by simp) ?_
            refine AllReady.cons rfl (fun K hK => ?_) AllReady.nil
            go_simp
            refine hK _ _ ?_
            clear hK K
            refine wpAny_done (by kernel_rfl) ?_ _
            go_wp2
            go_roundw
            case rel => exact ⟨0 + 1, by omega, by go_num, OK, below_pl R2 belW⟩
            case measure => simp [intOf]; omega
        · obtain ⟨j, rfl⟩ : ∃ j, k = j + 1 := ⟨k - 1, by omega⟩
          have hg : decide ((0 : Int) < ((j + 1 : Nat) : Int)) = true := by simp
          have hg' : decide ((0 : Int) < (j : Int) + 1) = true := by simp
          obtain ⟨M, hM⟩ : ∃ M, M = (Grain.pt l j).t := ⟨_, rfl⟩
          have z2' : W.cell? ⟨bb, off + j * 3 + 2, none⟩ = some (.int .i64 M) := by
            rw [hM]; exact ((hcell j (by omega)).below belW hbl).2.2
          have Bl : bb < W.heap.size := Nat.lt_of_lt_of_le hbl belW.size
          by_cases he : M = P.f
          · have OK : Hid (∀ i, i < j + 1 + 1 → Grain.okp s l i = true) := by
              intro i hi
              rcases Nat.lt_or_ge i (j + 1) with h | h
              · exact HO.out i h
              · obtain rfl : i = j + 1 := by omega
                simp [Grain.okp, ← HP.out, ← HM.out, ← hM, he]
            have en : (M != P.f) = false := by simp [he]
            clear HO HP hcell hM he
            have HS : Hid (∀ w', Below W.heap.size W w' → w'.cell? ⟨X, 0, none⟩ = some v0 ∧ w'.cell? ⟨X, 1, none⟩ = some v1 ∧ w'.cell? ⟨X, 2, none⟩ = some v2 ∧ w'.cell? ⟨X, 3, none⟩ = some v3 ∧ w'.cell? ⟨X, 4, none⟩ = some (.int .i64 s.rf) ∧ w'.cell? ⟨X, 5, none⟩ = some (.int .i64 s.ff) ∧ w'.cell? ⟨X, 6, none⟩ = some (.int .i64 s.ft) ∧ w'.cell? ⟨X, 7, none⟩ = some (.int .i64 s.cf) ∧ w'.cell? ⟨X, 8, none⟩ = some (.int .i64 s.ct) ∧ w'.cell? ⟨wr.heap.size, 0, none⟩ = some (.int .i64 P.k) ∧ w'.cell? ⟨wr.heap.size, 1, none⟩ = some (.int .i64 P.f) ∧ w'.cell? ⟨wr.heap.size, 2, none⟩ = some (.int .i64 P.t) ∧ w'.cell? ⟨bb, off + j * 3 + 2, none⟩ = some (.int .i64 M)) := fun w' hb' => ⟨(hb'.cell (by exact Xl)).trans x0, (hb'.cell (by exact Xl)).trans x1, (hb'.cell (by exact Xl)).trans x2, (hb'.cell (by exact Xl)).trans x3, (hb'.cell (by exact Xl)).trans x4, (hb'.cell (by exact Xl)).trans x5, (hb'.cell (by exact Xl)).trans x6, (hb'.cell (by exact Xl)).trans x7, (hb'.cell (by exact Xl)).trans x8, (hb'.cell (by exact Yl)).trans y0, (hb'.cell (by exact Yl)).trans y1, (hb'.cell (by exact Yl)).trans y2, (hb'.cell (by exact Bl)).trans z2'⟩
            have R1 : Below W.heap.size W W.drew := below_drewN (Below.refl _ _) 1
            have hw1 : IntKind.i64.wrap ((j : Int) + 1 - 1) = (j : Int) := by rw [IntKind.wrap_i64]; omega
            have hw2 : IntKind.i64.wrap (j : Int) = (j : Int) := by rw [IntKind.wrap_i64]; omega
            have hj : (j : Int) < (n : Int) := by omega
            clear x0 x1 x2 x3 x4 x5 x6 x7 x8 y0 y1 y2
            obtain ⟨x0, x1, x2, x3, x4, x5, x6, x7, x8, y0, y1, y2, z2'⟩ := HS.out _ R1
            refine wp_region_any (by kernel_rfl) ?_
            try (change wpAny _ _ _ _ _ _ _ (World.drew _))
            refine wpAny_ready (rs := [0, 1]) (by kernel_rfl) (by simp) ?_
            refine AllReady.cons rfl (fun K hK => ?_) (AllReady.cons rfl (fun K hK => ?_) AllReady.nil)
            · go_simp
              refine hK _ _ ?_
              clear hK K
              refine wpAny_ready (rs := [1]) (by kernel_rfl) (by simp) ?_
              refine AllReady.cons rfl (fun K hK => ?_) AllReady.nil
              go_simp
              refine hK _ _ ?_
              clear hK K
              clear x0 x1 x2 x3 x4 x5 x6 x7 x8 y0 y1 y2 z2'
              refine wpAny_ready (rs := [2]) (by kernel_rfl) (by simp) ?_
              refine AllReady.cons rfl (fun K hK => ?_) AllReady.nil
              go_simp
              go_wp2_with (first | (go_at_call 76; refine (may_any s v0 v1 v2 v3 P true _ HM.out).mono ?_; rintro e w1 ⟨rfl, hb1⟩; have R2 := below_pl hb1 R1; obtain ⟨x0, x1, x2, x3, x4, x5, x6, x7, x8, y0, y1, y2, z2'⟩ := HS.out _ R2; clear hb1))
              refine wpAny_ready (rs := [3]) (by kernel_rfl) (by simp) ?_
              refine AllReady.cons rfl (fun K hK => ?_) AllReady.nil
              go_simp
              refine hK _ _ ?_
              clear hK K
              refine wpAny_ready (rs := [4]) (by kernel_rfl) (by simp) ?_
              refine AllReady.cons rfl (fun K hK => ?_) AllReady.nil
              go_simp
              refine hK _ _ ?_
              clear hK K
              refine wpAny_ready (rs := [5]) (by kernel_rfl) (by simp) ?_
              refine AllReady.cons rfl (fun K hK => ?_) AllReady.nil
              go_simp
              refine hK _ _ ?_
              clear hK K
              refine wpAny_ready (rs := [6]) (by kernel_rfl) (by simp) ?_
              refine AllReady.cons rfl (fun K hK => ?_) AllReady.nil
              go_simp
              refine hK _ _ ?_
              clear hK K
              refine wpAny_ready (rs := [7]) (by kernel_rfl) (by simp) ?_
              refine AllReady.cons rfl (fun K hK => ?_) AllReady.nil
              go_simp
              refine hK _ _ ?_
              clear hK K
              refine wpAny_take (i := 8) (v := .slice (some ⟨bb, off, none⟩) n c) rfl (by kernel_rfl) (by kernel_rfl) (by kernel_rfl) (fun _ _ _ h => h) (Or.inl ⟨by kernel_rfl, fun w => by go_simp⟩) ?_
              refine wpAny_take (i := 9) (v := .int .i64 ((j + 1 : Nat) : Int)) rfl (by kernel_rfl) (by kernel_rfl) (by kernel_rfl) (fun _ _ _ h => h) (Or.inl ⟨by kernel_rfl, fun w => by go_simp⟩) ?_
              refine wpAny_take (i := 10) (v := .int .i64 (j : Nat)) rfl (by kernel_rfl) (by kernel_rfl) (by kernel_rfl) (fun _ _ _ h => h) (Or.inl ⟨by kernel_rfl, fun w => by go_simp⟩) ?_
              refine wpAny_take (i := 11) (v := .pointer (some ⟨bb, off + j * 3, none⟩)) rfl (by kernel_rfl) (by kernel_rfl) (by kernel_rfl) (fun _ _ _ h => h) (Or.inl ⟨by kernel_rfl, fun w => by go_simp⟩) ?_
              refine wpAny_take (i := 12) (v := .pointer (some ⟨bb, off + j * 3 + 2, none⟩)) rfl (by kernel_rfl) (by kernel_rfl) (by kernel_rfl) (fun _ _ _ h => h) (Or.inl ⟨by kernel_rfl, fun w => by go_simp⟩) ?_
              refine wpAny_take (i := 14) (v := .pointer (some ⟨wr.heap.size, 1, none⟩)) rfl (by kernel_rfl) (by kernel_rfl) (by kernel_rfl) (fun _ _ _ h => h) (Or.inl ⟨by kernel_rfl, fun w => by go_simp⟩) ?_
              refine wpAny_ready (rs := [13, 15]) (by kernel_rfl) (by simp) ?_
              refine AllReady.cons rfl (fun K hK => ?_) (AllReady.cons rfl (fun K hK => ?_) AllReady.nil)
              · go_simp
                refine hK _ _ ?_
                clear hK K
                refine wpAny_ready (rs := [15]) (by kernel_rfl) (by simp) ?_
                refine AllReady.cons rfl (fun K hK => ?_) AllReady.nil
                go_simp
                refine hK _ _ ?_
                clear hK K
                refine wpAny_ready (rs := [16]) (by kernel_rfl) (by simp) ?_
                refine AllReady.cons rfl (fun K hK => ?_) AllReady.nil
                go_simp
                refine hK _ _ ?_
                clear hK K
                refine wpAny_ready (rs := [17]) (by kernel_rfl) (by simp) ?_
                refine AllReady.cons rfl (fun K hK => ?_) AllReady.nil
                go_simp
                refine hK _ _ ?_
                clear hK K
                refine wpAny_ready (rs := [18]) (by kernel_rfl) (by simp) ?_
                refine AllReady.cons rfl (fun K hK => ?_) AllReady.nil
                go_simp
                refine hK _ _ ?_
                clear hK K
                refine wpAny_done (by kernel_rfl) ?_ _
                go_wp2
                go_roundw
                case rel => exact ⟨j + 1 + 1, by omega, by go_num, OK, below_pl R2 belW⟩
                case measure => simp [intOf]; omega
              · go_simp
                refine hK _ _ ?_
                clear hK K
                refine wpAny_ready (rs := [13]) (by kernel_rfl) (by simp) ?_
                refine AllReady.cons rfl (fun K hK => ?_) AllReady.nil
                go_simp
                refine hK _ _ ?_
                clear hK K
                refine wpAny_ready (rs := [16]) (by kernel_rfl) (by simp) ?_
                refine AllReady.cons rfl (fun K hK => ?_) AllReady.nil
                go_simp
                refine hK _ _ ?_
                clear hK K
                refine wpAny_ready (rs := [17]) (by kernel_rfl) (by simp) ?_
                refine AllReady.cons rfl (fun K hK => ?_) AllReady.nil
                go_simp
                refine hK _ _ ?_
                clear hK K
                refine wpAny_ready (rs := [18]) (by kernel_rfl) (by simp) ?_
                refine AllReady.cons rfl (fun K hK => ?_) AllReady.nil
                go_simp
                refine hK _ _ ?_
                clear hK K
                refine wpAny_done (by kernel_rfl) ?_ _
                go_wp2
                go_roundw
                case rel => exact ⟨j + 1 + 1, by omega, by go_num, OK, below_pl R2 belW⟩
                case measure => simp [intOf]; omega
            · go_simp
              refine hK _ _ ?_
              clear hK K
              refine wpAny_ready (rs := [0]) (by kernel_rfl) (by simp) ?_
              refine AllReady.cons rfl (fun K hK => ?_) AllReady.nil
              go_simp
              refine hK _ _ ?_
              clear hK K
              clear x0 x1 x2 x3 x4 x5 x6 x7 x8 y0 y1 y2 z2'
              refine wpAny_ready (rs := [2]) (by kernel_rfl) (by simp) ?_
              refine AllReady.cons rfl (fun K hK => ?_) AllReady.nil
              go_simp
              go_wp2_with (first | (go_at_call 76; refine (may_any s v0 v1 v2 v3 P true _ HM.out).mono ?_; rintro e w1 ⟨rfl, hb1⟩; have R2 := below_pl hb1 R1; obtain ⟨x0, x1, x2, x3, x4, x5, x6, x7, x8, y0, y1, y2, z2'⟩ := HS.out _ R2; clear hb1))
              refine wpAny_ready (rs := [3]) (by kernel_rfl) (by simp) ?_
              refine AllReady.cons rfl (fun K hK => ?_) AllReady.nil
              go_simp
              refine hK _ _ ?_
              clear hK K
              refine wpAny_ready (rs := [4]) (by kernel_rfl) (by simp) ?_
              refine AllReady.cons rfl (fun K hK => ?_) AllReady.nil
              go_simp
              refine hK _ _ ?_
              clear hK K
              refine wpAny_ready (rs := [5]) (by kernel_rfl) (by simp) ?_
              refine AllReady.cons rfl (fun K hK => ?_) AllReady.nil
              go_simp
              refine hK _ _ ?_
              clear hK K
              refine wpAny_ready (rs := [6]) (by kernel_rfl) (by simp) ?_
              refine AllReady.cons rfl (fun K hK => ?_) AllReady.nil
              go_simp
              refine hK _ _ ?_
              clear hK K
              refine wpAny_ready (rs := [7]) (by kernel_rfl) (by simp) ?_
              refine AllReady.cons rfl (fun K hK => ?_) AllReady.nil
              go_simp
              refine hK _ _ ?_
              clear hK K
              refine wpAny_take (i := 8) (v := .slice (some ⟨bb, off, none⟩) n c) rfl (by kernel_rfl) (by kernel_rfl) (by kernel_rfl) (fun _ _ _ h => h) (Or.inl ⟨by kernel_rfl, fun w => by go_simp⟩) ?_
              refine wpAny_take (i := 9) (v := .int .i64 ((j + 1 : Nat) : Int)) rfl (by kernel_rfl) (by kernel_rfl) (by kernel_rfl) (fun _ _ _ h => h) (Or.inl ⟨by kernel_rfl, fun w => by go_simp⟩) ?_
              refine wpAny_take (i := 10) (v := .int .i64 (j : Nat)) rfl (by kernel_rfl) (by kernel_rfl) (by kernel_rfl) (fun _ _ _ h => h) (Or.inl ⟨by kernel_rfl, fun w => by go_simp⟩) ?_
              refine wpAny_take (i := 11) (v := .pointer (some ⟨bb, off + j * 3, none⟩)) rfl (by kernel_rfl) (by kernel_rfl) (by kernel_rfl) (fun _ _ _ h => h) (Or.inl ⟨by kernel_rfl, fun w => by go_simp⟩) ?_
              refine wpAny_take (i := 12) (v := .pointer (some ⟨bb, off + j * 3 + 2, none⟩)) rfl (by kernel_rfl) (by kernel_rfl) (by kernel_rfl) (fun _ _ _ h => h) (Or.inl ⟨by kernel_rfl, fun w => by go_simp⟩) ?_
              refine wpAny_take (i := 14) (v := .pointer (some ⟨wr.heap.size, 1, none⟩)) rfl (by kernel_rfl) (by kernel_rfl) (by kernel_rfl) (fun _ _ _ h => h) (Or.inl ⟨by kernel_rfl, fun w => by go_simp⟩) ?_
              refine wpAny_ready (rs := [13, 15]) (by kernel_rfl) (by simp) ?_
              refine AllReady.cons rfl (fun K hK => ?_) (AllReady.cons rfl (fun K hK => ?_) AllReady.nil)
              · go_simp
                refine hK _ _ ?_
                clear hK K
                refine wpAny_ready (rs := [15]) (by kernel_rfl) (by simp) ?_
                refine AllReady.cons rfl (fun K hK => ?_) AllReady.nil
                go_simp
                refine hK _ _ ?_
                clear hK K
                refine wpAny_ready (rs := [16]) (by kernel_rfl) (by simp) ?_
                refine AllReady.cons rfl (fun K hK => ?_) AllReady.nil
                go_simp
                refine hK _ _ ?_
                clear hK K
                refine wpAny_ready (rs := [17]) (by kernel_rfl) (by simp) ?_
                refine AllReady.cons rfl (fun K hK => ?_) AllReady.nil
                go_simp
                refine hK _ _ ?_
                clear hK K
                refine wpAny_ready (rs := [18]) (by kernel_rfl) (by simp) ?_
                refine AllReady.cons rfl (fun K hK => ?_) AllReady.nil
                go_simp
                refine hK _ _ ?_
                clear hK K
                refine wpAny_done (by kernel_rfl) ?_ _
                go_wp2
                go_roundw
                case rel => exact ⟨j + 1 + 1, by omega, by go_num, OK, below_pl R2 belW⟩
                case measure => simp [intOf]; omega
              · go_simp
                refine hK _ _ ?_
                clear hK K
                refine wpAny_ready (rs := [13]) (by kernel_rfl) (by simp) ?_
                refine AllReady.cons rfl (fun K hK => ?_) AllReady.nil
                go_simp
                refine hK _ _ ?_
                clear hK K
                refine wpAny_ready (rs := [16]) (by kernel_rfl) (by simp) ?_
                refine AllReady.cons rfl (fun K hK => ?_) AllReady.nil
                go_simp
                refine hK _ _ ?_
                clear hK K
                refine wpAny_ready (rs := [17]) (by kernel_rfl) (by simp) ?_
                refine AllReady.cons rfl (fun K hK => ?_) AllReady.nil
                go_simp
                refine hK _ _ ?_
                clear hK K
                refine wpAny_ready (rs := [18]) (by kernel_rfl) (by simp) ?_
                refine AllReady.cons rfl (fun K hK => ?_) AllReady.nil
                go_simp
                refine hK _ _ ?_
                clear hK K
                refine wpAny_done (by kernel_rfl) ?_ _
                go_wp2
                go_roundw
                case rel => exact ⟨j + 1 + 1, by omega, by go_num, OK, below_pl R2 belW⟩
                case measure => simp [intOf]; omega
          · have e : b = false := by
              rw [HB.out, Bool.eq_false_iff]
              intro h
              have := (Grain.fol_iff s l).1 h (j + 1) hkl
              simp [Grain.okp, ← HP.out, ← HM.out, ← hM, he] at this
            subst e
            have en : (M != P.f) = true := by simp [he]
            clear HB HO HP hcell hM he
            have HS : Hid (∀ w', Below W.heap.size W w' → w'.cell? ⟨X, 0, none⟩ = some v0 ∧ w'.cell? ⟨X, 1, none⟩ = some v1 ∧ w'.cell? ⟨X, 2, none⟩ = some v2 ∧ w'.cell? ⟨X, 3, none⟩ = some v3 ∧ w'.cell? ⟨X, 4, none⟩ = some (.int .i64 s.rf) ∧ w'.cell? ⟨X, 5, none⟩ = some (.int .i64 s.ff) ∧ w'.cell? ⟨X, 6, none⟩ = some (.int .i64 s.ft) ∧ w'.cell? ⟨X, 7, none⟩ = some (.int .i64 s.cf) ∧ w'.cell? ⟨X, 8, none⟩ = some (.int .i64 s.ct) ∧ w'.cell? ⟨wr.heap.size, 0, none⟩ = some (.int .i64 P.k) ∧ w'.cell? ⟨wr.heap.size, 1, none⟩ = some (.int .i64 P.f) ∧ w'.cell? ⟨wr.heap.size, 2, none⟩ = some (.int .i64 P.t) ∧ w'.cell? ⟨bb, off + j * 3 + 2, none⟩ = some (.int .i64 M)) := fun w' hb' => ⟨(hb'.cell (by exact Xl)).trans x0, (hb'.cell (by exact Xl)).trans x1, (hb'.cell (by exact Xl)).trans x2, (hb'.cell (by exact Xl)).trans x3, (hb'.cell (by exact Xl)).trans x4, (hb'.cell (by exact Xl)).trans x5, (hb'.cell (by exact Xl)).trans x6, (hb'.cell (by exact Xl)).trans x7, (hb'.cell (by exact Xl)).trans x8, (hb'.cell (by exact Yl)).trans y0, (hb'.cell (by exact Yl)).trans y1, (hb'.cell (by exact Yl)).trans y2, (hb'.cell (by exact Bl)).trans z2'⟩
            have R1 : Below W.heap.size W W.drew := below_drewN (Below.refl _ _) 1
            have hw1 : IntKind.i64.wrap ((j : Int) + 1 - 1) = (j : Int) := by rw [IntKind.wrap_i64]; omega
            have hw2 : IntKind.i64.wrap (j : Int) = (j : Int) := by rw [IntKind.wrap_i64]; omega
            have hj : (j : Int) < (n : Int) := by omega
            clear x0 x1 x2 x3 x4 x5 x6 x7 x8 y0 y1 y2
            obtain ⟨x0, x1, x2, x3, x4, x5, x6, x7, x8, y0, y1, y2, z2'⟩ := HS.out _ R1
            refine wp_region_any (by kernel_rfl) ?_
            try (change wpAny _ _ _ _ _ _ _ (World.drew _))
            refine wpAny_ready (rs := [0, 1]) (by kernel_rfl) (by simp) ?_
            refine AllReady.cons rfl (fun K hK => ?_) (AllReady.cons rfl (fun K hK => ?_) AllReady.nil)
            · go_simp
              refine hK _ _ ?_
              clear hK K
              refine wpAny_ready (rs := [1]) (by kernel_rfl) (by simp) ?_
              refine AllReady.cons rfl (fun K hK => ?_) AllReady.nil
              go_simp
              refine hK _ _ ?_
              clear hK K
              clear x0 x1 x2 x3 x4 x5 x6 x7 x8 y0 y1 y2 z2'
              refine wpAny_ready (rs := [2]) (by kernel_rfl) (by simp) ?_
              refine AllReady.cons rfl (fun K hK => ?_) AllReady.nil
              go_simp
              go_wp2_with (first | (go_at_call 76; refine (may_any s v0 v1 v2 v3 P true _ HM.out).mono ?_; rintro e w1 ⟨rfl, hb1⟩; have R2 := below_pl hb1 R1; obtain ⟨x0, x1, x2, x3, x4, x5, x6, x7, x8, y0, y1, y2, z2'⟩ := HS.out _ R2; clear hb1))
              refine wpAny_ready (rs := [3]) (by kernel_rfl) (by simp) ?_
              refine AllReady.cons rfl (fun K hK => ?_) AllReady.nil
              go_simp
              refine hK _ _ ?_
              clear hK K
              refine wpAny_ready (rs := [4]) (by kernel_rfl) (by simp) ?_
              refine AllReady.cons rfl (fun K hK => ?_) AllReady.nil
              go_simp
              refine hK _ _ ?_
              clear hK K
              refine wpAny_ready (rs := [5]) (by kernel_rfl) (by simp) ?_
              refine AllReady.cons rfl (fun K hK => ?_) AllReady.nil
              go_simp
              refine hK _ _ ?_
              clear hK K
              refine wpAny_ready (rs := [6]) (by kernel_rfl) (by simp) ?_
              refine AllReady.cons rfl (fun K hK => ?_) AllReady.nil
              go_simp
              refine hK _ _ ?_
              clear hK K
              refine wpAny_ready (rs := [7]) (by kernel_rfl) (by simp) ?_
              refine AllReady.cons rfl (fun K hK => ?_) AllReady.nil
              go_simp
              refine hK _ _ ?_
              clear hK K
              refine wpAny_take (i := 8) (v := .slice (some ⟨bb, off, none⟩) n c) rfl (by kernel_rfl) (by kernel_rfl) (by kernel_rfl) (fun _ _ _ h => h) (Or.inl ⟨by kernel_rfl, fun w => by go_simp⟩) ?_
              refine wpAny_take (i := 9) (v := .int .i64 ((j + 1 : Nat) : Int)) rfl (by kernel_rfl) (by kernel_rfl) (by kernel_rfl) (fun _ _ _ h => h) (Or.inl ⟨by kernel_rfl, fun w => by go_simp⟩) ?_
              refine wpAny_take (i := 10) (v := .int .i64 (j : Nat)) rfl (by kernel_rfl) (by kernel_rfl) (by kernel_rfl) (fun _ _ _ h => h) (Or.inl ⟨by kernel_rfl, fun w => by go_simp⟩) ?_
              refine wpAny_take (i := 11) (v := .pointer (some ⟨bb, off + j * 3, none⟩)) rfl (by kernel_rfl) (by kernel_rfl) (by kernel_rfl) (fun _ _ _ h => h) (Or.inl ⟨by kernel_rfl, fun w => by go_simp⟩) ?_
              refine wpAny_take (i := 12) (v := .pointer (some ⟨bb, off + j * 3 + 2, none⟩)) rfl (by kernel_rfl) (by kernel_rfl) (by kernel_rfl) (fun _ _ _ h => h) (Or.inl ⟨by kernel_rfl, fun w => by go_simp⟩) ?_
              refine wpAny_take (i := 14) (v := .pointer (some ⟨wr.heap.size, 1, none⟩)) rfl (by kernel_rfl) (by kernel_rfl) (by kernel_rfl) (fun _ _ _ h => h) (Or.inl ⟨by kernel_rfl, fun w => by go_simp⟩) ?_
              refine wpAny_ready (rs := [13, 15]) (by kernel_rfl) (by simp) ?_
              refine AllReady.cons rfl (fun K hK => ?_) (AllReady.cons rfl (fun K hK => ?_) AllReady.nil)
              · go_simp
                refine hK _ _ ?_
                clear hK K
                refine wpAny_ready (rs := [15]) (by kernel_rfl) (by simp) ?_
                refine AllReady.cons rfl (fun K hK => ?_) AllReady.nil
                go_simp
                refine hK _ _ ?_
                clear hK K
                refine wpAny_ready (rs := [16]) (by kernel_rfl) (by simp) ?_
                refine AllReady.cons rfl (fun K hK => ?_) AllReady.nil
                go_simp
                refine hK _ _ ?_
                clear hK K
                refine wpAny_ready (rs := [17]) (by kernel_rfl) (by simp) ?_
                refine AllReady.cons rfl (fun K hK => ?_) AllReady.nil
                go_simp
                refine hK _ _ ?_
                clear hK K
                refine wpAny_ready (rs := [18]) (by kernel_rfl) (by simp) ?_
                refine AllReady.cons rfl (fun K hK => ?_) AllReady.nil
                go_simp
                refine hK _ _ ?_
                clear hK K
                refine wpAny_done (by kernel_rfl) ?_ _
                go_wp2
                go_ret
                exact ⟨rfl, by rw [← HX.out]; exact bel.trans ((below_pl R2 belW).mono hXV)⟩
              · go_simp
                refine hK _ _ ?_
                clear hK K
                refine wpAny_ready (rs := [13]) (by kernel_rfl) (by simp) ?_
                refine AllReady.cons rfl (fun K hK => ?_) AllReady.nil
                go_simp
                refine hK _ _ ?_
                clear hK K
                refine wpAny_ready (rs := [16]) (by kernel_rfl) (by simp) ?_
                refine AllReady.cons rfl (fun K hK => ?_) AllReady.nil
                go_simp
                refine hK _ _ ?_
                clear hK K
                refine wpAny_ready (rs := [17]) (by kernel_rfl) (by simp) ?_
                refine AllReady.cons rfl (fun K hK => ?_) AllReady.nil
                go_simp
                refine hK _ _ ?_
                clear hK K
                refine wpAny_ready (rs := [18]) (by kernel_rfl) (by simp) ?_
                refine AllReady.cons rfl (fun K hK => ?_) AllReady.nil
                go_simp
                refine hK _ _ ?_
                clear hK K
                refine wpAny_done (by kernel_rfl) ?_ _
                go_wp2
                go_ret
                exact ⟨rfl, by rw [← HX.out]; exact bel.trans ((below_pl R2 belW).mono hXV)⟩
            · go_simp
              refine hK _ _ ?_
              clear hK K
              refine wpAny_ready (rs := [0]) (by kernel_rfl) (by simp) ?_
              refine AllReady.cons rfl (fun K hK => ?_) AllReady.nil
              go_simp
              refine hK _ _ ?_
              clear hK K
              clear x0 x1 x2 x3 x4 x5 x6 x7 x8 y0 y1 y2 z2'
              refine wpAny_ready (rs := [2]) (by kernel_rfl) (by simp) ?_
              refine AllReady.cons rfl (fun K hK => ?_) AllReady.nil
              go_simp
              go_wp2_with (first | (go_at_call 76; refine (may_any s v0 v1 v2 v3 P true _ HM.out).mono ?_; rintro e w1 ⟨rfl, hb1⟩; have R2 := below_pl hb1 R1; obtain ⟨x0, x1, x2, x3, x4, x5, x6, x7, x8, y0, y1, y2, z2'⟩ := HS.out _ R2; clear hb1))
              refine wpAny_ready (rs := [3]) (by kernel_rfl) (by simp) ?_
              refine AllReady.cons rfl (fun K hK => ?_) AllReady.nil
              go_simp
              refine hK _ _ ?_
              clear hK K
              refine wpAny_ready (rs := [4]) (by kernel_rfl) (by simp) ?_
              refine AllReady.cons rfl (fun K hK => ?_) AllReady.nil
              go_simp
              refine hK _ _ ?_
              clear hK K
              refine wpAny_ready (rs := [5]) (by kernel_rfl) (by simp) ?_
              refine AllReady.cons rfl (fun K hK => ?_) AllReady.nil
              go_simp
              refine hK _ _ ?_
              clear hK K
              refine wpAny_ready (rs := [6]) (by kernel_rfl) (by simp) ?_
              refine AllReady.cons rfl (fun K hK => ?_) AllReady.nil
              go_simp
              refine hK _ _ ?_
              clear hK K
              refine wpAny_ready (rs := [7]) (by kernel_rfl) (by simp) ?_
              refine AllReady.cons rfl (fun K hK => ?_) AllReady.nil
              go_simp
              refine hK _ _ ?_
              clear hK K
              refine wpAny_take (i := 8) (v := .slice (some ⟨bb, off, none⟩) n c) rfl (by kernel_rfl) (by kernel_rfl) (by kernel_rfl) (fun _ _ _ h => h) (Or.inl ⟨by kernel_rfl, fun w => by go_simp⟩) ?_
              refine wpAny_take (i := 9) (v := .int .i64 ((j + 1 : Nat) : Int)) rfl (by kernel_rfl) (by kernel_rfl) (by kernel_rfl) (fun _ _ _ h => h) (Or.inl ⟨by kernel_rfl, fun w => by go_simp⟩) ?_
              refine wpAny_take (i := 10) (v := .int .i64 (j : Nat)) rfl (by kernel_rfl) (by kernel_rfl) (by kernel_rfl) (fun _ _ _ h => h) (Or.inl ⟨by kernel_rfl, fun w => by go_simp⟩) ?_
              refine wpAny_take (i := 11) (v := .pointer (some ⟨bb, off + j * 3, none⟩)) rfl (by kernel_rfl) (by kernel_rfl) (by kernel_rfl) (fun _ _ _ h => h) (Or.inl ⟨by kernel_rfl, fun w => by go_simp⟩) ?_
              refine wpAny_take (i := 12) (v := .pointer (some ⟨bb, off + j * 3 + 2, none⟩)) rfl (by kernel_rfl) (by kernel_rfl) (by kernel_rfl) (fun _ _ _ h => h) (Or.inl ⟨by kernel_rfl, fun w => by go_simp⟩) ?_
              refine wpAny_take (i := 14) (v := .pointer (some ⟨wr.heap.size, 1, none⟩)) rfl (by kernel_rfl) (by kernel_rfl) (by kernel_rfl) (fun _ _ _ h => h) (Or.inl ⟨by kernel_rfl, fun w => by go_simp⟩) ?_
              refine wpAny_ready (rs := [13, 15]) (by kernel_rfl) (by simp) ?_
              refine AllReady.cons rfl (fun K hK => ?_) (AllReady.cons rfl (fun K hK => ?_) AllReady.nil)
              · go_simp
                refine hK _ _ ?_
                clear hK K
                refine wpAny_ready (rs := [15]) (by kernel_rfl) (by simp) ?_
                refine AllReady.cons rfl (fun K hK => ?_) AllReady.nil
                go_simp
                refine hK _ _ ?_
                clear hK K
                refine wpAny_ready (rs := [16]) (by kernel_rfl) (by simp) ?_
                refine AllReady.cons rfl (fun K hK => ?_) AllReady.nil
                go_simp
                refine hK _ _ ?_
                clear hK K
                refine wpAny_ready (rs := [17]) (by kernel_rfl) (by simp) ?_
                refine AllReady.cons rfl (fun K hK => ?_) AllReady.nil
                go_simp
                refine hK _ _ ?_
                clear hK K
                refine wpAny_ready (rs := [18]) (by kernel_rfl) (by simp) ?_
                refine AllReady.cons rfl (fun K hK => ?_) AllReady.nil
                go_simp
                refine hK _ _ ?_
                clear hK K
                refine wpAny_done (by kernel_rfl) ?_ _
                go_wp2
                go_ret
                exact ⟨rfl, by rw [← HX.out]; exact bel.trans ((below_pl R2 belW).mono hXV)⟩
              · go_simp
                refine hK _ _ ?_
                clear hK K
                refine wpAny_ready (rs := [13]) (by kernel_rfl) (by simp) ?_
                refine AllReady.cons rfl (fun K hK => ?_) AllReady.nil
                go_simp
                refine hK _ _ ?_
                clear hK K
                refine wpAny_ready (rs := [16]) (by kernel_rfl) (by simp) ?_
                refine AllReady.cons rfl (fun K hK => ?_) AllReady.nil
                go_simp
                refine hK _ _ ?_
                clear hK K
                refine wpAny_ready (rs := [17]) (by kernel_rfl) (by simp) ?_
                refine AllReady.cons rfl (fun K hK => ?_) AllReady.nil
                go_simp
                refine hK _ _ ?_
                clear hK K
                refine wpAny_ready (rs := [18]) (by kernel_rfl) (by simp) ?_
                refine AllReady.cons rfl (fun K hK => ?_) AllReady.nil
                go_simp
                refine hK _ _ ?_
                clear hK K
                refine wpAny_done (by kernel_rfl) ?_ _
                go_wp2
                go_ret
                exact ⟨rfl, by rw [← HX.out]; exact bel.trans ((below_pl R2 belW).mono hXV)⟩
    · have e : b = true := by
        rw [HB.out, Grain.fol_iff]
        intro i hi
        exact HO.out i (by have := HN.out; omega)
      subst e
      go_wp2
      go_ret
      exact ⟨rfl, by rw [← HX.out]; exact bel.trans (belr.mono hXV)⟩

end Go.Proofs.Ytfgablhgjbjbkae

/-
  The walks of plan's buckets and next.
-/
namespace Go.Proofs.Ytfgablhgjbjbkae
open Go.RowKit Go.GrainU

def pv (p : Grain.Pt) : Value := .agg #[.int .i64 p.k, .int .i64 p.f, .int .i64 p.t]

theorem three_thaw {w : World} {B : Nat} {x0 x1 x2 : Value} {t : TypeId} (h : w.heap[B]? = some (.cells #[x0, x1, x2] t (0, 0))) :
    w.frozen? ⟨B, 0, none⟩ = false ∧ w.frozen? ⟨B, 1, none⟩ = false ∧ w.frozen? ⟨B, 2, none⟩ = false := by
  simp [World.frozen?, h]

theorem below_set3 {w W : World} {A C : Nat} (bel : Below A w W) (hC : A ≤ C) (u0 u1 u2 : Value) : Below A w (((W.setCell ⟨C, 0, none⟩ u0).setCell ⟨C, 1, none⟩ u1).setCell ⟨C, 2, none⟩ u2) :=
  ((bel.setCell hC u0).setCell hC u1).setCell hC u2

set_option maxRecDepth 20000 in
set_option maxHeartbeats 4000000 in
theorem buckets2_any (s : Grain.Shf) (v0 v1 v2 v3 : Value) (a t : Int) (p : Grain.Pt) (w : World) (ha : 0 ≤ a) (hat : a ≤ 1000000) (h0 : 0 ≤ t) (ht : t ≤ 1000000) (hc0 : 0 ≤ s.cf) (hc1 : s.cf ≤ 1000000) (hc2 : 0 ≤ s.ct) (hc3 : s.ct ≤ 1000000) (hp : p = Grain.bks 2 s.cf s.ct 60 a t) :
    Calls Try.prog 101 #[.agg #[v0, v1, v2, v3, .int .i64 s.rf, .int .i64 s.ff, .int .i64 s.ft, .int .i64 s.cf, .int .i64 s.ct], .int .i64 2, .int .i64 a, .int .i64 t] w fun e w' => e = .returned (.agg #[.int .i64 p.k, .int .i64 p.f, .int .i64 p.t]) ∧ Below w.heap.size w w' := by
  have HP := hide hp
  clear hp
  obtain ⟨X, hX⟩ : ∃ X, X = w.heap.size := ⟨_, rfl⟩
  obtain ⟨V, hV⟩ : ∃ V, V = (w.alloc (.cells #[v0, v1, v2, v3, .int .i64 s.rf, .int .i64 s.ff, .int .i64 s.ft, .int .i64 s.cf, .int .i64 s.ct] 44)).alloc (.cells #[.int .i64 0, .int .i64 0, .int .i64 0] 112) := ⟨_, rfl⟩
  have bel : Below w.heap.size w V := by rw [hV]; exact ((Below.refl _ _).alloc (Nat.le_refl _) _).alloc (by simp) _
  have S0 : V.heap[X]? = some (sbl v0 v1 v2 v3 s) := by rw [hV, hX, Below.heap_alloc _ _ _ (by simp)]; exact heap_alloc_new w _
  have Z0 : V.heap[X + 1]? = some (.cells #[.int .i64 0, .int .i64 0, .int .i64 0] 112 (0, 0)) := by
    rw [hV, hX]; have := heap_alloc_new (w.alloc (.cells #[v0, v1, v2, v3, .int .i64 s.rf, .int .i64 s.ff, .int .i64 s.ft, .int .i64 s.cf, .int .i64 s.ct] 44)) (.cells #[.int .i64 0, .int .i64 0, .int .i64 0] 112); rwa [World.size_alloc] at this
  have HV := hide hV
  have HX := hide hX
  obtain ⟨x0, x1, x2, x3, x4, x5, x6, x7, x8⟩ := nine9 S0
  obtain ⟨z0, z1, z2⟩ := three3 Z0
  obtain ⟨f0, f1, f2⟩ := three_thaw Z0
  clear hV hX
  go_enter Try.func101, Try.ntmps101
  go_wp2_with fail
  rw [← HV.out, ← HX.out]
  go_quiet (fail)
  go_wp2_with fail
  go_quiet (fail)
  go_wp2_with fail
  refine (step_any _ _).mono ?_
  rintro e w1 ⟨rfl, rfl⟩
  simp only [stepOf]
  go_wp2_with fail
  go_region
  all_goals go_wp2_with fail
  all_goals
    first
      | (have e1 : max a s.cf = a := (by omega); have e2 : min t s.ct = t := (by omega); have e : p = ⟨2, (a + 60 - 1) / 60 * 60, t / 60 * 60⟩ := (by rw [HP.out]; unfold Grain.bks; rw [e1, e2]); subst e; exact bodyPost_ret (v := .agg #[.int .i64 2, .int .i64 ((a + 60 - 1) / 60 * 60), .int .i64 (t / 60 * 60)]) (by simp [results, Try.results101, go_sem, z0, z1, z2]) rfl ⟨rfl, below_set3 (below_drewN bel _) (by have := HX.out; omega) _ _ _⟩)
      | (have e1 : max a s.cf = a := (by omega); have e2 : min t s.ct = s.ct := (by omega); have e : p = ⟨2, (a + 60 - 1) / 60 * 60, s.ct / 60 * 60⟩ := (by rw [HP.out]; unfold Grain.bks; rw [e1, e2]); subst e; exact bodyPost_ret (v := .agg #[.int .i64 2, .int .i64 ((a + 60 - 1) / 60 * 60), .int .i64 (s.ct / 60 * 60)]) (by simp [results, Try.results101, go_sem, z0, z1, z2]) rfl ⟨rfl, below_set3 (below_drewN bel _) (by have := HX.out; omega) _ _ _⟩)
      | (have e1 : max a s.cf = s.cf := (by omega); have e2 : min t s.ct = t := (by omega); have e : p = ⟨2, (s.cf + 60 - 1) / 60 * 60, t / 60 * 60⟩ := (by rw [HP.out]; unfold Grain.bks; rw [e1, e2]); subst e; exact bodyPost_ret (v := .agg #[.int .i64 2, .int .i64 ((s.cf + 60 - 1) / 60 * 60), .int .i64 (t / 60 * 60)]) (by simp [results, Try.results101, go_sem, z0, z1, z2]) rfl ⟨rfl, below_set3 (below_drewN bel _) (by have := HX.out; omega) _ _ _⟩)
      | (have e1 : max a s.cf = s.cf := (by omega); have e2 : min t s.ct = s.ct := (by omega); have e : p = ⟨2, (s.cf + 60 - 1) / 60 * 60, s.ct / 60 * 60⟩ := (by rw [HP.out]; unfold Grain.bks; rw [e1, e2]); subst e; exact bodyPost_ret (v := .agg #[.int .i64 2, .int .i64 ((s.cf + 60 - 1) / 60 * 60), .int .i64 (s.ct / 60 * 60)]) (by simp [results, Try.results101, go_sem, z0, z1, z2]) rfl ⟨rfl, below_set3 (below_drewN bel _) (by have := HX.out; omega) _ _ _⟩)

set_option maxRecDepth 20000 in
set_option maxHeartbeats 4000000 in
theorem buckets1_any (s : Grain.Shf) (v0 v1 v2 v3 : Value) (a t : Int) (p : Grain.Pt) (w : World) (ha : 0 ≤ a) (hat : a ≤ 1000000) (h0 : 0 ≤ t) (ht : t ≤ 1000000) (hc0 : 0 ≤ s.ff) (hc1 : s.ff ≤ 1000000) (hc2 : 0 ≤ s.ft) (hc3 : s.ft ≤ 1000000) (hp : p = Grain.bks 1 s.ff s.ft 10 a t) :
    Calls Try.prog 101 #[.agg #[v0, v1, v2, v3, .int .i64 s.rf, .int .i64 s.ff, .int .i64 s.ft, .int .i64 s.cf, .int .i64 s.ct], .int .i64 1, .int .i64 a, .int .i64 t] w fun e w' => e = .returned (.agg #[.int .i64 p.k, .int .i64 p.f, .int .i64 p.t]) ∧ Below w.heap.size w w' := by
  have HP := hide hp
  clear hp
  obtain ⟨X, hX⟩ : ∃ X, X = w.heap.size := ⟨_, rfl⟩
  obtain ⟨V, hV⟩ : ∃ V, V = (w.alloc (.cells #[v0, v1, v2, v3, .int .i64 s.rf, .int .i64 s.ff, .int .i64 s.ft, .int .i64 s.cf, .int .i64 s.ct] 44)).alloc (.cells #[.int .i64 0, .int .i64 0, .int .i64 0] 112) := ⟨_, rfl⟩
  have bel : Below w.heap.size w V := by rw [hV]; exact ((Below.refl _ _).alloc (Nat.le_refl _) _).alloc (by simp) _
  have S0 : V.heap[X]? = some (sbl v0 v1 v2 v3 s) := by rw [hV, hX, Below.heap_alloc _ _ _ (by simp)]; exact heap_alloc_new w _
  have Z0 : V.heap[X + 1]? = some (.cells #[.int .i64 0, .int .i64 0, .int .i64 0] 112 (0, 0)) := by
    rw [hV, hX]; have := heap_alloc_new (w.alloc (.cells #[v0, v1, v2, v3, .int .i64 s.rf, .int .i64 s.ff, .int .i64 s.ft, .int .i64 s.cf, .int .i64 s.ct] 44)) (.cells #[.int .i64 0, .int .i64 0, .int .i64 0] 112); rwa [World.size_alloc] at this
  have HV := hide hV
  have HX := hide hX
  obtain ⟨x0, x1, x2, x3, x4, x5, x6, x7, x8⟩ := nine9 S0
  obtain ⟨z0, z1, z2⟩ := three3 Z0
  obtain ⟨f0, f1, f2⟩ := three_thaw Z0
  clear hV hX
  go_enter Try.func101, Try.ntmps101
  go_wp2_with fail
  rw [← HV.out, ← HX.out]
  go_quiet (fail)
  go_wp2_with fail
  refine (step_any _ _).mono ?_
  rintro e w1 ⟨rfl, rfl⟩
  simp only [stepOf]
  go_wp2_with fail
  go_region
  all_goals go_wp2_with fail
  all_goals
    first
      | (have e1 : max a s.ff = a := (by omega); have e2 : min t s.ft = t := (by omega); have e : p = ⟨1, (a + 10 - 1) / 10 * 10, t / 10 * 10⟩ := (by rw [HP.out]; unfold Grain.bks; rw [e1, e2]); subst e; exact bodyPost_ret (v := .agg #[.int .i64 1, .int .i64 ((a + 10 - 1) / 10 * 10), .int .i64 (t / 10 * 10)]) (by simp [results, Try.results101, go_sem, z0, z1, z2]) rfl ⟨rfl, below_set3 (below_drewN bel _) (by have := HX.out; omega) _ _ _⟩)
      | (have e1 : max a s.ff = a := (by omega); have e2 : min t s.ft = s.ft := (by omega); have e : p = ⟨1, (a + 10 - 1) / 10 * 10, s.ft / 10 * 10⟩ := (by rw [HP.out]; unfold Grain.bks; rw [e1, e2]); subst e; exact bodyPost_ret (v := .agg #[.int .i64 1, .int .i64 ((a + 10 - 1) / 10 * 10), .int .i64 (s.ft / 10 * 10)]) (by simp [results, Try.results101, go_sem, z0, z1, z2]) rfl ⟨rfl, below_set3 (below_drewN bel _) (by have := HX.out; omega) _ _ _⟩)
      | (have e1 : max a s.ff = s.ff := (by omega); have e2 : min t s.ft = t := (by omega); have e : p = ⟨1, (s.ff + 10 - 1) / 10 * 10, t / 10 * 10⟩ := (by rw [HP.out]; unfold Grain.bks; rw [e1, e2]); subst e; exact bodyPost_ret (v := .agg #[.int .i64 1, .int .i64 ((s.ff + 10 - 1) / 10 * 10), .int .i64 (t / 10 * 10)]) (by simp [results, Try.results101, go_sem, z0, z1, z2]) rfl ⟨rfl, below_set3 (below_drewN bel _) (by have := HX.out; omega) _ _ _⟩)
      | (have e1 : max a s.ff = s.ff := (by omega); have e2 : min t s.ft = s.ft := (by omega); have e : p = ⟨1, (s.ff + 10 - 1) / 10 * 10, s.ft / 10 * 10⟩ := (by rw [HP.out]; unfold Grain.bks; rw [e1, e2]); subst e; exact bodyPost_ret (v := .agg #[.int .i64 1, .int .i64 ((s.ff + 10 - 1) / 10 * 10), .int .i64 (s.ft / 10 * 10)]) (by simp [results, Try.results101, go_sem, z0, z1, z2]) rfl ⟨rfl, below_set3 (below_drewN bel _) (by have := HX.out; omega) _ _ _⟩)

set_option maxRecDepth 20000 in
set_option maxHeartbeats 4000000 in
theorem next_any (s : Grain.Shf) (v0 v1 v2 v3 : Value) (a t : Int) (p : Grain.Pt) (w : World) (sr : Grain.SR s) (ha : 0 ≤ a) (hat : a < t) (ht : t ≤ 1000000) (hp : p = Grain.nxr s a t) :
    Calls Try.prog 75 #[.agg #[v0, v1, v2, v3, .int .i64 s.rf, .int .i64 s.ff, .int .i64 s.ft, .int .i64 s.cf, .int .i64 s.ct], .int .i64 a, .int .i64 t] w fun e w' => e = .returned (.agg #[.int .i64 p.k, .int .i64 p.f, .int .i64 p.t]) ∧ Below w.heap.size w w' := by
  have HP := hide hp
  obtain ⟨sf1, sf2, sf3, sf4, sf5⟩ := sr.fsp
  obtain ⟨sc1, sc2, sc3, sc4, sc5⟩ := sr.csp
  clear hp sr
  obtain ⟨X, hX⟩ : ∃ X, X = w.heap.size := ⟨_, rfl⟩
  obtain ⟨V, hV⟩ : ∃ V, V = (w.alloc (.cells #[v0, v1, v2, v3, .int .i64 s.rf, .int .i64 s.ff, .int .i64 s.ft, .int .i64 s.cf, .int .i64 s.ct] 44)).alloc (.cells #[.int .i64 0, .int .i64 0, .int .i64 0] 112) := ⟨_, rfl⟩
  have bel : Below X w V := by rw [hV, hX]; exact ((Below.refl _ _).alloc (Nat.le_refl _) _).alloc (by simp) _
  have S0 : V.heap[X]? = some (sbl v0 v1 v2 v3 s) := by rw [hV, hX, Below.heap_alloc _ _ _ (by simp)]; exact heap_alloc_new w _
  have Z0 : V.heap[X + 1]? = some (.cells #[.int .i64 0, .int .i64 0, .int .i64 0] 112 (0, 0)) := by
    rw [hV, hX]; have := heap_alloc_new (w.alloc (.cells #[v0, v1, v2, v3, .int .i64 s.rf, .int .i64 s.ff, .int .i64 s.ft, .int .i64 s.cf, .int .i64 s.ct] 44)) (.cells #[.int .i64 0, .int .i64 0, .int .i64 0] 112); rwa [World.size_alloc] at this
  have hXV : X ≤ V.heap.size := by rw [hX]; exact bel.size
  have HV := hide hV
  have HX := hide hX
  clear hV hX
  have hi0 : ∀ w, Sem.run Try.prog (Instr.index 139 (Value.agg #[.int .i64 2, .int .i64 1]) (.int .i64 0)) w = .ok (.int .i64 2) w := fun w => by
    simp [Instr.index, run_underlying Try.underlying139, asIntOf, go_sem]
  have hi1 : ∀ w, Sem.run Try.prog (Instr.index 139 (Value.agg #[.int .i64 2, .int .i64 1]) (.int .i64 1)) w = .ok (.int .i64 1) w := fun w => by
    simp [Instr.index, run_underlying Try.underlying139, asIntOf, go_sem]
  go_enter Try.func75, Try.ntmps75
  go_wp2
  rw [← HV.out, ← HX.out]
  go_loopw [2, 11] (fun b i wr => Below V.heap.size V wr ∧ (i = .int .i64 0 ∧ b = .int .i64 t ∨ i = .int .i64 1 ∧ (∃ e : Int, b = .int .i64 e ∧ a < e ∧ e ≤ 1000000 ∧ Hid (p = Grain.nx2 s a e)) ∨ i = .int .i64 2 ∧ ∃ e : Int, b = .int .i64 e ∧ Hid (p = ⟨0, a, e⟩))) (fun _ i _ => 2 - (intOf i).toNat)
  case atStart => exact ⟨Below.refl _ _, .inl ⟨rfl, rfl⟩⟩
  case round =>
    obtain ⟨belr, hcase⟩ := hrel
    have S1 := below_block belr S0
    have Z1 := below_block belr Z0
    obtain ⟨x0, x1, x2, x3, x4, x5, x6, x7, x8⟩ := nine9 S1
    have Xl : X < wr.heap.size := lt_of_block S1
    have Xl1 : X + 1 < wr.heap.size := lt_of_block Z1
    rcases hcase with ⟨rfl, rfl⟩ | ⟨rfl, e, rfl, he1, he2, HE⟩ | ⟨rfl, e, rfl, HE⟩
    · obtain ⟨c, hc⟩ : ∃ c, c = Grain.bks 2 s.cf s.ct 60 a t := ⟨_, rfl⟩
      have hcb : a ≤ c.f ∧ (c.f < c.t → c.t ≤ t) := by rw [hc]; unfold Grain.bks; simp only; omega
      have HCALL := hide (buckets2_any s v0 v1 v2 v3 a t c wr ha (by omega) (by omega) ht (by omega) (by omega) (by omega) (by omega) hc)
      have HCC := hide hc
      clear hc
      go_wp2_with fail
      refine HCALL.out.mono ?_
      rintro q w1 ⟨rfl, hb1⟩
      obtain ⟨W, hW⟩ : ∃ W, W = w1.alloc (.cells #[.int .i64 c.k, .int .i64 c.f, .int .i64 c.t] 112) := ⟨_, rfl⟩
      have hbW : Below w1.heap.size w1 W := by rw [hW]; exact (Below.refl _ _).alloc (Nat.le_refl _) _
      have belW : Below V.heap.size V W := below_pl hbW (below_pl hb1 belr)
      have P0 : W.heap[w1.heap.size]? = some (.cells #[.int .i64 c.k, .int .i64 c.f, .int .i64 c.t] 112 (0, 0)) := by rw [hW]; exact heap_alloc_new w1 _
      have Z2 := below_block belW Z0
      have P0' := P0
      rw [hW] at P0'
      have Z2' := Z2
      rw [hW] at Z2'
      obtain ⟨y0, y1, y2⟩ := three3 P0'
      obtain ⟨z0, z1, z2⟩ := three3 Z2'
      obtain ⟨f0, f1, f2⟩ := three_thaw Z2'
      have HW := hide hW
      clear hW x0 x1 x2 x3 x4 x5 x6 x7 x8 hb1 hbW P0' Z2' HCALL
      by_cases h1 : c.t ≤ c.f
      · have HN : Hid (p = Grain.nx2 s a t) := by show _ = _; rw [HP.out]; unfold Grain.nxr; rw [← HCC.out, if_pos h1]
        go_wp2_with fail
        go_roundw
        case rel => rw [← HW.out]; exact ⟨belW, .inr (.inl ⟨rfl, t, rfl, hat, ht, HN⟩)⟩
        case measure => simp [intOf]
      · by_cases h2 : c.f = a
        · have hpe : p = c := by rw [HP.out]; unfold Grain.nxr; rw [← HCC.out, if_neg h1, if_pos h2]
          have e2 : (c.f == a) = true := by rw [h2]; simp
          have HPC := hide hpe
          have HA := hide h2
          have HFIN : Hid (Below w.heap.size w (((W.setCell ⟨X + 1, 0, none⟩ (.int .i64 c.k)).setCell ⟨X + 1, 1, none⟩ (.int .i64 c.f)).setCell ⟨X + 1, 2, none⟩ (.int .i64 c.t))) := by rw [← HX.out]; exact below_set3 (bel.trans (belW.mono hXV)) (Nat.le_succ _) _ _ _
          rw [HW.out] at HFIN
          clear h2 hpe
          go_wp2
          exact bodyPost_ret (v := .agg #[.int .i64 c.k, .int .i64 c.f, .int .i64 c.t]) (by simp [results, Try.results75, go_sem, z0, z1, z2]) rfl ⟨by rw [HPC.out], HFIN.out⟩
        · have e2 : (c.f == a) = false := by simpa using h2
          have HN : Hid (p = Grain.nx2 s a c.f) := by show _ = _; rw [HP.out]; unfold Grain.nxr; rw [← HCC.out, if_neg h1, if_neg h2]
          have hlt : a < c.f := by omega
          have hle : c.f ≤ 1000000 := by have := hcb.2 (by omega); omega
          clear h2
          go_wp2_with fail
          go_roundw
          case rel => rw [← HW.out]; exact ⟨belW, .inr (.inl ⟨rfl, c.f, rfl, hlt, hle, HN⟩)⟩
          case measure => simp [intOf]

    · obtain ⟨c, hc⟩ : ∃ c, c = Grain.bks 1 s.ff s.ft 10 a e := ⟨_, rfl⟩
      have hcb : a ≤ c.f ∧ (c.f < c.t → c.t ≤ e) := by rw [hc]; unfold Grain.bks; simp only; omega
      have HCALL := hide (buckets1_any s v0 v1 v2 v3 a e c wr ha (by omega) (by omega) he2 (by omega) (by omega) (by omega) (by omega) hc)
      have HCC := hide hc
      clear hc
      go_wp2_with fail
      refine HCALL.out.mono ?_
      rintro q w1 ⟨rfl, hb1⟩
      obtain ⟨W, hW⟩ : ∃ W, W = w1.alloc (.cells #[.int .i64 c.k, .int .i64 c.f, .int .i64 c.t] 112) := ⟨_, rfl⟩
      have hbW : Below w1.heap.size w1 W := by rw [hW]; exact (Below.refl _ _).alloc (Nat.le_refl _) _
      have belW : Below V.heap.size V W := below_pl hbW (below_pl hb1 belr)
      have P0 : W.heap[w1.heap.size]? = some (.cells #[.int .i64 c.k, .int .i64 c.f, .int .i64 c.t] 112 (0, 0)) := by rw [hW]; exact heap_alloc_new w1 _
      have Z2 := below_block belW Z0
      have P0' := P0
      rw [hW] at P0'
      have Z2' := Z2
      rw [hW] at Z2'
      obtain ⟨y0, y1, y2⟩ := three3 P0'
      obtain ⟨z0, z1, z2⟩ := three3 Z2'
      obtain ⟨f0, f1, f2⟩ := three_thaw Z2'
      have HW := hide hW
      clear hW x0 x1 x2 x3 x4 x5 x6 x7 x8 hb1 hbW P0' Z2' HCALL
      by_cases h1 : c.t ≤ c.f
      · have HN : Hid (p = ⟨0, a, e⟩) := by show _ = _; rw [HE.out]; unfold Grain.nx2; rw [← HCC.out, if_pos h1]
        go_wp2_with fail
        go_roundw
        case rel => rw [← HW.out]; exact ⟨belW, .inr (.inr ⟨rfl, e, rfl, HN⟩)⟩
        case measure => simp [intOf]
      · by_cases h2 : c.f = a
        · have hpe : p = c := by rw [HE.out]; unfold Grain.nx2; rw [← HCC.out, if_neg h1, if_pos h2]
          have e2 : (c.f == a) = true := by rw [h2]; simp
          have HPC := hide hpe
          have HA := hide h2
          have HFIN : Hid (Below w.heap.size w (((W.setCell ⟨X + 1, 0, none⟩ (.int .i64 c.k)).setCell ⟨X + 1, 1, none⟩ (.int .i64 c.f)).setCell ⟨X + 1, 2, none⟩ (.int .i64 c.t))) := by rw [← HX.out]; exact below_set3 (bel.trans (belW.mono hXV)) (Nat.le_succ _) _ _ _
          rw [HW.out] at HFIN
          clear h2 hpe
          go_wp2
          exact bodyPost_ret (v := .agg #[.int .i64 c.k, .int .i64 c.f, .int .i64 c.t]) (by simp [results, Try.results75, go_sem, z0, z1, z2]) rfl ⟨by rw [HPC.out], HFIN.out⟩
        · have e2 : (c.f == a) = false := by simpa using h2
          have HN : Hid (p = ⟨0, a, c.f⟩) := by show _ = _; rw [HE.out]; unfold Grain.nx2; rw [← HCC.out, if_neg h1, if_neg h2]
          clear h2
          go_wp2_with fail
          go_roundw
          case rel => rw [← HW.out]; exact ⟨belW, .inr (.inr ⟨rfl, c.f, rfl, HN⟩)⟩
          case measure => simp [intOf]

    · have hpe := HE.out
      subst hpe
      obtain ⟨z0, z1, z2⟩ := three3 Z1
      obtain ⟨f0, f1, f2⟩ := three_thaw Z1
      clear HE HP
      go_wp2
      exact bodyPost_ret (v := .agg #[.int .i64 0, .int .i64 a, .int .i64 e]) (by simp [results, Try.results75, go_sem, z0, z1, z2]) rfl ⟨rfl, by rw [← HX.out]; exact below_set3 (bel.trans (belr.mono hXV)) (Nat.le_succ _) _ _ _⟩

end Go.Proofs.Ytfgablhgjbjbkae

/-
  Parts of the caller's own.
-/
namespace Go.Proofs.Ytfgablhgjbjbkae
open Go.RowKit Go.GrainU

/-- what put answers: parts in memory of the caller's own -/
def PPost (base : Nat) (v : Value) (w : World) (Y : List Grain.Pt) (e : Ending) (w' : World) : Prop :=
  ∃ g n' cap', e = .returned (.slice (some ⟨g, 0, none⟩) n' cap') ∧ w'.ownsRow base 112 3 (.slice (some ⟨g, 0, none⟩) n' cap') n' (pcells Y) ∧ w.grownBy w' v.ownBlock

/-- the cells of the last part of an owned row -/
theorem own_plast {w : World} {base e g n cap : Nat} {R : List Grain.Pt} {b : Grain.Pt} (h : w.ownsRow base e 3 (.slice (some ⟨g, 0, none⟩) n cap) n (pcells (R ++ [b]))) : Cells3 w g (R.length * 3) b := by
  obtain ⟨bb, off, e1, _, hc⟩ := seg_part (own_seg h) (k := R.length) (by simp)
  simp at e1
  obtain ⟨rfl, rfl⟩ := e1
  have := hc R.length (by simp)
  rw [Nat.zero_add] at this
  have eb : Grain.pt (R ++ [b]) R.length = b := by simp [Grain.pt]
  rw [eb] at this
  exact this

end Go.Proofs.Ytfgablhgjbjbkae

/-
  The walk of plan's Choose.
-/
namespace Go.Proofs.Ytfgablhgjbjbkae
open Go.RowKit Go.GrainU

set_option maxRecDepth 20000 in
set_option maxHeartbeats 4000000 in
theorem choose_any (x : ShT) (f t : Int) (r : List Grain.Pt × Int) (w : World) (hx : ShIn w x) (hr : r = Grain.choose x.s f t) :
    Calls Try.prog 30 #[x.v, .int .i64 f, .int .i64 t] w fun e w' => ∃ (co : Option Addr) (m d : Nat), e = .returned (.tuple #[.slice co m d, .int .i64 r.2]) ∧ w'.ownsRow w.heap.size 112 3 (.slice co m d) m (pcells r.1) ∧ m ≤ 1000000 ∧ Below w.heap.size w w' := by
  have HR := hide hr
  clear hr
  obtain ⟨X, hX⟩ : ∃ X, X = w.heap.size := ⟨_, rfl⟩
  obtain ⟨V, hV⟩ : ∃ V, V = w.alloc (so x) := ⟨_, rfl⟩
  have bel : Below w.heap.size w V := by rw [hV]; exact (Below.refl _ _).alloc (Nat.le_refl _) _
  have S0 : V.heap[X]? = some (so x) := by rw [hV, hX]; exact heap_alloc_new w _
  have hxV := hx.below bel
  have HV : Hid (V = w.alloc (.cells #[.slice x.a0 x.s.se.length x.c0, .slice x.a1 x.s.ra.length x.c1, .slice x.a2 x.s.fi.length x.c2, .slice x.a3 x.s.co.length x.c3, .int .i64 x.s.rf, .int .i64 x.s.ff, .int .i64 x.s.ft, .int .i64 x.s.cf, .int .i64 x.s.ct] 44)) := hV
  have HX := hide hX
  have Hv : Hid (x.v = .agg #[.slice x.a0 x.s.se.length x.c0, .slice x.a1 x.s.ra.length x.c1, .slice x.a2 x.s.fi.length x.c2, .slice x.a3 x.s.co.length x.c3, .int .i64 x.s.rf, .int .i64 x.s.ff, .int .i64 x.s.ft, .int .i64 x.s.cf, .int .i64 x.s.ct]) := rfl
  obtain ⟨E, hE⟩ : ∃ E, E = Grain.swrong x.s := ⟨_, rfl⟩
  have HE := hide hE
  have hXV : X < V.heap.size := lt_of_block S0
  clear hV hX hE hx
  rw [Hv.out]
  go_enter Try.func30, Try.ntmps30
  go_wp2_with fail
  rw [← HV.out, ← Hv.out]
  refine (swrong_any x V hxV).mono ?_
  rintro e w1 ⟨rfl, hb1⟩
  rw [← HE.out]
  have bel1 : Below w.heap.size w w1 := below_pl hb1 bel
  have S1 := below_block hb1 S0
  by_cases hw : E = 0
  · subst hw
    by_cases h1 : f < 0
    · have e : r = ([], 3) := by rw [HR.out, Grain.choose, if_neg (by simp [← HE.out]), if_pos (.inl h1)]
      subst e
      go_wp2
      exact bodyPost_ret (v := .tuple #[.slice none 0 0, .int .i64 3]) (by simp [results, Try.results30, go_sem]) rfl ⟨none, 0, 0, rfl, World.ownsRow_nil _ _ _ _, by omega, bel1⟩
    · by_cases h2 : t < f
      · have e : r = ([], 3) := by rw [HR.out, Grain.choose, if_neg (by simp [← HE.out]), if_pos (.inr (.inl h2))]
        subst e
        go_wp2
        exact bodyPost_ret (v := .tuple #[.slice none 0 0, .int .i64 3]) (by simp [results, Try.results30, go_sem]) rfl ⟨none, 0, 0, rfl, World.ownsRow_nil _ _ _ _, by omega, bel1⟩
      · by_cases h3 : 1000000 < t
        · have e : r = ([], 3) := by rw [HR.out, Grain.choose, if_neg (by simp [← HE.out]), if_pos (.inr (.inr h3))]
          subst e
          go_wp2
          exact bodyPost_ret (v := .tuple #[.slice none 0 0, .int .i64 3]) (by simp [results, Try.results30, go_sem]) rfl ⟨none, 0, 0, rfl, World.ownsRow_nil _ _ _ _, by omega, bel1⟩
        · have HC : Hid (r = Grain.chr x.s t (t - f).toNat f []) := by
            show _ = _
            rw [HR.out, Grain.choose, if_neg (by simp [← HE.out]), if_neg (by omega), Grain.choose_runs HE.out.symm (by omega) (by omega) _ (Nat.le_refl _)]
          have HSR := hide ((Grain.sr_iff x.s).1 HE.out.symm)
          obtain ⟨i0, hi, hz0, hz1, hz2⟩ := info_parts Try.infoPart
          have f0 : 0 ≤ f := by omega
          have ft : f ≤ t := by omega
          have t1 : t ≤ 1000000 := by omega
          clear h1 h2 h3 HR
          go_wp2
          rw [← HX.out]
          go_loopw [9, 10] (fun s9 s10 wr => ∃ (co : Option Addr) (m d fuel : Nat) (a : Int) (out : List Grain.Pt), s9 = .slice co m d ∧ s10 = .int .i64 a ∧ wr.ownsRow w1.heap.size 112 3 (.slice co m d) m (pcells out) ∧ Below w1.heap.size w1 wr ∧ Hid (r = Grain.chr x.s t fuel a out) ∧ (t - a).toNat ≤ fuel ∧ 0 ≤ a ∧ a ≤ t ∧ m + fuel ≤ 1000000) (fun _ s10 _ => (t - intOf s10).toNat)
          case atStart => exact ⟨none, 0, 0, (t - f).toNat, f, [], rfl, rfl, World.ownsRow_nil _ _ _ _, Below.refl _ _, HC, Nat.le_refl _, f0, ft, by omega⟩
          case round =>
            obtain ⟨co, m, d, fuel, a, out, rfl, rfl, own, belr, HC2, hfu, ha0, hat, hmf⟩ := hrel
            have S2 := below_block belr S1
            have hsz := belr.size
            by_cases hlt : a < t
            · obtain ⟨fu, rfl⟩ : ∃ k, fuel = k + 1 := ⟨fuel - 1, by omega⟩
              obtain ⟨p, hp⟩ : ∃ p, p = Grain.nxr x.s a t := ⟨_, rfl⟩
              have hpf : p.f = a := by rw [hp]; exact (Grain.nxr_ft HSR.out hlt).1
              have hpt : p.t ≤ t := by rw [hp]; exact (Grain.nxr_ft HSR.out hlt).2.1
              obtain ⟨b, hb⟩ : ∃ b, b = Grain.may x.s p := ⟨_, rfl⟩
              have HC3 : Hid (r = if b = true then Grain.chr x.s t fu p.t (out ++ [p]) else ([], 10)) := by
                show _ = _
                rw [HC2.out, Grain.chr, if_pos hlt, hb, hp]
              have HP := hide hp
              have HB := hide hb
              have HPF := hide hpf
              obtain ⟨x0, x1, x2, x3, x4, x5, x6, x7, x8⟩ := nine_cells S2
              have Xl : X < wr.heap.size := lt_of_block S2
              clear hp hb HC2 hpf
              go_wp2_with fail
              refine (next_any x.s _ _ _ _ a t p wr HSR.out ha0 hlt t1 HP.out).mono ?_
              rintro e w2 ⟨rfl, hb2⟩
              obtain ⟨W, hW⟩ : ∃ W, W = w2.alloc (.cells #[.int .i64 p.k, .int .i64 p.f, .int .i64 p.t] 112) := ⟨_, rfl⟩
              have hbW : Below w2.heap.size w2 W := by rw [hW]; exact (Below.refl _ _).alloc (Nat.le_refl _) _
              have P0 : W.heap[w2.heap.size]? = some (.cells #[.int .i64 p.k, .int .i64 p.f, .int .i64 p.t] 112 (0, 0)) := by rw [hW]; exact heap_alloc_new w2 _
              have S3 := below_block hb2 S2
              have S4 := below_block hbW S3
              have hlow : ∀ g, (Value.slice co m d).ownBlock = some g → g < w2.heap.size := fun g hg => Nat.lt_of_lt_of_le (own.lt g hg).2 hb2.size
              have HLow := hide hlow
              have own4 := own_below (own_below own hb2) hbW
              have bel4 : Below w1.heap.size w1 W := below_pl hbW (below_pl hb2 belr)
              have HW := hide hW
              clear hW x0 x1 x2 x3 x4 x5 x6 x7 x8 own belr
              obtain ⟨x0, x1, x2, x3, x4, x5, x6, x7, x8⟩ := nine_cells S3
              have Xl2 : X < w2.heap.size := lt_of_block S3
              clear hb2 hbW
              go_wp2_with fail
              rw [← HW.out]
              refine (may_any x.s _ _ _ _ p b W HB.out).mono ?_
              rintro e w3 ⟨rfl, hb3⟩
              have own5 := own_below own4 hb3
              have bel5 : Below w1.heap.size w1 w3 := below_pl hb3 bel4
              have P1 := below_block hb3 P0
              obtain ⟨y0, y1, y2⟩ := three3 P1
              clear x0 x1 x2 x3 x4 x5 x6 x7 x8 hb3 own4 bel4 HW
              cases b
              · have e : r = ([], 10) := by rw [HC3.out]; rfl
                subst e
                clear HC3
                go_wp2
                exact bodyPost_ret (v := .tuple #[.slice none 0 0, .int .i64 10]) (by simp [results, Try.results30, go_sem]) rfl ⟨none, 0, 0, rfl, World.ownsRow_nil _ _ _ _, by omega, below_pl bel5 bel1⟩
              · have hlt2 : a < p.t := by have := Grain.may_lt HB.out.symm; rw [HPF.out] at this; exact this
                have HC4 : Hid (r = Grain.chr x.s t fu p.t (out ++ [p])) := by show _ = _; rw [HC3.out]; rfl
                have hsz5 := bel5.size
                have hown := own5.lt
                clear HC3
                have own5a := own5.alloc (.cells #[.int .i64 p.k, .int .i64 p.f, .int .i64 p.t] 112)
                go_wp2_with (at_builtin; refine wpList_append_lies _ rfl _ _ 66 rfl w1.heap.size 112 i0 (.agg #[.int .i64 0, .int .i64 0, .int .i64 0]) 3 24 Try.underlying66 hi hz0 hz1 hz2 rfl (by decide) _ _ _ rfl own5a ⟨w3.heap.size, 0, none⟩ 1 1 (ptc p) rfl rfl (World.news_of_block (cs := #[.int .i64 p.k, .int .i64 p.f, .int .i64 p.t]) (t := 112) (fr := (0, 0)) (heap_alloc_new w3 _)) (by simp [ptc, Value.oneCell']) (by decide) (by unfold maxLen; omega) (by omega) (by simp; omega) (w3.heap.size + 1) (by simp) ?_)
                intro g d' w4 own6' gr6 hat6 hlt6
                have own6 : w4.ownsRow w1.heap.size 112 3 (.slice (some ⟨g, 0, none⟩) (m + 1) d') (m + 1) (pcells (out ++ [p])) := by rw [pcells_snoc]; exact own6'
                have bel6 : Below w1.heap.size w1 w4 := (bel5.alloc hsz5 _).grown gr6 (by simp; omega) (fun j hj => (hown j hj).1)
                have P2 : w4.heap[w2.heap.size]? = some (.cells #[.int .i64 p.k, .int .i64 p.f, .int .i64 p.t] 112 (0, 0)) := by
                  have hlP := lt_of_block P1
                  rw [gr6.block _ (by simp; omega) (fun hh => ?_), Below.heap_alloc _ _ _ hlP]
                  · exact P1
                  · have := HLow.out _ hh.symm; omega
                obtain ⟨z0, z1, z2⟩ := three3 P2
                clear y0 y1 y2 P2 P1 P0 gr6 own5 own5a own6' hat6 hlt6 bel5 hown HLow hlow
                go_wp2
                go_roundw
                case rel => exact ⟨_, m + 1, d', fu, p.t, _, rfl, rfl, own6, bel6, HC4, by omega, by omega, hpt, by omega⟩
                case measure => simp [intOf]; omega
            · have e : r = (out, 0) := by rw [HC2.out, Grain.chr_end hlt]
              subst e
              clear HC2
              go_wp2
              exact bodyPost_ret (v := .tuple #[.slice co m d, .int .i64 0]) (by simp [results, Try.results30, go_sem]) rfl ⟨co, m, d, rfl, own_down own bel1.size, by omega, below_pl belr bel1⟩
  · have e : r = ([], E) := by rw [HR.out, Grain.choose, ← HE.out, if_pos hw]
    subst e
    have hne : (E != 0) = true := by simpa using hw
    go_wp2
    exact bodyPost_ret (v := .tuple #[.slice none 0 0, .int .i64 E]) (by simp [results, Try.results30, go_sem]) rfl ⟨none, 0, 0, rfl, World.ownsRow_nil _ _ _ _, by omega, bel1⟩

end Go.Proofs.Ytfgablhgjbjbkae

/-
  The walk of sort.Search, at whatever function is handed in.
-/
namespace Go.Proofs.Ytfgablhgjbjbkae
open Go.RowKit Go.GrainU

set_option maxRecDepth 20000 in
set_option maxHeartbeats 2000000 in
theorem search_any (p : Nat → Bool) (F : Nat) (caps : Array Value) (n : Nat) (w : World) (hn : n ≤ 1000000)
    (hE : Hid (∀ (args : Array Value) (W : World), (callFunc F args).run Try.prog W = .ok (.enter F args) W))
    (hF : ∀ W i, i < n → Below w.heap.size w W → Calls Try.prog F (#[.int .i64 (i : Nat)] ++ caps) W fun e W' => e = .returned (.bool (p i)) ∧ Below W.heap.size W W')
    (hmono : ∀ a b, a ≤ b → b < n → p a = true → p b = true) :
    Calls Try.prog 125 #[.int .i64 n, .func (.func F) #[] caps] w fun e w' => ∃ r : Nat, r ≤ n ∧ Hid ((∀ t, t < r → p t = false) ∧ ∀ t, r ≤ t → t < n → p t = true) ∧ e = .returned (.int .i64 r) ∧ Below w.heap.size w w' := by
  have HF := hide hF
  have M := hide hmono
  clear hF hmono
  go_enter Try.func125, Try.ntmps125
  go_wp2
  go_loopw [5, 6] (fun s5 s6 wr => ∃ lo hi : Nat, s5 = .int .i64 lo ∧ s6 = .int .i64 hi ∧ lo ≤ hi ∧ hi ≤ n ∧ Below w.heap.size w wr ∧ Hid ((∀ t, t < lo → p t = false) ∧ ∀ t, hi ≤ t → t < n → p t = true)) (fun s5 s6 _ => (intOf s6).toNat - (intOf s5).toNat)
  case atStart => exact ⟨0, n, rfl, rfl, Nat.zero_le _, Nat.le_refl _, Below.refl _ _, (⟨fun t ht => absurd ht (Nat.not_lt_zero _), fun t h1 h2 => by omega⟩ : (∀ t, t < 0 → p t = false) ∧ ∀ t, n ≤ t → t < n → p t = true)⟩
  case round =>
    obtain ⟨lo, hi, rfl, rfl, hlh, hin, bel, I⟩ := hrel
    have hsz := bel.size
    by_cases hlt : lo < hi
    · have hc := HF.out wr ((lo + hi) / 2) (by omega) bel
      rw [show (((lo + hi) / 2 : Nat) : Int) = ((lo : Int) + (hi : Int)) / 2 by omega] at hc
      have HC := hide hc
      clear hc
      go_wp2_with fail
      rw [hE.out, Oper.upon_enter]
      refine HC.out.mono ?_
      rintro e w1 ⟨rfl, hb1⟩
      have bel1 : Below w.heap.size w w1 := bel.trans (hb1.mono hsz)
      clear hb1 bel HC
      cases hp : p ((lo + hi) / 2)
      · have I2 : Hid ((∀ t, t < (lo + hi) / 2 + 1 → p t = false) ∧ ∀ t, hi ≤ t → t < n → p t = true) := ⟨fun t ht => (by
          cases h : p t with
          | false => rfl
          | true => have := M.out t ((lo + hi) / 2) (by omega) (by omega) h; rw [hp] at this; cases this), I.out.2⟩
        clear hp I
        go_wp2
        go_roundw
        case rel => exact ⟨(lo + hi) / 2 + 1, hi, by go_num, rfl, by omega, hin, bel1, I2⟩
        case measure => simp [intOf]; omega
      · have I2 : Hid ((∀ t, t < lo → p t = false) ∧ ∀ t, (lo + hi) / 2 ≤ t → t < n → p t = true) := ⟨I.out.1, fun t ht htn => M.out ((lo + hi) / 2) t ht htn hp⟩
        clear hp I
        go_wp2
        go_roundw
        case rel => exact ⟨lo, (lo + hi) / 2, rfl, by go_num, by omega, by omega, bel1, I2⟩
        case measure => simp [intOf]; omega
    · obtain rfl : hi = lo := by omega
      go_wp2
      go_ret
      exact ⟨hi, hin, I, rfl, bel⟩

end Go.Proofs.Ytfgablhgjbjbkae

/-
  The walks of plan's within and its closures, over samples.
-/
namespace Go.GrainU
open Go.RowKit

def cutP (pa : Option Addr) (pc p s : Nat) : Option Addr := if pc = p then pa else pa.map (·.add (p * s))

theorem seg_cutP {w : World} {pa : Option Addr} {xs : List Value} {n pc p1 p2 s : Nat} (h : Seg w pa xs) (hl : xs.length = n * s) (hc : n ≤ pc) (h12 : p1 ≤ p2) (h2 : p2 ≤ n) : Seg w (cutP pa pc p1 s) ((xs.take (p2 * s)).drop (p1 * s)) := by
  by_cases hp : p1 = p2
  · left
    subst hp
    rw [List.drop_eq_nil_of_le (by simp; omega)]
  · rcases h with h | ⟨b, off, rfl, h⟩
    · left; rw [h]; simp
    · have e : cutP (some ⟨b, off, none⟩) pc p1 s = some ⟨b, off + p1 * s, none⟩ := by
        unfold cutP
        rw [if_neg (by omega)]
        simp only [Option.map_some]
        rw [show (⟨b, off, none⟩ : Addr).add (p1 * s) = ⟨b, off + p1 * s, none⟩ from by unfold Addr.add; split <;> simp_all]
      rw [e]
      refine .inr ⟨b, off + p1 * s, rfl, fun j hj => ?_⟩
      simp at hj
      have := Nat.mul_le_mul_right s h2
      rw [Nat.add_assoc, h _ (by omega), List.getElem?_drop, List.getElem?_take, if_pos (by omega)]

theorem scells_td (l : List (Int × Int)) : ∀ p1 p2, ((scells l).take (p2 * 2)).drop (p1 * 2) = scells ((l.take p2).drop p1) := by
  have ht : ∀ (l : List (Int × Int)) p, (scells l).take (p * 2) = scells (l.take p) := by
    intro l
    induction l with
    | nil => intro p; simp [scells]
    | cons x r ih =>
      intro p
      cases p with
      | zero => simp [scells]
      | succ p => rw [show (p + 1) * 2 = p * 2 + 1 + 1 by omega]; simp [scells, ih]
  have hd : ∀ (l : List (Int × Int)) p, (scells l).drop (p * 2) = scells (l.drop p) := by
    intro l
    induction l with
    | nil => intro p; simp [scells]
    | cons x r ih =>
      intro p
      cases p with
      | zero => simp
      | succ p => rw [show (p + 1) * 2 = p * 2 + 1 + 1 by omega]; simp [scells, ih]
  intro p1 p2
  rw [ht, hd]

theorem kcells_td (l : List Grain.Bk) : ∀ p1 p2, ((kcells l).take (p2 * 8)).drop (p1 * 8) = kcells ((l.take p2).drop p1) := by
  have ht : ∀ (l : List Grain.Bk) p, (kcells l).take (p * 8) = kcells (l.take p) := by
    intro l
    induction l with
    | nil => intro p; simp [kcells]
    | cons x r ih =>
      intro p
      cases p with
      | zero => simp [kcells]
      | succ p => rw [show (p + 1) * 8 = p * 8 + 1 + 1 + 1 + 1 + 1 + 1 + 1 + 1 by omega]; simp [kcells, kc, ih]
  have hd : ∀ (l : List Grain.Bk) p, (kcells l).drop (p * 8) = kcells (l.drop p) := by
    intro l
    induction l with
    | nil => intro p; simp [kcells]
    | cons x r ih =>
      intro p
      cases p with
      | zero => simp
      | succ p => rw [show (p + 1) * 8 = p * 8 + 1 + 1 + 1 + 1 + 1 + 1 + 1 + 1 by omega]; simp [kcells, kc, ih]
  intro p1 p2
  rw [ht, hd]

end Go.GrainU
namespace Grain

/-- a window of what rises is a piece of it -/
theorem cut_filter {α : Type} (tm : α → Int) {l : List α} {f t : Int} {a b : Nat} (ha : a ≤ l.length) (hb : b ≤ l.length)
    (h1 : ∀ i (hi : i < l.length), tm l[i] < f ↔ i < a) (h2 : ∀ i (hi : i < l.length), tm l[i] < t ↔ i < b) (hft : f ≤ t) : a ≤ b ∧ (l.take b).drop a = l.filter fun x => decide (f ≤ tm x ∧ tm x < t) := by
  have hab : a ≤ b := by
    rcases Nat.lt_or_ge b a with hh | hh
    · have a1 := (h1 b (by omega)).2 hh
      have a2 := (h2 b (by omega)).1 (by omega)
      omega
    · exact hh
  refine ⟨hab, ?_⟩
  have hl : l = (l.take b).take a ++ ((l.take b).drop a ++ l.drop b) := by
    rw [← List.append_assoc, List.take_append_drop, List.take_append_drop]
  conv => rhs; rw [hl]
  rw [List.filter_append, List.filter_append]
  have f1 : ((l.take b).take a).filter (fun x => decide (f ≤ tm x ∧ tm x < t)) = [] := by
    rw [List.filter_eq_nil_iff]
    intro x hx
    obtain ⟨k, hk, rfl⟩ := List.mem_iff_getElem.1 hx
    simp at hk
    have := (h1 k (by omega)).2 (by omega)
    simp
    omega
  have f2 : ((l.take b).drop a).filter (fun x => decide (f ≤ tm x ∧ tm x < t)) = (l.take b).drop a := by
    rw [List.filter_eq_self]
    intro x hx
    obtain ⟨k, hk, rfl⟩ := List.mem_iff_getElem.1 hx
    simp at hk
    have a1 := (h2 (a + k) (by omega)).2 (by omega)
    have a2 : ¬ tm (l[a + k]'(by omega)) < f := fun hh => by have := (h1 (a + k) (by omega)).1 hh; omega
    simp
    omega
  have f3 : (l.drop b).filter (fun x => decide (f ≤ tm x ∧ tm x < t)) = [] := by
    rw [List.filter_eq_nil_iff]
    intro x hx
    obtain ⟨k, hk, rfl⟩ := List.mem_iff_getElem.1 hx
    simp at hk
    have : ¬ tm (l[b + k]'(by omega)) < t := fun hh => by have := (h2 (b + k) (by omega)).1 hh; omega
    simp
    omega
  rw [f1, f2, f3]; simp

end Grain
namespace Go.Proofs.Ytfgablhgjbjbkae
open Go.RowKit Go.GrainU

theorem prt_any (t v : Int) (w : World) : Calls Try.prog 105 #[.agg #[.int .i64 t, .int .i64 v]] w fun e w' => e = .returned (.int .i64 t) ∧ Below w.heap.size w w' := by
  have bel : Below w.heap.size w (w.alloc (.cells #[.int .i64 t, .int .i64 v] 35)) := (Below.refl _ _).alloc (Nat.le_refl _) _
  go_enter Try.func105, Try.ntmps105
  go_wp2
  go_ret
  exact ⟨rfl, bel⟩

set_option maxHeartbeats 2000000 in
theorem wf1_any (l : List (Int × Int)) (ao : Option Addr) (n c Bt Bl Bp i : Nat) (f : Int) (w : World) (hs : Seg w ao (scells l)) (hn : n = l.length) (hi : i < n)
    (ht : w.cell? ⟨Bt, 0, none⟩ = some (.func (.func 105) #[] #[])) (hl : w.cell? ⟨Bl, 0, none⟩ = some (.slice ao n c)) (hf : w.cell? ⟨Bp, 1, none⟩ = some (.int .i64 f)) :
    Calls Try.prog 126 #[.int .i64 i, .pointer (some ⟨Bt, 0, none⟩), .pointer (some ⟨Bl, 0, none⟩), .pointer (some ⟨Bp, 0, none⟩)] w fun e w' => e = .returned (.bool (decide (f ≤ Grain.tm l i))) ∧ Below w.heap.size w w' := by
  have hil : i < l.length := by omega
  obtain ⟨b, off, rfl, hcell⟩ := hs.sample hil
  obtain ⟨T, hT⟩ : ∃ T, T = Grain.tm l i := ⟨_, rfl⟩
  obtain ⟨U, hU⟩ : ∃ U, U = Grain.vl l i := ⟨_, rfl⟩
  obtain ⟨c0, c1⟩ := hcell i hil
  rw [← hT] at c0 ⊢
  rw [← hU] at c1
  have R1 : Below w.heap.size w w.drew := below_drewN (Below.refl _ _) 1
  have HS : Hid (∀ w', Below w.heap.size w w' → w'.cell? ⟨Bt, 0, none⟩ = some (.func (.func 105) #[] #[]) ∧ w'.cell? ⟨Bl, 0, none⟩ = some (.slice (some ⟨b, off, none⟩) n c) ∧ w'.cell? ⟨Bp, 1, none⟩ = some (.int .i64 f) ∧ w'.cell? ⟨b, off + i * 2, none⟩ = some (.int .i64 T) ∧ w'.cell? ⟨b, off + i * 2 + 1, none⟩ = some (.int .i64 U)) :=
    fun w' hb => ⟨(hb.cell (by exact World.block_lt_of_cell? _ _ ht)).trans ht, (hb.cell (by exact World.block_lt_of_cell? _ _ hl)).trans hl, (hb.cell (by exact World.block_lt_of_cell? _ _ hf)).trans hf, (hb.cell (by exact World.block_lt_of_cell? _ _ c0)).trans c0, (hb.cell (by exact World.block_lt_of_cell? _ _ c1)).trans c1⟩
  clear hcell hT hU hs hn hil c0 c1 ht hl hf
  go_enter Try.func126, Try.ntmps126
  go_wp2
  go_region_held3 (fun w' => w'.cell? ⟨Bt, 0, none⟩ = some (.func (.func 105) #[] #[]) ∧ w'.cell? ⟨Bl, 0, none⟩ = some (.slice (some ⟨b, off, none⟩) n c) ∧ w'.cell? ⟨Bp, 1, none⟩ = some (.int .i64 f) ∧ w'.cell? ⟨b, off + i * 2, none⟩ = some (.int .i64 T) ∧ w'.cell? ⟨b, off + i * 2 + 1, none⟩ = some (.int .i64 U)) (exact HS.out _ (by assumption))
    (first | (go_at_call 105; refine (prt_any T U _).mono ?_; rintro e w1 ⟨rfl, hb1⟩; have R2 := below_pl hb1 (by assumption)))
  all_goals
    go_wp2
    go_ret
    exact ⟨rfl, R2⟩

set_option maxHeartbeats 2000000 in
theorem wf2_any (l : List (Int × Int)) (ao : Option Addr) (n c Bt Bl Bp i : Nat) (f : Int) (w : World) (hs : Seg w ao (scells l)) (hn : n = l.length) (hi : i < n)
    (ht : w.cell? ⟨Bt, 0, none⟩ = some (.func (.func 105) #[] #[])) (hl : w.cell? ⟨Bl, 0, none⟩ = some (.slice ao n c)) (hf : w.cell? ⟨Bp, 2, none⟩ = some (.int .i64 f)) :
    Calls Try.prog 127 #[.int .i64 i, .pointer (some ⟨Bt, 0, none⟩), .pointer (some ⟨Bl, 0, none⟩), .pointer (some ⟨Bp, 0, none⟩)] w fun e w' => e = .returned (.bool (decide (f ≤ Grain.tm l i))) ∧ Below w.heap.size w w' := by
  have hil : i < l.length := by omega
  obtain ⟨b, off, rfl, hcell⟩ := hs.sample hil
  obtain ⟨T, hT⟩ : ∃ T, T = Grain.tm l i := ⟨_, rfl⟩
  obtain ⟨U, hU⟩ : ∃ U, U = Grain.vl l i := ⟨_, rfl⟩
  obtain ⟨c0, c1⟩ := hcell i hil
  rw [← hT] at c0 ⊢
  rw [← hU] at c1
  have R1 : Below w.heap.size w w.drew := below_drewN (Below.refl _ _) 1
  have HS : Hid (∀ w', Below w.heap.size w w' → w'.cell? ⟨Bt, 0, none⟩ = some (.func (.func 105) #[] #[]) ∧ w'.cell? ⟨Bl, 0, none⟩ = some (.slice (some ⟨b, off, none⟩) n c) ∧ w'.cell? ⟨Bp, 2, none⟩ = some (.int .i64 f) ∧ w'.cell? ⟨b, off + i * 2, none⟩ = some (.int .i64 T) ∧ w'.cell? ⟨b, off + i * 2 + 1, none⟩ = some (.int .i64 U)) :=
    fun w' hb => ⟨(hb.cell (by exact World.block_lt_of_cell? _ _ ht)).trans ht, (hb.cell (by exact World.block_lt_of_cell? _ _ hl)).trans hl, (hb.cell (by exact World.block_lt_of_cell? _ _ hf)).trans hf, (hb.cell (by exact World.block_lt_of_cell? _ _ c0)).trans c0, (hb.cell (by exact World.block_lt_of_cell? _ _ c1)).trans c1⟩
  clear hcell hT hU hs hn hil c0 c1 ht hl hf
  go_enter Try.func127, Try.ntmps127
  go_wp2
  go_region_held3 (fun w' => w'.cell? ⟨Bt, 0, none⟩ = some (.func (.func 105) #[] #[]) ∧ w'.cell? ⟨Bl, 0, none⟩ = some (.slice (some ⟨b, off, none⟩) n c) ∧ w'.cell? ⟨Bp, 2, none⟩ = some (.int .i64 f) ∧ w'.cell? ⟨b, off + i * 2, none⟩ = some (.int .i64 T) ∧ w'.cell? ⟨b, off + i * 2 + 1, none⟩ = some (.int .i64 U)) (exact HS.out _ (by assumption))
    (first | (go_at_call 105; refine (prt_any T U _).mono ?_; rintro e w1 ⟨rfl, hb1⟩; have R2 := below_pl hb1 (by assumption)))
  all_goals
    go_wp2
    go_ret
    exact ⟨rfl, R2⟩

/-- where a time comes, among rising ones -/
theorem rise_mono {l : List (Int × Int)} (h : l.Pairwise (fun x y => x.1 < y.1)) (f : Int) : ∀ a b, a ≤ b → b < l.length → decide (f ≤ Grain.tm l a) = true → decide (f ≤ Grain.tm l b) = true := by
  intro a b hab hb ha
  rcases Nat.lt_or_ge a b with hl | hl
  · have := List.pairwise_iff_getElem.1 h a b (by omega) hb hl
    simp [Grain.tm, List.getD, List.getElem?_eq_getElem hb, List.getElem?_eq_getElem (show a < l.length by omega)] at ha ⊢
    omega
  · obtain rfl : a = b := by omega
    exact ha

set_option maxHeartbeats 2000000 in
theorem within_any (l : List (Int × Int)) (ao : Option Addr) (n c : Nat) (p : Grain.Pt) (w : World) (hs : Seg w ao (scells l)) (hn : n = l.length) (hc : n ≤ c) (hL : n ≤ 1000000) (hpw : l.Pairwise (fun x y => x.1 < y.1)) (hft : p.f ≤ p.t) :
    Calls Try.prog 104 #[.slice ao n c, .agg #[.int .i64 p.k, .int .i64 p.f, .int .i64 p.t], .func (.func 105) #[] #[]] w fun e w' => ∃ (bo : Option Addr) (m d : Nat), e = .returned (.slice bo m d) ∧ Seg w bo (scells (Grain.win l p.f p.t)) ∧ Hid (m = (Grain.win l p.f p.t).length) ∧ Below w.heap.size w w' := by
  obtain ⟨k, f, t⟩ := p
  simp only at hft
  obtain ⟨X, hX⟩ : ∃ X, X = w.heap.size := ⟨_, rfl⟩
  obtain ⟨V, hV⟩ : ∃ V, V = ((w.alloc (.cells #[.slice ao n c] 31)).alloc (.cells #[.int .i64 k, .int .i64 f, .int .i64 t] 112)).alloc (.cells #[.func (.func 105) #[] #[]] 144) := ⟨_, rfl⟩
  have bel : Below w.heap.size w V := by rw [hV]; exact (((Below.refl _ _).alloc (Nat.le_refl _) _).alloc (by simp) _).alloc (by simp; omega) _
  have B0 : V.heap[X]? = some (.cells #[.slice ao n c] 31 (0, 0)) := by
    rw [hV, hX, Below.heap_alloc _ _ _ (by simp; omega), Below.heap_alloc _ _ _ (by simp)]; exact heap_alloc_new w _
  have B1 : V.heap[X + 1]? = some (.cells #[.int .i64 k, .int .i64 f, .int .i64 t] 112 (0, 0)) := by
    rw [hV, hX, Below.heap_alloc _ _ _ (by simp)]; have := heap_alloc_new (w.alloc (.cells #[.slice ao n c] 31)) (.cells #[.int .i64 k, .int .i64 f, .int .i64 t] 112); rwa [World.size_alloc] at this
  have B2 : V.heap[X + 2]? = some (.cells #[.func (.func 105) #[] #[]] 144 (0, 0)) := by
    rw [hV, hX]; have := heap_alloc_new ((w.alloc (.cells #[.slice ao n c] 31)).alloc (.cells #[.int .i64 k, .int .i64 f, .int .i64 t] 112)) (.cells #[.func (.func 105) #[] #[]] 144); rwa [World.size_alloc, World.size_alloc] at this
  have cL : V.cell? ⟨X, 0, none⟩ = some (.slice ao n c) := by rw [cell_of_row V X _ _ _ (0, 0) B0]; rfl
  have cT : V.cell? ⟨X + 2, 0, none⟩ = some (.func (.func 105) #[] #[]) := by rw [cell_of_row V (X + 2) _ _ _ (0, 0) B2]; rfl
  obtain ⟨p0, p1, p2⟩ := three3 B1
  have lX := lt_of_block B0
  have lX1 := lt_of_block B1
  have lX2 := lt_of_block B2
  have hsV := hs.below bel
  have hE1 := hide (enters (P := Try.prog) (f := 126) Try.func126 (by kernel_rfl) (by kernel_rfl))
  have hE2 := hide (enters (P := Try.prog) (f := 127) Try.func127 (by kernel_rfl) (by kernel_rfl))
  have HA : Hid (∀ W, Below V.heap.size V W → Calls Try.prog 125 #[.int .i64 n, .func (.func 126) #[] #[.pointer (some ⟨X + 2, 0, none⟩), .pointer (some ⟨X, 0, none⟩), .pointer (some ⟨X + 1, 0, none⟩)]] W fun e w' => ∃ r : Nat, r ≤ n ∧ Hid ((∀ t, t < r → decide (f ≤ Grain.tm l t) = false) ∧ ∀ t, r ≤ t → t < n → decide (f ≤ Grain.tm l t) = true) ∧ e = .returned (.int .i64 r) ∧ Below W.heap.size W w') := by
    intro W hb
    refine search_any (fun i => decide (f ≤ Grain.tm l i)) _ _ n W hL hE1 (fun W' i hi hb' => ?_) (fun a b h1 h2 => rise_mono hpw f a b h1 (by omega))
    have hbb := below_pl hb' hb
    exact wf1_any l ao n c (X + 2) X (X + 1) i f W' (hsV.below hbb) hn hi ((hbb.cell (by exact lX2)).trans cT) ((hbb.cell (by exact lX)).trans cL) ((hbb.cell (by exact lX1)).trans p1)
  have HB : Hid (∀ W, Below V.heap.size V W → Calls Try.prog 125 #[.int .i64 n, .func (.func 127) #[] #[.pointer (some ⟨X + 2, 0, none⟩), .pointer (some ⟨X, 0, none⟩), .pointer (some ⟨X + 1, 0, none⟩)]] W fun e w' => ∃ r : Nat, r ≤ n ∧ Hid ((∀ i, i < r → decide (t ≤ Grain.tm l i) = false) ∧ ∀ i, r ≤ i → i < n → decide (t ≤ Grain.tm l i) = true) ∧ e = .returned (.int .i64 r) ∧ Below W.heap.size W w') := by
    intro W hb
    refine search_any (fun i => decide (t ≤ Grain.tm l i)) _ _ n W hL hE2 (fun W' i hi hb' => ?_) (fun a b h1 h2 => rise_mono hpw t a b h1 (by omega))
    have hbb := below_pl hb' hb
    exact wf2_any l ao n c (X + 2) X (X + 1) i t W' (hsV.below hbb) hn hi ((hbb.cell (by exact lX2)).trans cT) ((hbb.cell (by exact lX)).trans cL) ((hbb.cell (by exact lX1)).trans p2)
  have HN := hide hn
  have HV := hide hV
  have HX := hide hX
  have HS := hide hs
  have HPW := hide hpw
  have HFT := hide hft
  have hXV : X ≤ V.heap.size := by omega
  clear hn hV hX hs hsV hE1 hE2 B0 B1 B2 hpw p0 p1 p2 lX1 lX2 hft
  go_enter Try.func104, Try.ntmps104
  go_wp2_with fail
  rw [← HV.out, ← HX.out]
  refine (HA.out V (Below.refl _ _)).mono ?_
  rintro e w1 ⟨r1, hr1, I1, rfl, hb1⟩
  have cL1 := (hb1.cell (p := ⟨X, 0, none⟩) (by exact lX)).trans cL
  clear HA
  go_wp2_with fail
  refine (HB.out w1 hb1).mono ?_
  rintro e w2 ⟨r2, hr2, I2, rfl, hb2⟩
  have bel2 : Below V.heap.size V w2 := below_pl hb2 hb1
  have cL2 := (bel2.cell (p := ⟨X, 0, none⟩) (by exact lX)).trans cL
  have C := Grain.cut_filter (fun x : Int × Int => x.1) (l := l) (f := f) (t := t) (a := r1) (b := r2) (by rw [← HN.out]; exact hr1) (by rw [← HN.out]; exact hr2) (fun i hi => ?c1) (fun i hi => ?c2) HFT.out
  case c1 =>
    have e : Grain.tm l i = l[i].1 := by simp [Grain.tm, List.getD, List.getElem?_eq_getElem hi]
    rw [← e]
    constructor
    · intro h
      rcases Nat.lt_or_ge i r1 with h' | h'
      · exact h'
      · have := I1.out.2 i h' (by rw [HN.out]; exact hi)
        simp at this; omega
    · intro h
      have := I1.out.1 i h
      simp at this; omega
  case c2 =>
    have e : Grain.tm l i = l[i].1 := by simp [Grain.tm, List.getD, List.getElem?_eq_getElem hi]
    rw [← e]
    constructor
    · intro h
      rcases Nat.lt_or_ge i r2 with h' | h'
      · exact h'
      · have := I2.out.2 i h' (by rw [HN.out]; exact hi)
        simp at this; omega
    · intro h
      have := I2.out.1 i h
      simp at this; omega
  obtain ⟨h12, hcut⟩ := C
  obtain ⟨so, hso⟩ : ∃ so, so = cutP ao c r1 2 := ⟨_, rfl⟩
  obtain ⟨sl, hsl⟩ : ∃ sl, sl = r2 - r1 := ⟨_, rfl⟩
  obtain ⟨sd, hsd⟩ : ∃ sd, sd = c - r1 := ⟨_, rfl⟩
  have hseg : Seg w so (scells (Grain.win l f t)) := by
    rw [hso, show Grain.win l f t = (l.take r2).drop r1 from hcut.symm, ← scells_td]
    exact seg_cutP (n := n) HS.out (by rw [scells_length, HN.out]) hc h12 (by omega)
  have hlen : sl = (Grain.win l f t).length := by
    rw [hsl, show Grain.win l f t = (l.take r2).drop r1 from hcut.symm, List.length_drop, List.length_take, ← HN.out]; omega
  have hsl1 : ∀ w, Sem.run Try.prog (Instr.slice 31 (.slice ao n c) (some (.int .i64 r1)) (some (.int .i64 r2)) none) w = .ok (.slice so sl sd) w := by
    intro w
    rw [run_slice_lh (P := Try.prog) (t := 31) (ht := by kernel_rfl) (a := ao) (len := n) (cap := c) (kl := .i64) (kh := .i64) (l := (r1 : Int)) (h := (r2 : Int)) (h0 := by omega) (h1 := by omega) (h2 := by omega)]
    rw [hso, hsl, hsd]
    simp [sliced, cutP, go_sem]
  have hsl2 : ∀ w, Sem.run Try.prog (Instr.sliceAt 31 (.slice ao n c) (some (.int .i64 r1)) (some (.int .i64 r2)) none) w = .ok (.slice so sl sd) w := by
    intro w
    rw [run_sliceAt_slice (P := Try.prog) (t := 31) (h := by kernel_rfl)]
    exact hsl1 w
  have HG := hide hseg
  have HLn := hide hlen
  clear hso hsl hsd hcut hseg hlen I1 I2 HS HPW
  go_wp2
  go_ret
  exact ⟨so, sl, sd, rfl, HG.out, HLn, by first | exact bel.trans (bel2.mono bel.size) | (rw [← HX.out]; exact bel.trans (bel2.mono hXV))⟩

end Go.Proofs.Ytfgablhgjbjbkae

/-
  The walks of plan's within and its closures, over buckets.
-/
namespace Go.Proofs.Ytfgablhgjbjbkae
open Go.RowKit Go.GrainU

theorem krt_any (T : Grain.Bk) (w : World) : Calls Try.prog 123 #[.agg #[.int .i64 T.a, .int .i64 T.s.c, .int .i64 T.s.t, .int .i64 T.s.mn, .int .i64 T.s.mx, .int .i64 T.s.f, .int .i64 T.s.l, .int .i64 T.s.r]] w fun e w' => e = .returned (.int .i64 T.a) ∧ Below w.heap.size w w' := by
  have bel : Below w.heap.size w (w.alloc (.cells #[.int .i64 T.a, .int .i64 T.s.c, .int .i64 T.s.t, .int .i64 T.s.mn, .int .i64 T.s.mx, .int .i64 T.s.f, .int .i64 T.s.l, .int .i64 T.s.r] 90)) := (Below.refl _ _).alloc (Nat.le_refl _) _
  go_enter Try.func123, Try.ntmps123
  go_wp2
  go_ret
  exact ⟨rfl, bel⟩

set_option maxHeartbeats 2000000 in
theorem kf1_any (l : List Grain.Bk) (ao : Option Addr) (n c Bt Bl Bp i : Nat) (f : Int) (w : World) (hs : Seg w ao (kcells l)) (hn : n = l.length) (hi : i < n)
    (ht : w.cell? ⟨Bt, 0, none⟩ = some (.func (.func 123) #[] #[])) (hl : w.cell? ⟨Bl, 0, none⟩ = some (.slice ao n c)) (hf : w.cell? ⟨Bp, 1, none⟩ = some (.int .i64 f)) :
    Calls Try.prog 143 #[.int .i64 i, .pointer (some ⟨Bt, 0, none⟩), .pointer (some ⟨Bl, 0, none⟩), .pointer (some ⟨Bp, 0, none⟩)] w fun e w' => e = .returned (.bool (decide (f ≤ (Grain.bk l i).a))) ∧ Below w.heap.size w w' := by
  have hil : i < l.length := by omega
  obtain ⟨b, off, rfl, _, hcell⟩ := seg_bucket hs hil
  obtain ⟨T, hT⟩ : ∃ T, T = Grain.bk l i := ⟨_, rfl⟩
  have q := hcell i hil
  rw [← hT] at q ⊢
  obtain ⟨c0, c1, c2, c3, c4, c5, c6, c7⟩ := q
  have R1 : Below w.heap.size w w.drew := below_drewN (Below.refl _ _) 1
  have HS : Hid (∀ w', Below w.heap.size w w' → w'.cell? ⟨Bt, 0, none⟩ = some (.func (.func 123) #[] #[]) ∧ w'.cell? ⟨Bl, 0, none⟩ = some (.slice (some ⟨b, off, none⟩) n c) ∧ w'.cell? ⟨Bp, 1, none⟩ = some (.int .i64 f) ∧ w'.cell? ⟨b, off + i * 8, none⟩ = some (.int .i64 T.a) ∧ w'.cell? ⟨b, off + i * 8 + 1, none⟩ = some (.int .i64 T.s.c) ∧ w'.cell? ⟨b, off + i * 8 + 2, none⟩ = some (.int .i64 T.s.t) ∧ w'.cell? ⟨b, off + i * 8 + 3, none⟩ = some (.int .i64 T.s.mn) ∧ w'.cell? ⟨b, off + i * 8 + 4, none⟩ = some (.int .i64 T.s.mx) ∧ w'.cell? ⟨b, off + i * 8 + 5, none⟩ = some (.int .i64 T.s.f) ∧ w'.cell? ⟨b, off + i * 8 + 6, none⟩ = some (.int .i64 T.s.l) ∧ w'.cell? ⟨b, off + i * 8 + 7, none⟩ = some (.int .i64 T.s.r)) :=
    fun w' hb => ⟨(hb.cell (by exact World.block_lt_of_cell? _ _ ht)).trans ht, (hb.cell (by exact World.block_lt_of_cell? _ _ hl)).trans hl, (hb.cell (by exact World.block_lt_of_cell? _ _ hf)).trans hf, (hb.cell (by exact World.block_lt_of_cell? _ _ c0)).trans c0, (hb.cell (by exact World.block_lt_of_cell? _ _ c1)).trans c1, (hb.cell (by exact World.block_lt_of_cell? _ _ c2)).trans c2, (hb.cell (by exact World.block_lt_of_cell? _ _ c3)).trans c3, (hb.cell (by exact World.block_lt_of_cell? _ _ c4)).trans c4, (hb.cell (by exact World.block_lt_of_cell? _ _ c5)).trans c5, (hb.cell (by exact World.block_lt_of_cell? _ _ c6)).trans c6, (hb.cell (by exact World.block_lt_of_cell? _ _ c7)).trans c7⟩
  clear hcell hT hs hn hil c0 c1 c2 c3 c4 c5 c6 c7 ht hl hf
  go_enter Try.func143, Try.ntmps143
  go_wp2
  go_region_held3 (fun w' => w'.cell? ⟨Bt, 0, none⟩ = some (.func (.func 123) #[] #[]) ∧ w'.cell? ⟨Bl, 0, none⟩ = some (.slice (some ⟨b, off, none⟩) n c) ∧ w'.cell? ⟨Bp, 1, none⟩ = some (.int .i64 f) ∧ w'.cell? ⟨b, off + i * 8, none⟩ = some (.int .i64 T.a) ∧ w'.cell? ⟨b, off + i * 8 + 1, none⟩ = some (.int .i64 T.s.c) ∧ w'.cell? ⟨b, off + i * 8 + 2, none⟩ = some (.int .i64 T.s.t) ∧ w'.cell? ⟨b, off + i * 8 + 3, none⟩ = some (.int .i64 T.s.mn) ∧ w'.cell? ⟨b, off + i * 8 + 4, none⟩ = some (.int .i64 T.s.mx) ∧ w'.cell? ⟨b, off + i * 8 + 5, none⟩ = some (.int .i64 T.s.f) ∧ w'.cell? ⟨b, off + i * 8 + 6, none⟩ = some (.int .i64 T.s.l) ∧ w'.cell? ⟨b, off + i * 8 + 7, none⟩ = some (.int .i64 T.s.r)) (exact HS.out _ (by assumption))
    (first | (go_at_call 123; refine (krt_any T _).mono ?_; rintro e w1 ⟨rfl, hb1⟩; have R2 := below_pl hb1 (by assumption)))
  all_goals
    go_wp2
    go_ret
    exact ⟨rfl, R2⟩

set_option maxHeartbeats 2000000 in
theorem kf2_any (l : List Grain.Bk) (ao : Option Addr) (n c Bt Bl Bp i : Nat) (f : Int) (w : World) (hs : Seg w ao (kcells l)) (hn : n = l.length) (hi : i < n)
    (ht : w.cell? ⟨Bt, 0, none⟩ = some (.func (.func 123) #[] #[])) (hl : w.cell? ⟨Bl, 0, none⟩ = some (.slice ao n c)) (hf : w.cell? ⟨Bp, 2, none⟩ = some (.int .i64 f)) :
    Calls Try.prog 144 #[.int .i64 i, .pointer (some ⟨Bt, 0, none⟩), .pointer (some ⟨Bl, 0, none⟩), .pointer (some ⟨Bp, 0, none⟩)] w fun e w' => e = .returned (.bool (decide (f ≤ (Grain.bk l i).a))) ∧ Below w.heap.size w w' := by
  have hil : i < l.length := by omega
  obtain ⟨b, off, rfl, _, hcell⟩ := seg_bucket hs hil
  obtain ⟨T, hT⟩ : ∃ T, T = Grain.bk l i := ⟨_, rfl⟩
  have q := hcell i hil
  rw [← hT] at q ⊢
  obtain ⟨c0, c1, c2, c3, c4, c5, c6, c7⟩ := q
  have R1 : Below w.heap.size w w.drew := below_drewN (Below.refl _ _) 1
  have HS : Hid (∀ w', Below w.heap.size w w' → w'.cell? ⟨Bt, 0, none⟩ = some (.func (.func 123) #[] #[]) ∧ w'.cell? ⟨Bl, 0, none⟩ = some (.slice (some ⟨b, off, none⟩) n c) ∧ w'.cell? ⟨Bp, 2, none⟩ = some (.int .i64 f) ∧ w'.cell? ⟨b, off + i * 8, none⟩ = some (.int .i64 T.a) ∧ w'.cell? ⟨b, off + i * 8 + 1, none⟩ = some (.int .i64 T.s.c) ∧ w'.cell? ⟨b, off + i * 8 + 2, none⟩ = some (.int .i64 T.s.t) ∧ w'.cell? ⟨b, off + i * 8 + 3, none⟩ = some (.int .i64 T.s.mn) ∧ w'.cell? ⟨b, off + i * 8 + 4, none⟩ = some (.int .i64 T.s.mx) ∧ w'.cell? ⟨b, off + i * 8 + 5, none⟩ = some (.int .i64 T.s.f) ∧ w'.cell? ⟨b, off + i * 8 + 6, none⟩ = some (.int .i64 T.s.l) ∧ w'.cell? ⟨b, off + i * 8 + 7, none⟩ = some (.int .i64 T.s.r)) :=
    fun w' hb => ⟨(hb.cell (by exact World.block_lt_of_cell? _ _ ht)).trans ht, (hb.cell (by exact World.block_lt_of_cell? _ _ hl)).trans hl, (hb.cell (by exact World.block_lt_of_cell? _ _ hf)).trans hf, (hb.cell (by exact World.block_lt_of_cell? _ _ c0)).trans c0, (hb.cell (by exact World.block_lt_of_cell? _ _ c1)).trans c1, (hb.cell (by exact World.block_lt_of_cell? _ _ c2)).trans c2, (hb.cell (by exact World.block_lt_of_cell? _ _ c3)).trans c3, (hb.cell (by exact World.block_lt_of_cell? _ _ c4)).trans c4, (hb.cell (by exact World.block_lt_of_cell? _ _ c5)).trans c5, (hb.cell (by exact World.block_lt_of_cell? _ _ c6)).trans c6, (hb.cell (by exact World.block_lt_of_cell? _ _ c7)).trans c7⟩
  clear hcell hT hs hn hil c0 c1 c2 c3 c4 c5 c6 c7 ht hl hf
  go_enter Try.func144, Try.ntmps144
  go_wp2
  go_region_held3 (fun w' => w'.cell? ⟨Bt, 0, none⟩ = some (.func (.func 123) #[] #[]) ∧ w'.cell? ⟨Bl, 0, none⟩ = some (.slice (some ⟨b, off, none⟩) n c) ∧ w'.cell? ⟨Bp, 2, none⟩ = some (.int .i64 f) ∧ w'.cell? ⟨b, off + i * 8, none⟩ = some (.int .i64 T.a) ∧ w'.cell? ⟨b, off + i * 8 + 1, none⟩ = some (.int .i64 T.s.c) ∧ w'.cell? ⟨b, off + i * 8 + 2, none⟩ = some (.int .i64 T.s.t) ∧ w'.cell? ⟨b, off + i * 8 + 3, none⟩ = some (.int .i64 T.s.mn) ∧ w'.cell? ⟨b, off + i * 8 + 4, none⟩ = some (.int .i64 T.s.mx) ∧ w'.cell? ⟨b, off + i * 8 + 5, none⟩ = some (.int .i64 T.s.f) ∧ w'.cell? ⟨b, off + i * 8 + 6, none⟩ = some (.int .i64 T.s.l) ∧ w'.cell? ⟨b, off + i * 8 + 7, none⟩ = some (.int .i64 T.s.r)) (exact HS.out _ (by assumption))
    (first | (go_at_call 123; refine (krt_any T _).mono ?_; rintro e w1 ⟨rfl, hb1⟩; have R2 := below_pl hb1 (by assumption)))
  all_goals
    go_wp2
    go_ret
    exact ⟨rfl, R2⟩

/-- where a time comes, among rising ones -/
theorem krise_mono {l : List Grain.Bk} (h : l.Pairwise (fun x y => x.a < y.a)) (f : Int) : ∀ a b, a ≤ b → b < l.length → decide (f ≤ (Grain.bk l a).a) = true → decide (f ≤ (Grain.bk l b).a) = true := by
  intro a b hab hb ha
  rcases Nat.lt_or_ge a b with hl | hl
  · have := List.pairwise_iff_getElem.1 h a b (by omega) hb hl
    simp [Grain.bk, List.getD, List.getElem?_eq_getElem hb, List.getElem?_eq_getElem (show a < l.length by omega)] at ha ⊢
    omega
  · obtain rfl : a = b := by omega
    exact ha

set_option maxHeartbeats 2000000 in
theorem kwithin_any (l : List Grain.Bk) (ao : Option Addr) (n c : Nat) (p : Grain.Pt) (w : World) (hs : Seg w ao (kcells l)) (hn : n = l.length) (hc : n ≤ c) (hL : n ≤ 1000000) (hpw : l.Pairwise (fun x y => x.a < y.a)) (hft : p.f ≤ p.t) :
    Calls Try.prog 122 #[.slice ao n c, .agg #[.int .i64 p.k, .int .i64 p.f, .int .i64 p.t], .func (.func 123) #[] #[]] w fun e w' => ∃ (bo : Option Addr) (m d : Nat), e = .returned (.slice bo m d) ∧ Seg w bo (kcells (Grain.winB l p.f p.t)) ∧ Hid (m = (Grain.winB l p.f p.t).length) ∧ Below w.heap.size w w' := by
  obtain ⟨k, f, t⟩ := p
  simp only at hft
  obtain ⟨X, hX⟩ : ∃ X, X = w.heap.size := ⟨_, rfl⟩
  obtain ⟨V, hV⟩ : ∃ V, V = ((w.alloc (.cells #[.slice ao n c] 42)).alloc (.cells #[.int .i64 k, .int .i64 f, .int .i64 t] 112)).alloc (.cells #[.func (.func 123) #[] #[]] 161) := ⟨_, rfl⟩
  have bel : Below w.heap.size w V := by rw [hV]; exact (((Below.refl _ _).alloc (Nat.le_refl _) _).alloc (by simp) _).alloc (by simp; omega) _
  have B0 : V.heap[X]? = some (.cells #[.slice ao n c] 42 (0, 0)) := by
    rw [hV, hX, Below.heap_alloc _ _ _ (by simp; omega), Below.heap_alloc _ _ _ (by simp)]; exact heap_alloc_new w _
  have B1 : V.heap[X + 1]? = some (.cells #[.int .i64 k, .int .i64 f, .int .i64 t] 112 (0, 0)) := by
    rw [hV, hX, Below.heap_alloc _ _ _ (by simp)]; have := heap_alloc_new (w.alloc (.cells #[.slice ao n c] 42)) (.cells #[.int .i64 k, .int .i64 f, .int .i64 t] 112); rwa [World.size_alloc] at this
  have B2 : V.heap[X + 2]? = some (.cells #[.func (.func 123) #[] #[]] 161 (0, 0)) := by
    rw [hV, hX]; have := heap_alloc_new ((w.alloc (.cells #[.slice ao n c] 42)).alloc (.cells #[.int .i64 k, .int .i64 f, .int .i64 t] 112)) (.cells #[.func (.func 123) #[] #[]] 161); rwa [World.size_alloc, World.size_alloc] at this
  have cL : V.cell? ⟨X, 0, none⟩ = some (.slice ao n c) := by rw [cell_of_row V X _ _ _ (0, 0) B0]; rfl
  have cT : V.cell? ⟨X + 2, 0, none⟩ = some (.func (.func 123) #[] #[]) := by rw [cell_of_row V (X + 2) _ _ _ (0, 0) B2]; rfl
  obtain ⟨p0, p1, p2⟩ := three3 B1
  have lX := lt_of_block B0
  have lX1 := lt_of_block B1
  have lX2 := lt_of_block B2
  have hsV := hs.below bel
  have hE1 := hide (enters (P := Try.prog) (f := 143) Try.func143 (by kernel_rfl) (by kernel_rfl))
  have hE2 := hide (enters (P := Try.prog) (f := 144) Try.func144 (by kernel_rfl) (by kernel_rfl))
  have HA : Hid (∀ W, Below V.heap.size V W → Calls Try.prog 125 #[.int .i64 n, .func (.func 143) #[] #[.pointer (some ⟨X + 2, 0, none⟩), .pointer (some ⟨X, 0, none⟩), .pointer (some ⟨X + 1, 0, none⟩)]] W fun e w' => ∃ r : Nat, r ≤ n ∧ Hid ((∀ t, t < r → decide (f ≤ (Grain.bk l t).a) = false) ∧ ∀ t, r ≤ t → t < n → decide (f ≤ (Grain.bk l t).a) = true) ∧ e = .returned (.int .i64 r) ∧ Below W.heap.size W w') := by
    intro W hb
    refine search_any (fun i => decide (f ≤ (Grain.bk l i).a)) _ _ n W hL hE1 (fun W' i hi hb' => ?_) (fun a b h1 h2 => krise_mono hpw f a b h1 (by omega))
    have hbb := below_pl hb' hb
    exact kf1_any l ao n c (X + 2) X (X + 1) i f W' (hsV.below hbb) hn hi ((hbb.cell (by exact lX2)).trans cT) ((hbb.cell (by exact lX)).trans cL) ((hbb.cell (by exact lX1)).trans p1)
  have HB : Hid (∀ W, Below V.heap.size V W → Calls Try.prog 125 #[.int .i64 n, .func (.func 144) #[] #[.pointer (some ⟨X + 2, 0, none⟩), .pointer (some ⟨X, 0, none⟩), .pointer (some ⟨X + 1, 0, none⟩)]] W fun e w' => ∃ r : Nat, r ≤ n ∧ Hid ((∀ i, i < r → decide (t ≤ (Grain.bk l i).a) = false) ∧ ∀ i, r ≤ i → i < n → decide (t ≤ (Grain.bk l i).a) = true) ∧ e = .returned (.int .i64 r) ∧ Below W.heap.size W w') := by
    intro W hb
    refine search_any (fun i => decide (t ≤ (Grain.bk l i).a)) _ _ n W hL hE2 (fun W' i hi hb' => ?_) (fun a b h1 h2 => krise_mono hpw t a b h1 (by omega))
    have hbb := below_pl hb' hb
    exact kf2_any l ao n c (X + 2) X (X + 1) i t W' (hsV.below hbb) hn hi ((hbb.cell (by exact lX2)).trans cT) ((hbb.cell (by exact lX)).trans cL) ((hbb.cell (by exact lX1)).trans p2)
  have HN := hide hn
  have HV := hide hV
  have HX := hide hX
  have HS := hide hs
  have HPW := hide hpw
  have HFT := hide hft
  have hXV : X ≤ V.heap.size := by omega
  clear hn hV hX hs hsV hE1 hE2 B0 B1 B2 hpw p0 p1 p2 lX1 lX2 hft
  go_enter Try.func122, Try.ntmps122
  go_wp2_with fail
  rw [← HV.out, ← HX.out]
  refine (HA.out V (Below.refl _ _)).mono ?_
  rintro e w1 ⟨r1, hr1, I1, rfl, hb1⟩
  have cL1 := (hb1.cell (p := ⟨X, 0, none⟩) (by exact lX)).trans cL
  clear HA
  go_wp2_with fail
  refine (HB.out w1 hb1).mono ?_
  rintro e w2 ⟨r2, hr2, I2, rfl, hb2⟩
  have bel2 : Below V.heap.size V w2 := below_pl hb2 hb1
  have cL2 := (bel2.cell (p := ⟨X, 0, none⟩) (by exact lX)).trans cL
  have C := Grain.cut_filter (fun x : Grain.Bk => x.a) (l := l) (f := f) (t := t) (a := r1) (b := r2) (by rw [← HN.out]; exact hr1) (by rw [← HN.out]; exact hr2) (fun i hi => ?c1) (fun i hi => ?c2) HFT.out
  case c1 =>
    have e : (Grain.bk l i).a = l[i].a := by simp [Grain.bk, List.getD, List.getElem?_eq_getElem hi]
    rw [← e]
    constructor
    · intro h
      rcases Nat.lt_or_ge i r1 with h' | h'
      · exact h'
      · have := I1.out.2 i h' (by rw [HN.out]; exact hi)
        simp at this; omega
    · intro h
      have := I1.out.1 i h
      simp at this; omega
  case c2 =>
    have e : (Grain.bk l i).a = l[i].a := by simp [Grain.bk, List.getD, List.getElem?_eq_getElem hi]
    rw [← e]
    constructor
    · intro h
      rcases Nat.lt_or_ge i r2 with h' | h'
      · exact h'
      · have := I2.out.2 i h' (by rw [HN.out]; exact hi)
        simp at this; omega
    · intro h
      have := I2.out.1 i h
      simp at this; omega
  obtain ⟨h12, hcut⟩ := C
  obtain ⟨so, hso⟩ : ∃ so, so = cutP ao c r1 8 := ⟨_, rfl⟩
  obtain ⟨sl, hsl⟩ : ∃ sl, sl = r2 - r1 := ⟨_, rfl⟩
  obtain ⟨sd, hsd⟩ : ∃ sd, sd = c - r1 := ⟨_, rfl⟩
  have hseg : Seg w so (kcells (Grain.winB l f t)) := by
    rw [hso, show Grain.winB l f t = (l.take r2).drop r1 from hcut.symm, ← kcells_td]
    exact seg_cutP (n := n) HS.out (by rw [kcells_length, HN.out]) hc h12 (by omega)
  have hlen : sl = (Grain.winB l f t).length := by
    rw [hsl, show Grain.winB l f t = (l.take r2).drop r1 from hcut.symm, List.length_drop, List.length_take, ← HN.out]; omega
  have hsl1 : ∀ w, Sem.run Try.prog (Instr.slice 42 (.slice ao n c) (some (.int .i64 r1)) (some (.int .i64 r2)) none) w = .ok (.slice so sl sd) w := by
    intro w
    rw [run_slice_lh (P := Try.prog) (t := 42) (ht := by kernel_rfl) (a := ao) (len := n) (cap := c) (kl := .i64) (kh := .i64) (l := (r1 : Int)) (h := (r2 : Int)) (h0 := by omega) (h1 := by omega) (h2 := by omega)]
    rw [hso, hsl, hsd]
    simp [sliced, cutP, go_sem]
  have hsl2 : ∀ w, Sem.run Try.prog (Instr.sliceAt 42 (.slice ao n c) (some (.int .i64 r1)) (some (.int .i64 r2)) none) w = .ok (.slice so sl sd) w := by
    intro w
    rw [run_sliceAt_slice (P := Try.prog) (t := 42) (h := by kernel_rfl)]
    exact hsl1 w
  have HG := hide hseg
  have HLn := hide hlen
  clear hso hsl hsd hcut hseg hlen I1 I2 HS HPW
  go_wp2
  go_ret
  exact ⟨so, sl, sd, rfl, HG.out, HLn, by first | exact bel.trans (bel2.mono bel.size) | (rw [← HX.out]; exact bel.trans (bel2.mono hXV))⟩

end Go.Proofs.Ytfgablhgjbjbkae

/-
  The walk of roll.Of: what the buckets of a window come to.
-/
namespace Go.Proofs.Ytfgablhgjbjbkae
open Go.RowKit Go.GrainU

theorem kof_more {w wr : World} {s : Grain.Sm} (I : OfInv w wr s) (o : Obj) : OfInv w (wr.alloc o) s := by
  have h2 := lt_of_block I.cur
  have h1 := lt_of_block I.res
  refine ⟨?_, ?_, I.bel.alloc (by omega) _⟩
  · show (wr.alloc _).heap[_]? = _
    rw [Below.heap_alloc _ _ _ h1]; exact I.res
  · show (wr.alloc _).heap[_]? = _
    rw [Below.heap_alloc _ _ _ h2]; exact I.cur

set_option maxHeartbeats 2000000 in
theorem kof_any (B : List Grain.Bk) (ao : Option Addr) (n cap : Nat) (f t : Int) (w : World) (hs : Seg w ao (kcells B)) (hn : n = B.length) (hL : n ≤ 1000000) :
    Calls Try.prog 124 #[.slice ao n cap, .int .i64 f, .int .i64 t] w fun e w' => ∃ J : Grain.Sm, Hid (J = Grain.inB B f t) ∧ e = .returned (.agg #[.int .i64 J.c, .int .i64 J.t, .int .i64 J.mn, .int .i64 J.mx, .int .i64 J.f, .int .i64 J.l, .int .i64 J.r]) ∧ Below w.heap.size w w' := by
  have HN := hide hn
  clear hn
  go_enter Try.func124, Try.ntmps124
  go_wp2
  go_loopw [12] (fun i wr => ∃ (k : Nat) (s : Grain.Sm), k ≤ n ∧ i = .int .i64 k ∧ Hid (s = Grain.inB (B.take k) f t) ∧ OfInv w wr s) (fun i _ => n - (intOf i).toNat)
  case atStart => exact ⟨0, _, Nat.zero_le _, rfl, rfl, OfInv.start w⟩
  case round =>
    obtain ⟨k, s, hk, rfl, HS, I⟩ := hrel
    by_cases hlt : k < n
    · have hkl : k < B.length := by rw [← HN.out]; exact hlt
      obtain ⟨b, off, rfl, hb, hcell⟩ := seg_bucket hs hkl
      obtain ⟨K, hK⟩ : ∃ K, K = Grain.bk B k := ⟨_, rfl⟩
      have q := (hcell k hkl).below I.bel hb
      rw [← hK] at q
      obtain ⟨c0, c1, c2, c3, c4, c5, c6, c7⟩ := q
      have HT : Hid (Grain.inB (B.take (k + 1)) f t = if f ≤ K.a ∧ K.a < t then Grain.join s K.s else s) := by
        show _ = _
        rw [Grain.inB_take f t hkl, ← hK, ← HS.out]
      have I1 := kof_more I (ko K)
      have hw1 : w.heap.size + 1 < wr.heap.size := lt_of_block I.cur
      obtain ⟨s0, s1, s2, s3, s4, s5, s6⟩ := I.cur.cells
      clear hcell hK hkl HS I
      by_cases h1 : f ≤ K.a
      · by_cases h2 : K.a < t
        · go_wp2_with fail
          refine (join_let s K.s _).mono ?_
          rintro e w2 ⟨J, HJ, rfl, hb2⟩
          have I3 := I1.call hb2
          obtain ⟨q0, q1, q2, q3, q4, q5, q6⟩ := I3.cur.cells
          obtain ⟨r0, r1, r2, r3, r4, r5, r6⟩ := seven_thaw I3.cur
          have I4 := I3.store J
          have HK : Hid (J = Grain.inB (B.take (k + 1)) f t) := by
            show J = _
            rw [HT.out, if_pos ⟨h1, h2⟩]; exact HJ.out
          clear HJ HT I1 I3 hb2 s0 s1 s2 s3 s4 s5 s6 c0 c1 c2 c3 c4 c5 c6 c7 h1 h2 hw1
          go_wp2
          go_roundw
          case rel => exact ⟨k + 1, J, by omega, by go_num, HK, I4⟩
          case measure => simp [intOf]; omega
        · have HK : Hid (s = Grain.inB (B.take (k + 1)) f t) := by
            show s = _
            rw [HT.out, if_neg (by omega)]
          clear HT s0 s1 s2 s3 s4 s5 s6
          go_wp2
          go_roundw
          case rel => exact ⟨k + 1, s, by omega, by go_num, HK, I1⟩
          case measure => simp [intOf]; omega
      · have HK : Hid (s = Grain.inB (B.take (k + 1)) f t) := by
          show s = _
          rw [HT.out, if_neg (by omega)]
        clear HT s0 s1 s2 s3 s4 s5 s6
        go_wp2
        go_roundw
        case rel => exact ⟨k + 1, s, by omega, by go_num, HK, I1⟩
        case measure => simp [intOf]; omega
    · have he : k = n := by omega
      subst he
      have HT := hide (List.take_of_length_le (i := k) (l := B) (by rw [← HN.out]; omega))
      have HJ : Hid (s = Grain.inB B f t) := by
        show s = _
        rw [HS.out, HT.out]
      obtain ⟨s0, s1, s2, s3, s4, s5, s6⟩ := I.cur.cells
      obtain ⟨z0, z1, z2, z3, z4, z5, z6⟩ := seven_cells I.res
      obtain ⟨r0, r1, r2, r3, r4, r5, r6⟩ := seven_thaw I.res
      clear HT HN HS
      go_wp2
      exact bodyPost_ret (v := sv s) (by simp [results, Try.results124, go_sem, sv, z0, z1, z2, z3, z4, z5, z6]) rfl ⟨s, HJ, rfl, below_set7 I.bel (Nat.le_refl _) _ _ _ _ _ _ _⟩

end Go.Proofs.Ytfgablhgjbjbkae

/-
  The walks of plan's readBuckets and readPart.
-/
namespace Grain

theorem inB_filter (f t : Int) : ∀ (B : List Bk) (s : Sm), (winB B f t).foldl (fun acc b => if f ≤ b.a ∧ b.a < t then join acc b.s else acc) s = B.foldl (fun acc b => if f ≤ b.a ∧ b.a < t then join acc b.s else acc) s := by
  intro B
  induction B with
  | nil => intro s; rfl
  | cons b r ih =>
    intro s
    by_cases h : f ≤ b.a ∧ b.a < t
    · unfold winB at ih ⊢
      rw [List.filter_cons_of_pos (by simpa using h), List.foldl_cons, List.foldl_cons, ih]
    · unfold winB at ih ⊢
      rw [List.filter_cons_of_neg (by simpa using h), List.foldl_cons, if_neg h, ih]

theorem inB_winB (B : List Bk) (f t : Int) : inB (winB B f t) f t = inB B f t := inB_filter f t B zero

end Grain
namespace Go.Proofs.Ytfgablhgjbjbkae
open Go.RowKit Go.GrainU

/-- no sum yet -/
def sbz : Obj := .cells #[.int .i64 0, .int .i64 0, .int .i64 0, .int .i64 0, .int .i64 0, .int .i64 0, .int .i64 0] 62

set_option maxRecDepth 20000 in
set_option maxHeartbeats 2000000 in
theorem rbk_any (l : List Grain.Bk) (ao : Option Addr) (n c : Nat) (p : Grain.Pt) (w : World) (hs : Seg w ao (kcells l)) (hn : n = l.length) (hc : n ≤ c) (hL : n ≤ 1000000) (hpw : l.Pairwise (fun x y => x.a < y.a)) (hft : p.f ≤ p.t) :
    Calls Try.prog 103 #[.slice ao n c, .agg #[.int .i64 p.k, .int .i64 p.f, .int .i64 p.t]] w fun e w' => ∃ (J : Grain.Sm) (m : Nat), e = .returned (.tuple #[.agg #[.int .i64 J.c, .int .i64 J.t, .int .i64 J.mn, .int .i64 J.mx, .int .i64 J.f, .int .i64 J.l, .int .i64 J.r], .int .i64 m]) ∧ Hid (J = Grain.inB l p.f p.t) ∧ Hid (m = (Grain.winB l p.f p.t).length) ∧ Below w.heap.size w w' := by
  obtain ⟨X, hX⟩ : ∃ X, X = w.heap.size := ⟨_, rfl⟩
  obtain ⟨V, hV⟩ : ∃ V, V = (w.alloc (.cells #[.int .i64 p.k, .int .i64 p.f, .int .i64 p.t] 112)).alloc (.cells #[.int .i64 0, .int .i64 0, .int .i64 0, .int .i64 0, .int .i64 0, .int .i64 0, .int .i64 0] 62) := ⟨_, rfl⟩
  have bel : Below w.heap.size w V := by rw [hV]; exact ((Below.refl _ _).alloc (Nat.le_refl _) _).alloc (by simp) _
  have P0 : V.heap[X]? = some (.cells #[.int .i64 p.k, .int .i64 p.f, .int .i64 p.t] 112 (0, 0)) := by
    rw [hV, hX, Below.heap_alloc _ _ _ (by simp)]; exact heap_alloc_new w _
  have Z0 : SumAt V (X + 1) Grain.zero := by
    show V.heap[X + 1]? = _
    rw [hV, hX]; have := heap_alloc_new (w.alloc (.cells #[.int .i64 p.k, .int .i64 p.f, .int .i64 p.t] 112)) (.cells #[.int .i64 0, .int .i64 0, .int .i64 0, .int .i64 0, .int .i64 0, .int .i64 0, .int .i64 0] 62); rwa [World.size_alloc] at this
  have hsV := hs.below bel
  have hXV : X + 1 < V.heap.size := lt_of_block Z0
  have HV := hide hV
  have HX := hide hX
  have HPW := hide hpw
  have HFT := hide hft
  have HN := hide hn
  clear hV hX hs hpw hft hn
  go_enter Try.func103, Try.ntmps103
  go_wp2_with fail
  rw [← HV.out, ← HX.out]
  refine (kwithin_any l ao n c p V hsV HN.out hc hL HPW.out HFT.out).mono ?_
  rintro e w1 ⟨bo, m, d, rfl, seg1, HM, hb1⟩
  have hm : m ≤ 1000000 := by
    have : (Grain.winB l p.f p.t).length ≤ l.length := List.length_filter_le _ _
    have := HM.out
    have := HN.out
    omega
  have P1 := below_block hb1 P0
  have Z1 := Z0.below hb1
  have seg2 := seg1.below hb1
  have bel1 : Below w.heap.size w w1 := below_pl hb1 bel
  obtain ⟨p0, p1, p2⟩ := three3 P1
  clear hb1 seg1 Z0 P0 hsV
  go_wp2_with fail
  refine (kof_any (Grain.winB l p.f p.t) bo m d p.f p.t w1 seg2 HM.out hm).mono ?_
  rintro e w2 ⟨J, HJ, rfl, hb2⟩
  have Z2 := Z1.below hb2
  have bel2 : Below w.heap.size w w2 := below_pl hb2 bel1
  obtain ⟨z0, z1, z2, z3, z4, z5, z6⟩ := Z2.cells
  obtain ⟨y0, y1, y2, y3, y4, y5, y6⟩ := seven_thaw Z2
  go_wp2
  exact bodyPost_ret (v := .tuple #[.agg #[.int .i64 J.c, .int .i64 J.t, .int .i64 J.mn, .int .i64 J.mx, .int .i64 J.f, .int .i64 J.l, .int .i64 J.r], .int .i64 m]) (by simp [results, Try.results103, go_sem, z0, z1, z2, z3, z4, z5, z6]) rfl ⟨J, m, rfl, by rw [HJ.out, Grain.inB_winB]; exact (rfl : Hid _), HM, below_set7 bel2 (by have := HX.out; omega) _ _ _ _ _ _ _⟩

set_option maxRecDepth 20000 in
set_option maxHeartbeats 2000000 in
theorem rpart_any (x : ShT) (p : Grain.Pt) (w : World) (hx : ShIn w x) (hcap : ShCap x) (h1 : x.s.ra.length ≤ 500) (h2 : x.s.fi.length ≤ 500) (h3 : x.s.co.length ≤ 500) (q1 : x.s.ra.Pairwise (fun a b => a.1 < b.1)) (q2 : x.s.fi.Pairwise (fun a b => a.a < b.a)) (q3 : x.s.co.Pairwise (fun a b => a.a < b.a)) (hft : p.f ≤ p.t) :
    Calls Try.prog 77 #[.agg #[.slice x.a0 x.s.se.length x.c0, .slice x.a1 x.s.ra.length x.c1, .slice x.a2 x.s.fi.length x.c2, .slice x.a3 x.s.co.length x.c3, .int .i64 x.s.rf, .int .i64 x.s.ff, .int .i64 x.s.ft, .int .i64 x.s.cf, .int .i64 x.s.ct], .agg #[.int .i64 p.k, .int .i64 p.f, .int .i64 p.t]] w fun e w' => ∃ (J : Grain.Sm) (m : Nat), e = .returned (.tuple #[.agg #[.int .i64 J.c, .int .i64 J.t, .int .i64 J.mn, .int .i64 J.mx, .int .i64 J.f, .int .i64 J.l, .int .i64 J.r], .int .i64 m]) ∧ Hid (J = Grain.psum x.s p) ∧ Hid (m = Grain.pcost x.s p) ∧ Below w.heap.size w w' := by
  obtain ⟨k, f, t⟩ := p
  obtain ⟨X, hX⟩ : ∃ X, X = w.heap.size := ⟨_, rfl⟩
  obtain ⟨V, hV⟩ : ∃ V, V = ((w.alloc (.cells #[.slice x.a0 x.s.se.length x.c0, .slice x.a1 x.s.ra.length x.c1, .slice x.a2 x.s.fi.length x.c2, .slice x.a3 x.s.co.length x.c3, .int .i64 x.s.rf, .int .i64 x.s.ff, .int .i64 x.s.ft, .int .i64 x.s.cf, .int .i64 x.s.ct] 44)).alloc (.cells #[.int .i64 k, .int .i64 f, .int .i64 t] 112)).alloc (.cells #[.int .i64 0, .int .i64 0, .int .i64 0, .int .i64 0, .int .i64 0, .int .i64 0, .int .i64 0] 62) := ⟨_, rfl⟩
  have bel : Below w.heap.size w V := by rw [hV]; exact (((Below.refl _ _).alloc (Nat.le_refl _) _).alloc (by simp) _).alloc (by simp; omega) _
  have Z0 : SumAt V (X + 2) Grain.zero := by
    show V.heap[X + 2]? = _
    rw [hV, hX]; have := heap_alloc_new ((w.alloc (.cells #[.slice x.a0 x.s.se.length x.c0, .slice x.a1 x.s.ra.length x.c1, .slice x.a2 x.s.fi.length x.c2, .slice x.a3 x.s.co.length x.c3, .int .i64 x.s.rf, .int .i64 x.s.ff, .int .i64 x.s.ft, .int .i64 x.s.cf, .int .i64 x.s.ct] 44)).alloc (.cells #[.int .i64 k, .int .i64 f, .int .i64 t] 112)) (.cells #[.int .i64 0, .int .i64 0, .int .i64 0, .int .i64 0, .int .i64 0, .int .i64 0, .int .i64 0] 62); rwa [World.size_alloc, World.size_alloc] at this
  have hxV := hx.below bel
  have HV := hide hV
  have HX := hide hX
  have HP1 := hide q1
  have HP2 := hide q2
  have HP3 := hide q3
  have HL1 : Hid (x.s.ra.length ≤ 1000000) := by show _ ≤ _; omega
  have HL2 : Hid (x.s.fi.length ≤ 1000000) := by show _ ≤ _; omega
  have HL3 : Hid (x.s.co.length ≤ 1000000) := by show _ ≤ _; omega
  have HFT := hide hft
  simp only [Grain.psum, Grain.pcost]
  clear hV hX q1 q2 q3 hft hx h1 h2 h3
  by_cases k1 : k = 1
  · subst k1
    go_enter Try.func77, Try.ntmps77
    go_wp2_with fail
    rw [← HV.out, ← HX.out]
    refine (rbk_any x.s.fi x.a2 _ x.c2 ⟨1, f, t⟩ V hxV.g2 rfl hcap.k2 HL2.out HP2.out HFT.out).mono ?_
    rintro e w1 ⟨J, m, rfl, HJ, HM, hb1⟩
    have Z1 := Z0.below hb1
    have bel1 : Below w.heap.size w w1 := below_pl hb1 bel
    obtain ⟨z0, z1, z2, z3, z4, z5, z6⟩ := Z1.cells
    obtain ⟨y0, y1, y2, y3, y4, y5, y6⟩ := seven_thaw Z1
    go_wp2
    exact bodyPost_ret (v := .tuple #[.agg #[.int .i64 J.c, .int .i64 J.t, .int .i64 J.mn, .int .i64 J.mx, .int .i64 J.f, .int .i64 J.l, .int .i64 J.r], .int .i64 m]) (by simp [results, Try.results77, go_sem, z0, z1, z2, z3, z4, z5, z6]) rfl ⟨J, m, rfl, HJ, HM, below_set7 bel1 (by have := HX.out; omega) _ _ _ _ _ _ _⟩
  · by_cases k2 : k = 2
    · subst k2
      go_enter Try.func77, Try.ntmps77
      go_wp2_with fail
      rw [← HV.out, ← HX.out]
      refine (rbk_any x.s.co x.a3 _ x.c3 ⟨2, f, t⟩ V hxV.g3 rfl hcap.k3 HL3.out HP3.out HFT.out).mono ?_
      rintro e w1 ⟨J, m, rfl, HJ, HM, hb1⟩
      have Z1 := Z0.below hb1
      have bel1 : Below w.heap.size w w1 := below_pl hb1 bel
      obtain ⟨z0, z1, z2, z3, z4, z5, z6⟩ := Z1.cells
      obtain ⟨y0, y1, y2, y3, y4, y5, y6⟩ := seven_thaw Z1
      go_wp2
      exact bodyPost_ret (v := .tuple #[.agg #[.int .i64 J.c, .int .i64 J.t, .int .i64 J.mn, .int .i64 J.mx, .int .i64 J.f, .int .i64 J.l, .int .i64 J.r], .int .i64 m]) (by simp [results, Try.results77, go_sem, z0, z1, z2, z3, z4, z5, z6]) rfl ⟨J, m, rfl, HJ, HM, below_set7 bel1 (by have := HX.out; omega) _ _ _ _ _ _ _⟩
    · have e1 : (k == 1) = false := by simpa using k1
      have e2 : (k == 2) = false := by simpa using k2
      simp only [k1, k2, if_false]
      go_enter Try.func77, Try.ntmps77
      go_wp2_with fail
      rw [← HV.out, ← HX.out]
      refine (within_any x.s.ra x.a1 _ x.c1 ⟨k, f, t⟩ V hxV.g1 rfl hcap.k1 HL1.out HP1.out HFT.out).mono ?_
      rintro e w1 ⟨bo, m, d, rfl, seg1, HM, hb1⟩
      have hm : m ≤ 1152921504606846975 := by
        have : (Grain.win x.s.ra f t).length ≤ x.s.ra.length := List.length_filter_le _ _
        have h1 : m = (Grain.win x.s.ra f t).length := HM.out
        have := HL1.out
        omega
      have Z1 := Z0.below hb1
      have seg2 := seg1.below hb1
      have bel1 : Below w.heap.size w w1 := below_pl hb1 bel
      clear hb1 seg1 Z0
      go_wp2_with fail
      refine (of_len _ bo m d w1 seg2 HM.out hm).mono ?_
      rintro e w2 ⟨J, HJ, rfl, hb2⟩
      have Z2 := Z1.below hb2
      have bel2 : Below w.heap.size w w2 := below_pl hb2 bel1
      obtain ⟨z0, z1, z2, z3, z4, z5, z6⟩ := Z2.cells
      obtain ⟨y0, y1, y2, y3, y4, y5, y6⟩ := seven_thaw Z2
      go_wp2
      exact bodyPost_ret (v := .tuple #[.agg #[.int .i64 J.c, .int .i64 J.t, .int .i64 J.mn, .int .i64 J.mx, .int .i64 J.f, .int .i64 J.l, .int .i64 J.r], .int .i64 m]) (by simp [results, Try.results77, go_sem, z0, z1, z2, z3, z4, z5, z6]) rfl ⟨J, m, rfl, HJ, HM, below_set7 bel2 (by have := HX.out; omega) _ _ _ _ _ _ _⟩

end Go.Proofs.Ytfgablhgjbjbkae

/-
  The walk of plan's Read.
-/
namespace Grain
theorem pcost_le {s : Shf} (h1 : s.ra.length ≤ 500) (h2 : s.fi.length ≤ 500) (h3 : s.co.length ≤ 500) (p : Pt) : pcost s p ≤ 500 := by
  unfold pcost
  split
  · exact Nat.le_trans (List.length_filter_le _ _) h2
  · split
    · exact Nat.le_trans (List.length_filter_le _ _) h3
    · exact Nat.le_trans (List.length_filter_le _ _) h1
end Grain
namespace Go.Proofs.Ytfgablhgjbjbkae
open Go.RowKit Go.GrainU

set_option maxRecDepth 20000 in
set_option maxHeartbeats 4000000 in
theorem read_any (x : ShT) (l : List Grain.Pt) (ao : Option Addr) (n c : Nat) (w : World) (hx : ShIn w x) (hcap : ShCap x) (hs : Seg w ao (pcells l)) (hn : n = l.length) (hL : n ≤ 1000000000000000) :
    Calls Try.prog 33 #[x.v, .slice ao n c] w fun e w' => ∃ (J : Grain.Sm) (N E : Int), e = .returned (.tuple #[.agg #[.int .i64 J.c, .int .i64 J.t, .int .i64 J.mn, .int .i64 J.mx, .int .i64 J.f, .int .i64 J.l, .int .i64 J.r], .int .i64 N, .int .i64 E]) ∧ Hid (Grain.read x.s l = (J, N, E)) ∧ Below w.heap.size w w' := by
  have HN := hide hn
  clear hn
  obtain ⟨X, hX⟩ : ∃ X, X = w.heap.size := ⟨_, rfl⟩
  obtain ⟨V, hV⟩ : ∃ V, V = (w.alloc (so x)).alloc (.cells #[.int .i64 0, .int .i64 0, .int .i64 0, .int .i64 0, .int .i64 0, .int .i64 0, .int .i64 0] 62) := ⟨_, rfl⟩
  have bel : Below w.heap.size w V := by rw [hV]; exact ((Below.refl _ _).alloc (Nat.le_refl _) _).alloc (by simp) _
  have S0 : V.heap[X]? = some (so x) := by rw [hV, hX, Below.heap_alloc _ _ _ (by simp)]; exact heap_alloc_new w _
  have Z0 : SumAt V (X + 1) Grain.zero := by
    show V.heap[X + 1]? = _
    rw [hV, hX]; have := heap_alloc_new (w.alloc (so x)) (.cells #[.int .i64 0, .int .i64 0, .int .i64 0, .int .i64 0, .int .i64 0, .int .i64 0, .int .i64 0] 62); rwa [World.size_alloc] at this
  have hxV := hx.below bel
  have hsV := hs.below bel
  have HV : Hid (V = (w.alloc (.cells #[.slice x.a0 x.s.se.length x.c0, .slice x.a1 x.s.ra.length x.c1, .slice x.a2 x.s.fi.length x.c2, .slice x.a3 x.s.co.length x.c3, .int .i64 x.s.rf, .int .i64 x.s.ff, .int .i64 x.s.ft, .int .i64 x.s.cf, .int .i64 x.s.ct] 44)).alloc (.cells #[.int .i64 0, .int .i64 0, .int .i64 0, .int .i64 0, .int .i64 0, .int .i64 0, .int .i64 0] 62)) := hV
  have HX := hide hX
  have Hv : Hid (x.v = .agg #[.slice x.a0 x.s.se.length x.c0, .slice x.a1 x.s.ra.length x.c1, .slice x.a2 x.s.fi.length x.c2, .slice x.a3 x.s.co.length x.c3, .int .i64 x.s.rf, .int .i64 x.s.ff, .int .i64 x.s.ft, .int .i64 x.s.cf, .int .i64 x.s.ct]) := rfl
  obtain ⟨E, hE⟩ : ∃ E, E = Grain.swrong x.s := ⟨_, rfl⟩
  have HE := hide hE
  clear hV hX hE hx hs
  rw [Hv.out]
  go_enter Try.func33, Try.ntmps33
  go_wp2_with fail
  rw [← HV.out, ← Hv.out]
  refine (swrong_any x V hxV).mono ?_
  rintro e w1 ⟨rfl, hb1⟩
  rw [← HE.out, ← HX.out]
  have bel1 : Below w.heap.size w w1 := below_pl hb1 bel
  have S1 := below_block hb1 S0
  have Z1 := Z0.below hb1
  have hx1 := hxV.below hb1
  have hs1 := hsV.below hb1
  clear hb1 S0 Z0 hxV hsV
  by_cases hw : E = 0
  · subst hw
    have sr := (Grain.sr_iff x.s).1 HE.out.symm
    obtain ⟨b, hb⟩ : ∃ b, b = Grain.fol x.s l := ⟨_, rfl⟩
    have HB := hide hb
    clear hb
    obtain ⟨x0, x1, x2, x3, x4, x5, x6, x7, x8⟩ := nine_cells S1
    go_wp2_with fail
    refine (follow_any x.s _ _ _ _ l ao n c b w1 hs1 HN.out hL HB.out).mono ?_
    rintro e w2 ⟨rfl, hb2⟩
    have bel2 : Below w.heap.size w w2 := below_pl hb2 bel1
    have S2 := below_block hb2 S1
    have Z2 := Z1.below hb2
    have hx2 := hx1.below hb2
    have hs2 := hs1.below hb2
    clear hb2 S1 Z1 hx1 hs1 x0 x1 x2 x3 x4 x5 x6 x7 x8 bel1
    cases b
    · obtain ⟨z0, z1, z2, z3, z4, z5, z6⟩ := Z2.cells
      obtain ⟨y0, y1, y2, y3, y4, y5, y6⟩ := seven_thaw Z2
      have HR : Hid (Grain.read x.s l = (Grain.zero, 0, 8)) := by
        show _ = _
        rw [Grain.read, if_neg (by simp [← HE.out]), if_pos HB.out.symm]
      go_wp2
      exact bodyPost_ret (v := .tuple #[.agg #[.int .i64 0, .int .i64 0, .int .i64 0, .int .i64 0, .int .i64 0, .int .i64 0, .int .i64 0], .int .i64 0, .int .i64 8]) (by simp [results, Try.results33, go_sem, z0, z1, z2, z3, z4, z5, z6]) rfl ⟨Grain.zero, 0, 8, rfl, HR, below_set7 bel2 (by have := HX.out; omega) _ _ _ _ _ _ _⟩
    · have HR : Hid (Grain.read x.s l = (Grain.rdS x.s l, (Grain.rdN x.s l : Int), 0)) := by
        show _ = _
        rw [Grain.read, if_neg (by simp [← HE.out]), if_neg (by rw [← HB.out]; decide)]
      have HO := hide ((Grain.fol_iff x.s l).1 HB.out.symm)
      obtain ⟨B, hB⟩ : ∃ B, B = w2.heap.size := ⟨_, rfl⟩
      obtain ⟨U, hU⟩ : ∃ U, U = w2.alloc (.cells #[.int .i64 0, .int .i64 0, .int .i64 0, .int .i64 0, .int .i64 0, .int .i64 0, .int .i64 0] 62) := ⟨_, rfl⟩
      have A0 : SumAt U B Grain.zero := by show U.heap[B]? = _; rw [hU, hB]; exact heap_alloc_new w2 _
      have belU : Below w2.heap.size w2 U := by rw [hU]; exact (Below.refl _ _).alloc (Nat.le_refl _) _
      have HU := hide hU
      have HBB := hide hB
      clear hU hB
      go_wp2
      rw [← HU.out, ← HBB.out]
      go_loopw [9, 27] (fun s9 s27 wr => ∃ (k N : Nat) (s : Grain.Sm), k ≤ n ∧ s9 = .int .i64 N ∧ s27 = .int .i64 k ∧ N ≤ 500 * k ∧ SumAt wr B s ∧ Below w2.heap.size w2 wr ∧ Hid (s = Grain.rdS x.s (l.take k)) ∧ Hid (N = Grain.rdN x.s (l.take k))) (fun _ s27 _ => n - (intOf s27).toNat)
      case atStart => exact ⟨0, 0, Grain.zero, Nat.zero_le _, rfl, rfl, by omega, A0, belU, rfl, rfl⟩
      case round =>
        obtain ⟨k, N, s, hk, rfl, rfl, hNk, A1, belr, H1, H2⟩ := hrel
        have S3 := below_block belr S2
        have hsz := belr.size
        by_cases hlt : k < n
        · have hkl : k < l.length := by rw [← HN.out]; exact hlt
          obtain ⟨bb, off, rfl, hbl, hcell⟩ := seg_part hs2 hkl
          obtain ⟨P, hP⟩ : ∃ P, P = Grain.pt l k := ⟨_, rfl⟩
          have q := (hcell k hkl).below belr hbl
          rw [← hP] at q
          obtain ⟨c0, c1, c2⟩ := q
          have hpft : P.f ≤ P.t := by
            have := HO.out k hkl
            unfold Grain.okp at this
            simp only [Bool.and_eq_true] at this
            have := Grain.may_lt this.1
            rw [hP]; omega
          have T1 : Hid (Grain.rdS x.s (l.take (k + 1)) = Grain.join s (Grain.psum x.s P)) := by
            show _ = _
            rw [Grain.take_pt hkl, Grain.rdS_snoc, ← hP, ← H1.out]
          have T2 : Hid (Grain.rdN x.s (l.take (k + 1)) = N + Grain.pcost x.s P) := by
            show _ = _
            rw [Grain.take_pt hkl, Grain.rdN_snoc, ← hP, ← H2.out]
          have hpc := Grain.pcost_le sr.rlen sr.flen sr.clen P
          obtain ⟨W, hW⟩ : ∃ W, W = wr.alloc (.cells #[.int .i64 P.k, .int .i64 P.f, .int .i64 P.t] 112) := ⟨_, rfl⟩
          have hbW : Below wr.heap.size wr W := by rw [hW]; exact (Below.refl _ _).alloc (Nat.le_refl _) _
          have belW : Below w2.heap.size w2 W := below_pl hbW belr
          have A2 := A1.below hbW
          have HW := hide hW
          obtain ⟨x0, x1, x2, x3, x4, x5, x6, x7, x8⟩ := nine_cells S3
          have Xl : X < wr.heap.size := lt_of_block S3
          have Bl : B < wr.heap.size := lt_of_block A1
          have hxW := hx2.below belW
          clear hW hP hcell hkl H1 H2
          go_wp2_with fail
          rw [← HW.out]
          refine (rpart_any x P W hxW hcap sr.rlen sr.flen sr.clen sr.rpw sr.fpw sr.cpw hpft).mono ?_
          rintro e w3 ⟨J, m, rfl, HJ, HM, hb3⟩
          have bel3 : Below w2.heap.size w2 w3 := below_pl hb3 belW
          have A3 := A2.below hb3
          obtain ⟨W4, hW4⟩ : ∃ W4, W4 = w3.alloc (.cells #[.int .i64 J.c, .int .i64 J.t, .int .i64 J.mn, .int .i64 J.mx, .int .i64 J.f, .int .i64 J.l, .int .i64 J.r] 62) := ⟨_, rfl⟩
          have hb4 : Below w3.heap.size w3 W4 := by rw [hW4]; exact (Below.refl _ _).alloc (Nat.le_refl _) _
          have A4 := A3.below hb4
          have bel4 : Below w2.heap.size w2 W4 := below_pl hb4 bel3
          have HW4 := hide hW4
          obtain ⟨a0, a1, a2, a3, a4, a5, a6⟩ := A3.cells
          have Bl3 : B < w3.heap.size := lt_of_block A3
          clear hW4 x0 x1 x2 x3 x4 x5 x6 x7 x8 c0 c1 c2 hb3 hbW belW A2 A1 belr Xl Bl hxW S3
          go_wp2_with fail
          rw [← HW4.out]
          refine (join_let s J W4).mono ?_
          rintro e w5 ⟨Q, HQ, rfl, hb5⟩
          have A5 := A4.below hb5
          have bel5 : Below w2.heap.size w2 w5 := below_pl hb5 bel4
          obtain ⟨g0, g1, g2, g3, g4, g5, g6⟩ := A5.cells
          obtain ⟨y0, y1, y2, y3, y4, y5, y6⟩ := seven_thaw A5
          have hmm : m ≤ 500 := by rw [HM.out]; exact hpc
          have hw1 : IntKind.i64.wrap ((N : Int) + (m : Int)) = ((N + m : Nat) : Int) := by rw [IntKind.wrap_i64]; omega
          have hw2 : IntKind.i64.wrap (((N + m : Nat) : Int)) = ((N + m : Nat) : Int) := by rw [IntKind.wrap_i64]; omega
          have T3 : Hid (Q = Grain.rdS x.s (l.take (k + 1))) := by show _ = _; rw [T1.out, HQ.out, HJ.out]
          have T4 : Hid (N + m = Grain.rdN x.s (l.take (k + 1))) := by show _ = _; rw [T2.out, HM.out]
          clear T1 T2 HJ HQ a0 a1 a2 a3 a4 a5 a6 A3 A4 bel3 bel4 hb4 hb5 HW4 HW
          go_wp2
          go_roundw
          case rel => exact ⟨k + 1, N + m, Q, by omega, by go_num, by go_num, by omega, A5.set Q, below_set7 bel5 (by have := HBB.out; omega) _ _ _ _ _ _ _, T3, T4⟩
          case measure => simp [intOf]; omega
        · obtain ⟨g0, g1, g2, g3, g4, g5, g6⟩ := A1.cells
          have Z3 := Z2.below belr
          obtain ⟨z0, z1, z2, z3, z4, z5, z6⟩ := Z3.cells
          obtain ⟨y0, y1, y2, y3, y4, y5, y6⟩ := seven_thaw Z3
          have ek : l.take k = l := List.take_of_length_le (by have := HN.out; omega)
          have HR2 : Hid (Grain.read x.s l = (s, (N : Int), 0)) := by
            show _ = _
            rw [HR.out, H1.out, H2.out, ek]
          clear HR H1 H2 ek
          go_wp2
          exact bodyPost_ret (v := .tuple #[.agg #[.int .i64 s.c, .int .i64 s.t, .int .i64 s.mn, .int .i64 s.mx, .int .i64 s.f, .int .i64 s.l, .int .i64 s.r], .int .i64 N, .int .i64 0]) (by simp [results, Try.results33, go_sem, z0, z1, z2, z3, z4, z5, z6]) rfl ⟨s, N, 0, rfl, HR2, below_set7 (below_pl belr bel2) (by have := HX.out; omega) _ _ _ _ _ _ _⟩
  · have HR : Hid (Grain.read x.s l = (Grain.zero, 0, E)) := by
      show _ = _
      rw [Grain.read, ← HE.out, if_pos hw]
    have hne : (E != 0) = true := by simpa using hw
    obtain ⟨z0, z1, z2, z3, z4, z5, z6⟩ := Z1.cells
    obtain ⟨y0, y1, y2, y3, y4, y5, y6⟩ := seven_thaw Z1
    go_wp2
    exact bodyPost_ret (v := .tuple #[.agg #[.int .i64 0, .int .i64 0, .int .i64 0, .int .i64 0, .int .i64 0, .int .i64 0, .int .i64 0], .int .i64 0, .int .i64 E]) (by simp [results, Try.results33, go_sem, z0, z1, z2, z3, z4, z5, z6]) rfl ⟨Grain.zero, 0, E, rfl, HR, below_set7 bel1 (by have := HX.out; omega) _ _ _ _ _ _ _⟩

end Go.Proofs.Ytfgablhgjbjbkae

/-
  The walk of plan's Covers.
-/
namespace Go.Proofs.Ytfgablhgjbjbkae
open Go.RowKit Go.GrainU

set_option maxRecDepth 20000 in
set_option maxHeartbeats 2000000 in
theorem covers_any (s : Grain.Shf) (v0 v1 v2 v3 : Value) (l : List Grain.Pt) (ao : Option Addr) (n c : Nat) (f t : Int) (b : Bool) (w : World) (hs : Seg w ao (pcells l)) (hn : n = l.length) (hL : n ≤ 1000000000000000) (hb : b = Grain.cvr s l f t) :
    Calls Try.prog 28 #[.agg #[v0, v1, v2, v3, .int .i64 s.rf, .int .i64 s.ff, .int .i64 s.ft, .int .i64 s.cf, .int .i64 s.ct], .slice ao n c, .int .i64 f, .int .i64 t] w fun e w' => e = .returned (.bool b) ∧ Below w.heap.size w w' := by
  have HB := hide (hb.trans (Grain.cvr_iff s l f t))
  have HN := hide hn
  clear hb hn
  obtain ⟨V, hV⟩ : ∃ V, V = w.alloc (.cells #[v0, v1, v2, v3, .int .i64 s.rf, .int .i64 s.ff, .int .i64 s.ft, .int .i64 s.cf, .int .i64 s.ct] 44) := ⟨_, rfl⟩
  have bel : Below w.heap.size w V := by rw [hV]; exact (Below.refl _ _).alloc (Nat.le_refl _) _
  have hsV := hs.below bel
  have HV := hide hV
  clear hV
  rcases Nat.eq_zero_or_pos n with h0 | h0
  · subst h0
    have e : b = decide (f = t) := by rw [HB.out, if_pos HN.out.symm]
    subst e
    clear HB
    go_enter Try.func28, Try.ntmps28
    go_wp2
    go_ret
    rw [← HV.out]
    exact ⟨ret_bool (by rw [Bool.eq_iff_iff]; simp), bel⟩
  · obtain ⟨m, rfl⟩ : ∃ m, n = m + 1 := ⟨n - 1, by omega⟩
    have hm : m < l.length := by have := HN.out; omega
    obtain ⟨bb, off, rfl, hbl, hcell⟩ := seg_part hs hm
    obtain ⟨A, hA⟩ : ∃ A, A = (Grain.pt l 0).f := ⟨_, rfl⟩
    obtain ⟨B, hB⟩ : ∃ B, B = (Grain.pt l m).t := ⟨_, rfl⟩
    have e : b = (decide (A = f) && (decide (B = t) && Grain.fol s l)) := by
      rw [HB.out, if_neg (by have := HN.out; omega), hA, hB, show l.length - 1 = m by have := HN.out; omega]
    obtain ⟨b', hb'⟩ : ∃ b', b' = Grain.fol s l := ⟨_, rfl⟩
    have z1 : w.cell? ⟨bb, off + 1, none⟩ = some (.int .i64 A) := by
      rw [hA]
      have := (hcell 0 (by omega)).2.1
      simpa using this
    have z2 : w.cell? ⟨bb, off + m * 3 + 2, none⟩ = some (.int .i64 B) := by rw [hB]; exact (hcell m hm).2.2
    have hw1 : IntKind.i64.wrap ((m : Int) + 1 - 1) = (m : Int) := by rw [IntKind.wrap_i64]; omega
    have hw2 : IntKind.i64.wrap (m : Int) = (m : Int) := by rw [IntKind.wrap_i64]; omega
    have h3 : (((m + 1 : Nat) : Int) == 0) = false := by simp; omega
    have h4 : (((m : Int) + 1) == 0) = false := by simp; omega
    rw [← hb'] at e
    have HB' := hide hb'
    have HE := hide e
    clear hA hB hb' e HB hcell hm h0
    by_cases e1 : A = f
    · by_cases e2 : B = t
      · have e : b = b' := by rw [HE.out]; simp [e1, e2]
        subst e
        have g1 : (A == f) = true := by simp [e1]
        have g2 : (B == t) = true := by simp [e2]
        clear HE
        subst e1 e2
        go_enter Try.func28, Try.ntmps28
        go_wp2_with fail
        rw [← HV.out]
        refine (follow_any s v0 v1 v2 v3 l _ (m + 1) c b V hsV HN.out hL HB'.out).mono ?_
        rintro e w1 ⟨rfl, hb1⟩
        go_wp2
        go_ret
        exact ⟨rfl, below_pl hb1 bel⟩
      · have e : b = false := by rw [HE.out]; simp [e2]
        subst e
        have g1 : (A == f) = true := by simp [e1]
        have g2 : (B == t) = false := by simp [e2]
        clear HE
        subst e1
        go_enter Try.func28, Try.ntmps28
        go_wp2
        go_ret
        rw [← HV.out]
        exact ⟨rfl, bel⟩
    · have e : b = false := by rw [HE.out]; simp [e1]
      subst e
      have g1 : (A == f) = false := by simp [e1]
      clear HE
      go_enter Try.func28, Try.ntmps28
      go_wp2
      go_ret
      rw [← HV.out]
      exact ⟨rfl, bel⟩

end Go.Proofs.Ytfgablhgjbjbkae

/-
  The walks of the document's most, least and later.
-/
namespace Go.Proofs.Ytfgablhgjbjbkae
open Go.RowKit Go.GrainU

theorem most_any (a b : Int) (w : World) : Calls Try.prog 65 #[.int .i64 a, .int .i64 b] w fun e w' => e = .returned (.int .i64 (max b a)) ∧ w' = w := by
  by_cases h : b < a
  · have hd : decide (b < a) = true := by simpa using h
    have hm : Hid (max b a = a) := by show _ = _; omega
    go_enter Try.func65, Try.ntmps65
    go_wp2
    go_ret
    exact ⟨by rw [hm.out]; rfl, rfl⟩
  · have hd : decide (b < a) = false := by simpa using h
    have hm : Hid (max b a = b) := by show _ = _; omega
    go_enter Try.func65, Try.ntmps65
    go_wp2
    go_ret
    exact ⟨by rw [hm.out]; rfl, rfl⟩

theorem least_any (a b : Int) (w : World) : Calls Try.prog 66 #[.int .i64 a, .int .i64 b] w fun e w' => e = .returned (.int .i64 (min a b)) ∧ w' = w := by
  by_cases h : a < b
  · have hd : decide (a < b) = true := by simpa using h
    have hm : Hid (min a b = a) := by show _ = _; omega
    go_enter Try.func66, Try.ntmps66
    go_wp2
    go_ret
    exact ⟨by rw [hm.out]; rfl, rfl⟩
  · have hd : decide (a < b) = false := by simpa using h
    have hm : Hid (min a b = b) := by show _ = _; omega
    go_enter Try.func66, Try.ntmps66
    go_wp2
    go_ret
    exact ⟨by rw [hm.out]; rfl, rfl⟩

set_option maxHeartbeats 2000000 in
theorem later_any (l : List Grain.Bk) (A : Int) (ao : Option Addr) (n c : Nat) (w : World) (hs : Seg w ao (kcells l)) (hn : n = l.length) (hL : n ≤ 1000000) :
    Calls Try.prog 67 #[.slice ao n c, .int .i64 A] w fun e w' => ∃ co N d, e = .returned (.slice co N d) ∧ w'.ownsRow w.heap.size 90 8 (.slice co N d) N (kcells (l.filter fun x => decide (A ≤ x.a))) ∧ Below w.heap.size w w' := by
  obtain ⟨i0, hi, hz0, hz1, hz2⟩ := sinfo_parts Try.infoBucket
  have HN := hide hn
  clear hn
  go_enter Try.func67, Try.ntmps67
  go_wp2
  go_loopw [5, 10] (fun out i wr => ∃ (k N d : Nat) (co : Option Addr), k ≤ n ∧ i = .int .i64 k ∧ out = .slice co N d ∧ N ≤ k ∧ wr.ownsRow w.heap.size 90 8 (.slice co N d) N (kcells ((l.take k).filter fun x => decide (A ≤ x.a))) ∧ Below w.heap.size w wr) (fun _ i _ => n - (intOf i).toNat)
  case atStart => exact ⟨0, 0, 0, none, Nat.zero_le _, rfl, rfl, Nat.le_refl _, World.ownsRow_nil _ _ _ _, Below.refl _ _⟩
  case round =>
    obtain ⟨k, N, d, co, hk, rfl, rfl, hNk, own, bel⟩ := hrel
    have hsz := bel.size
    by_cases hlt : k < n
    · have hkl : k < l.length := by rw [← HN.out]; exact hlt
      obtain ⟨b, off, rfl, hbl, hcell⟩ := seg_bucket hs hkl
      obtain ⟨K, hK⟩ : ∃ K, K = Grain.bk l k := ⟨_, rfl⟩
      have q := (hcell k hkl).below bel hbl
      rw [← hK] at q
      obtain ⟨c0, c1, c2, c3, c4, c5, c6, c7⟩ := q
      have HU : Hid (((l.take (k + 1)).filter fun x => decide (A ≤ x.a)) = if decide (A ≤ K.a) = true then ((l.take k).filter fun x => decide (A ≤ x.a)) ++ [K] else (l.take k).filter fun x => decide (A ≤ x.a)) := by
        show _ = _
        rw [filter_take _ hkl, hK, Grain.bk_get hkl]
      clear hK hcell hkl
      obtain ⟨V, hV⟩ : ∃ V, V = wr.alloc (ko K) := ⟨_, rfl⟩
      obtain ⟨X, hX⟩ : ∃ X, X = wr.heap.size := ⟨_, rfl⟩
      have F2 : V.heap[X]? = some (ko K) := by rw [hV, hX]; exact heap_alloc_new wr _
      have own2 : V.ownsRow w.heap.size 90 8 (.slice co N d) N (kcells ((l.take k).filter fun x => decide (A ≤ x.a))) := by rw [hV]; exact own.alloc _
      have bel2 : Below w.heap.size w V := by rw [hV]; exact bel.alloc hsz _
      have hs2 := bel2.size
      have HV : Hid (V = wr.alloc (.cells #[.int .i64 K.a, .int .i64 K.s.c, .int .i64 K.s.t, .int .i64 K.s.mn, .int .i64 K.s.mx, .int .i64 K.s.f, .int .i64 K.s.l, .int .i64 K.s.r] 90)) := hV
      have HX := hide hX
      clear hV own
      go_upto_region 5 with fail
      rw [← HV.out, ← HX.out]
      obtain ⟨p0, p1, p2, p3, p4, p5, p6, p7⟩ := eight_cells F2
      clear bel HV HX hX c0 c1 c2 c3 c4 c5 c6 c7 hsz
      cases hh : decide (A ≤ K.a) with
      | true =>
        have HE : Hid (((l.take (k + 1)).filter fun x => decide (A ≤ x.a)) = ((l.take k).filter fun x => decide (A ≤ x.a)) ++ [K]) := by
          show _ = _
          rw [HU.out, if_pos hh]
        clear HU
        go_wp2_with (at_builtin; refine wpList_append_lies _ rfl _ _ 42 rfl w.heap.size 90 i0 (.agg #[.int .i64 0, .int .i64 0, .int .i64 0, .int .i64 0, .int .i64 0, .int .i64 0, .int .i64 0, .int .i64 0]) 8 64 Try.underlying42 hi hz0 hz1 hz2 rfl (by decide) _ _ _ rfl (own2.alloc _) ⟨V.heap.size, 0, none⟩ 1 1 (kc K) rfl rfl (World.news_of_block (cs := #[.int .i64 K.a, .int .i64 K.s.c, .int .i64 K.s.t, .int .i64 K.s.mn, .int .i64 K.s.mx, .int .i64 K.s.f, .int .i64 K.s.l, .int .i64 K.s.r]) (t := 90) (fr := (0, 0)) (by simpa using heap_alloc_new V _)) (by simp [kc, Value.oneCell']) (by decide) (by unfold maxLen; omega) (by omega) (by simp; omega) (V.heap.size + 1) (by simp) ?_)
        intro g' cp' w5 own5 gr5 hat5 hlt5
        have own6 : w5.ownsRow w.heap.size 90 8 (.slice (some ⟨g', 0, none⟩) (N + 1) cp') (N + 1) (kcells ((l.take (k + 1)).filter fun x => decide (A ≤ x.a))) := by
          rw [HE.out, kcells_snoc]; exact own5
        have bel5 : Below w.heap.size w w5 := (bel2.alloc hs2 _).grown gr5 (by simp; omega) (fun j hj => (own2.lt j hj).1)
        clear own5 gr5 hat5 hlt5 own2 HE hh
        go_wp2
        go_roundw
        case rel => exact ⟨k + 1, N + 1, cp', _, by omega, by go_num, rfl, by omega, own6, bel5⟩
        case measure => simp [intOf]; omega
      | false =>
        have HE : Hid (((l.take (k + 1)).filter fun x => decide (A ≤ x.a)) = (l.take k).filter fun x => decide (A ≤ x.a)) := by
          show _ = _
          rw [HU.out, if_neg (by rw [hh]; decide)]
        clear HU
        rw [← HE.out] at own2
        go_wp2
        go_roundw
        case rel => exact ⟨k + 1, N, d, co, by omega, by go_num, rfl, by omega, own2, bel2⟩
        case measure => simp [intOf]; omega
    · have he : k = n := by omega
      subst he
      have HT := hide (List.take_of_length_le (i := k) (l := l) (by rw [← HN.out]; omega))
      rw [HT.out] at own
      clear HT HN
      go_wp2
      go_ret
      exact ⟨co, N, d, rfl, own, bel⟩

end Go.Proofs.Ytfgablhgjbjbkae

/-
  The walk of the document's own Choose.
-/
namespace Go.Proofs.Ytfgablhgjbjbkae
open Go.RowKit Go.GrainU

theorem part_set {w : World} {B : Nat} {x0 x1 x2 : Value} (h : w.heap[B]? = some (.cells #[x0, x1, x2] 112 (0, 0))) (k f t : Int) :
    (((w.setCell ⟨B, 0, none⟩ (.int .i64 k)).setCell ⟨B, 1, none⟩ (.int .i64 f)).setCell ⟨B, 2, none⟩ (.int .i64 t)).heap[B]? = some (.cells #[.int .i64 k, .int .i64 f, .int .i64 t] 112 (0, 0)) := by
  simp [World.setCell, Array.getElem?_modify, h]

set_option maxRecDepth 20000 in
set_option maxHeartbeats 8000000 in
theorem rchoose_any (x : ShT) (f t : Int) (r : List Grain.Pt × Int) (w : World) (hx : ShIn w x) (hr : r = Grain.choose x.s f t) :
    Calls Try.prog 31 #[x.v, .int .i64 f, .int .i64 t] w fun e w' => ∃ (co : Option Addr) (m d : Nat), e = .returned (.tuple #[.slice co m d, .int .i64 r.2]) ∧ w'.ownsRow w.heap.size 112 3 (.slice co m d) m (pcells r.1) ∧ m ≤ 1000000 ∧ Below w.heap.size w w' := by
  obtain ⟨i0, hi, hz0, hz1, hz2⟩ := info_parts Try.infoPart
  have HR := hide hr
  clear hr
  obtain ⟨X, hX⟩ : ∃ X, X = w.heap.size := ⟨_, rfl⟩
  obtain ⟨V, hV⟩ : ∃ V, V = w.alloc (so x) := ⟨_, rfl⟩
  have bel : Below w.heap.size w V := by rw [hV]; exact (Below.refl _ _).alloc (Nat.le_refl _) _
  have S0 : V.heap[X]? = some (so x) := by rw [hV, hX]; exact heap_alloc_new w _
  have hxV := hx.below bel
  have HV : Hid (V = w.alloc (.cells #[.slice x.a0 x.s.se.length x.c0, .slice x.a1 x.s.ra.length x.c1, .slice x.a2 x.s.fi.length x.c2, .slice x.a3 x.s.co.length x.c3, .int .i64 x.s.rf, .int .i64 x.s.ff, .int .i64 x.s.ft, .int .i64 x.s.cf, .int .i64 x.s.ct] 44)) := hV
  have HX := hide hX
  have Hv : Hid (x.v = .agg #[.slice x.a0 x.s.se.length x.c0, .slice x.a1 x.s.ra.length x.c1, .slice x.a2 x.s.fi.length x.c2, .slice x.a3 x.s.co.length x.c3, .int .i64 x.s.rf, .int .i64 x.s.ff, .int .i64 x.s.ft, .int .i64 x.s.cf, .int .i64 x.s.ct]) := rfl
  obtain ⟨E, hE⟩ : ∃ E, E = Grain.swrong x.s := ⟨_, rfl⟩
  have HE := hide hE
  have hXV : X < V.heap.size := lt_of_block S0
  clear hV hX hE hx
  rw [Hv.out]
  go_enter Try.func31, Try.ntmps31
  go_wp2_with fail
  rw [← HV.out, ← Hv.out]
  refine (rshwrong_any x V hxV).mono ?_
  rintro e w1 ⟨rfl, hb1⟩
  rw [← HE.out]
  have bel1 : Below w.heap.size w w1 := below_pl hb1 bel
  have S1 := below_block hb1 S0
  by_cases hw : E = 0
  · subst hw
    by_cases h1 : f < 0
    · have e : r = ([], 3) := by rw [HR.out, Grain.choose, if_neg (by simp [← HE.out]), if_pos (.inl h1)]
      subst e
      go_wp2
      exact bodyPost_ret (v := .tuple #[.slice none 0 0, .int .i64 3]) (by simp [results, Try.results31, go_sem]) rfl ⟨none, 0, 0, rfl, World.ownsRow_nil _ _ _ _, by omega, bel1⟩
    · by_cases h2 : t < f
      · have e : r = ([], 3) := by rw [HR.out, Grain.choose, if_neg (by simp [← HE.out]), if_pos (.inr (.inl h2))]
        subst e
        go_wp2
        exact bodyPost_ret (v := .tuple #[.slice none 0 0, .int .i64 3]) (by simp [results, Try.results31, go_sem]) rfl ⟨none, 0, 0, rfl, World.ownsRow_nil _ _ _ _, by omega, bel1⟩
      · by_cases h3 : 1000000 < t
        · have e : r = ([], 3) := by rw [HR.out, Grain.choose, if_neg (by simp [← HE.out]), if_pos (.inr (.inr h3))]
          subst e
          go_wp2
          exact bodyPost_ret (v := .tuple #[.slice none 0 0, .int .i64 3]) (by simp [results, Try.results31, go_sem]) rfl ⟨none, 0, 0, rfl, World.ownsRow_nil _ _ _ _, by omega, bel1⟩
        · have HC : Hid (r = Grain.chsR x.s t (t - f).toNat f []) := by
            show _ = _
            rw [HR.out, Grain.choose_ref HE.out.symm (by omega) (by omega) (by omega)]
          have f0 : 0 ≤ f := by omega
          have ft : f ≤ t := by omega
          have t1 : t ≤ 1000000 := by omega
          clear h1 h2 h3 HR
          go_wp2
          rw [← HX.out]
          go_loopw [9, 10] (fun s9 s10 wr => ∃ (co : Option Addr) (m d fuel : Nat) (a : Int) (out : List Grain.Pt), s9 = .slice co m d ∧ s10 = .int .i64 a ∧ wr.ownsRow w1.heap.size 112 3 (.slice co m d) m (pcells out) ∧ Below w1.heap.size w1 wr ∧ Hid (r = Grain.chsR x.s t fuel a out) ∧ (t - a).toNat ≤ fuel ∧ 0 ≤ a ∧ a ≤ t ∧ m + fuel ≤ 1000000) (fun _ s10 _ => (t - intOf s10).toNat)
          case atStart => exact ⟨none, 0, 0, (t - f).toNat, f, [], rfl, rfl, World.ownsRow_nil _ _ _ _, Below.refl _ _, HC, Nat.le_refl _, f0, ft, by omega⟩
          case round =>
            obtain ⟨co, m, d, fuel, a, out, rfl, rfl, own, belr, HC2, hfu, ha0, hat, hmf⟩ := hrel
            have S2 := below_block belr S1
            have hsz := belr.size
            by_cases hlt : a < t
            · obtain ⟨fu, rfl⟩ : ∃ k, fuel = k + 1 := ⟨fuel - 1, by omega⟩
              obtain ⟨p, hp⟩ : ∃ p, p = Grain.nxtR x.s a t := ⟨_, rfl⟩
              have hpf : p.f = a := by rw [hp]; exact Grain.nxtR_f _ _ _
              have hpt : p.t ≤ t := by rw [hp]; exact Grain.nxtR_t _ _ _
              have HC3 : Hid (r = if Grain.may x.s p = true then Grain.chsR x.s t fu p.t (Grain.putP out p) else ([], 10)) := by
                show _ = _
                rw [HC2.out, Grain.chsR, if_pos hlt, ← hp]
              have HP := hide hp
              have HPF := hide hpf
              obtain ⟨Q, hQ⟩ : ∃ Q, Q = wr.heap.size := ⟨_, rfl⟩
              obtain ⟨W, hW⟩ : ∃ W, W = wr.alloc (.cells #[.int .i64 0, .int .i64 0, .int .i64 0] 112) := ⟨_, rfl⟩
              have hbW : Below wr.heap.size wr W := by rw [hW]; exact (Below.refl _ _).alloc (Nat.le_refl _) _
              have Q0 : W.heap[Q]? = some (.cells #[.int .i64 0, .int .i64 0, .int .i64 0] 112 (0, 0)) := by rw [hW, hQ]; exact heap_alloc_new wr _
              have S3 := below_block hbW S2
              have qR : wr.heap.size ≤ Q := by omega
              have HW := hide hW
              have HQ := hide hQ
              obtain ⟨x0, x1, x2, x3, x4, x5, x6, x7, x8⟩ := nine_cells S2
              have Xl : X < wr.heap.size := lt_of_block S2
              clear hp HC2 hpf hW hQ
              clear x0 x1 x2 x3 x4 x5 x6 x7 x8
              go_upto_region 9 with fail
              go_cut [11] from 11 to 12 (fun v wx => v = .pointer (some ⟨Q, 0, none⟩) ∧ Hid (wx = W))
              case first =>
                go_wp2
                go_meet
                exact ⟨by rw [HQ.out], HW.out.symm⟩
              case rest =>
              obtain ⟨rfl, HWC⟩ := hcut
              rw [HWC.out]
              clear HWC
              apply_assumption
              refine wp_seq_k fun KK hKK => ?_
              go_cut [] from 33 to 79 (fun wx => wx.heap[Q]? = some (.cells #[.int .i64 p.k, .int .i64 p.f, .int .i64 p.t] 112 (0, 0)) ∧ Below wr.heap.size wr wx ∧ Hid (Grain.may x.s p = true))
              case first =>
                by_cases h6 : a + 60 ≤ t
                · obtain ⟨m2, hm2⟩ : ∃ m, m = Grain.may x.s ⟨2, a, a + 60⟩ := ⟨_, rfl⟩
                  have HM2 := hide hm2
                  clear hm2
                  obtain ⟨x0, x1, x2, x3, x4, x5, x6, x7, x8⟩ := nine_cells S3
                  go_wp2_with fail
                  refine (rmay_any x.s _ _ _ _ ⟨2, a, a + 60⟩ m2 W HM2.out).mono ?_
                  rintro e w2 ⟨rfl, hb2⟩
                  have Q2 := below_block hb2 Q0
                  have S4 := below_block hb2 S3
                  have bel2 : Below wr.heap.size wr w2 := below_pl hb2 hbW
                  clear x0 x1 x2 x3 x4 x5 x6 x7 x8 hb2
                  cases m2
                  · have HA : Hid (¬ (a + 60 ≤ t ∧ Grain.may x.s ⟨2, a, a + 60⟩ = true)) := by intro h; rw [← HM2.out] at h; exact absurd h.2 (by decide)
                    clear h6
                    by_cases h1 : a + 10 ≤ t
                    · obtain ⟨m1, hm1⟩ : ∃ m, m = Grain.may x.s ⟨1, a, a + 10⟩ := ⟨_, rfl⟩
                      have HM1 := hide hm1
                      clear hm1
                      obtain ⟨x0, x1, x2, x3, x4, x5, x6, x7, x8⟩ := nine_cells S4
                      go_wp2_with fail
                      refine (rmay_any x.s _ _ _ _ ⟨1, a, a + 10⟩ m1 w2 HM1.out).mono ?_
                      rintro e w3 ⟨rfl, hb3⟩
                      have Q3 := below_block hb3 Q2
                      have S5 := below_block hb3 S4
                      have bel3 : Below wr.heap.size wr w3 := below_pl hb3 bel2
                      clear x0 x1 x2 x3 x4 x5 x6 x7 x8 hb3
                      cases m1
                      · have HA2 : Hid (¬ (a + 10 ≤ t ∧ Grain.may x.s ⟨1, a, a + 10⟩ = true)) := by intro h; rw [← HM1.out] at h; exact absurd h.2 (by decide)
                        clear h1
                        have e : p = ⟨0, a, min t (a / 10 * 10 + 10)⟩ := by rw [HP.out, Grain.nxtR, if_neg HA.out, if_neg HA2.out]
                        obtain ⟨T, hT⟩ : ∃ T, T = min t (a / 10 * 10 + 10) := ⟨_, rfl⟩
                        rw [← hT] at e
                        have HTT := hide hT
                        clear hT
                        subst e
                        obtain ⟨y0, y1, y2⟩ := three3 Q3
                        obtain ⟨f0', f1', f2'⟩ := three_thaw Q3
                        go_wp2_with fail
                        refine (least_any t (a / 10 * 10 + 10) _).mono ?_
                        rintro e w9 ⟨rfl, hw9⟩
                        rw [hw9, ← HTT.out]
                        clear hw9 w9
                        obtain ⟨W6, hW6⟩ : ∃ W6, W6 = (((w3.setCell ⟨Q, 0, none⟩ (.int .i64 0)).setCell ⟨Q, 1, none⟩ (.int .i64 a)).setCell ⟨Q, 2, none⟩ (.int .i64 T)) := ⟨_, rfl⟩
                        have Q6 : W6.heap[Q]? = some (.cells #[.int .i64 0, .int .i64 a, .int .i64 T] 112 (0, 0)) := by rw [hW6]; exact part_set Q3 0 a T
                        have bel6 : Below wr.heap.size wr W6 := by rw [hW6]; exact below_set3 bel3 qR _ _ _
                        have S6 := below_block bel6 S2
                        have HW6 := hide hW6
                        obtain ⟨b, hb⟩ : ∃ b, b = Grain.may x.s ⟨0, a, T⟩ := ⟨_, rfl⟩
                        have HBM := hide hb
                        clear hW6 hb
                        go_upto_region 11 with fail
                        rw [← HW6.out]
                        obtain ⟨z0, z1, z2⟩ := three3 Q6
                        obtain ⟨x0, x1, x2, x3, x4, x5, x6, x7, x8⟩ := nine_cells S6
                        go_wp2_with fail
                        refine (rmay_any x.s _ _ _ _ ⟨0, a, T⟩ b W6 HBM.out).mono ?_
                        rintro e w7 ⟨rfl, hb7⟩
                        have Q7 := below_block hb7 Q6
                        have bel7 : Below wr.heap.size wr w7 := below_pl hb7 bel6
                        clear x0 x1 x2 x3 x4 x5 x6 x7 x8 hb7
                        cases b
                        · have e : r = ([], 10) := by rw [HC3.out, ← HBM.out]; rfl
                          subst e
                          go_wp2
                          exact bodyPost_ret (v := .tuple #[.slice none 0 0, .int .i64 10]) (by simp [results, Try.results31, go_sem]) rfl ⟨none, 0, 0, rfl, World.ownsRow_nil _ _ _ _, by omega, below_pl bel7 (below_pl belr bel1)⟩
                        · go_wp2
                          go_meet
                          exact ⟨Q7, bel7, HBM.out.symm⟩
                      · have e : p = ⟨1, a, a + 10⟩ := by rw [HP.out, Grain.nxtR, if_neg HA.out, if_pos ⟨h1, HM1.out.symm⟩]
                        subst e
                        obtain ⟨y0, y1, y2⟩ := three3 Q3
                        obtain ⟨f0', f1', f2'⟩ := three_thaw Q3
                        go_wp2
                        go_meet
                        exact ⟨part_set Q3 1 a (a + 10), below_set3 bel3 qR _ _ _, HM1.out.symm⟩
                    · have HA2 : Hid (¬ (a + 10 ≤ t ∧ Grain.may x.s ⟨1, a, a + 10⟩ = true)) := fun h => h1 h.1
                      have e : p = ⟨0, a, min t (a / 10 * 10 + 10)⟩ := by rw [HP.out, Grain.nxtR, if_neg HA.out, if_neg HA2.out]
                      obtain ⟨T, hT⟩ : ∃ T, T = min t (a / 10 * 10 + 10) := ⟨_, rfl⟩
                      rw [← hT] at e
                      have HTT := hide hT
                      clear hT
                      subst e
                      obtain ⟨y0, y1, y2⟩ := three3 Q2
                      obtain ⟨f0', f1', f2'⟩ := three_thaw Q2
                      go_wp2_with fail
                      refine (least_any t (a / 10 * 10 + 10) _).mono ?_
                      rintro e w9 ⟨rfl, hw9⟩
                      rw [hw9, ← HTT.out]
                      clear hw9 w9
                      obtain ⟨W6, hW6⟩ : ∃ W6, W6 = (((w2.setCell ⟨Q, 0, none⟩ (.int .i64 0)).setCell ⟨Q, 1, none⟩ (.int .i64 a)).setCell ⟨Q, 2, none⟩ (.int .i64 T)) := ⟨_, rfl⟩
                      have Q6 : W6.heap[Q]? = some (.cells #[.int .i64 0, .int .i64 a, .int .i64 T] 112 (0, 0)) := by rw [hW6]; exact part_set Q2 0 a T
                      have bel6 : Below wr.heap.size wr W6 := by rw [hW6]; exact below_set3 bel2 qR _ _ _
                      have S6 := below_block bel6 S2
                      have HW6 := hide hW6
                      obtain ⟨b, hb⟩ : ∃ b, b = Grain.may x.s ⟨0, a, T⟩ := ⟨_, rfl⟩
                      have HBM := hide hb
                      clear hW6 hb
                      go_upto_region 11 with fail
                      rw [← HW6.out]
                      obtain ⟨z0, z1, z2⟩ := three3 Q6
                      obtain ⟨x0, x1, x2, x3, x4, x5, x6, x7, x8⟩ := nine_cells S6
                      go_wp2_with fail
                      refine (rmay_any x.s _ _ _ _ ⟨0, a, T⟩ b W6 HBM.out).mono ?_
                      rintro e w7 ⟨rfl, hb7⟩
                      have Q7 := below_block hb7 Q6
                      have bel7 : Below wr.heap.size wr w7 := below_pl hb7 bel6
                      clear x0 x1 x2 x3 x4 x5 x6 x7 x8 hb7
                      cases b
                      · have e : r = ([], 10) := by rw [HC3.out, ← HBM.out]; rfl
                        subst e
                        go_wp2
                        exact bodyPost_ret (v := .tuple #[.slice none 0 0, .int .i64 10]) (by simp [results, Try.results31, go_sem]) rfl ⟨none, 0, 0, rfl, World.ownsRow_nil _ _ _ _, by omega, below_pl bel7 (below_pl belr bel1)⟩
                      · go_wp2
                        go_meet
                        exact ⟨Q7, bel7, HBM.out.symm⟩
                  · have e : p = ⟨2, a, a + 60⟩ := by rw [HP.out, Grain.nxtR, if_pos ⟨h6, HM2.out.symm⟩]
                    subst e
                    obtain ⟨y0, y1, y2⟩ := three3 Q2
                    obtain ⟨f0', f1', f2'⟩ := three_thaw Q2
                    go_wp2
                    go_meet
                    exact ⟨part_set Q2 2 a (a + 60), below_set3 bel2 qR _ _ _, HM2.out.symm⟩
                · have HA : Hid (¬ (a + 60 ≤ t ∧ Grain.may x.s ⟨2, a, a + 60⟩ = true)) := fun h => h6 h.1
                  by_cases h1 : a + 10 ≤ t
                  · obtain ⟨m1, hm1⟩ : ∃ m, m = Grain.may x.s ⟨1, a, a + 10⟩ := ⟨_, rfl⟩
                    have HM1 := hide hm1
                    clear hm1
                    obtain ⟨x0, x1, x2, x3, x4, x5, x6, x7, x8⟩ := nine_cells S3
                    go_wp2_with fail
                    refine (rmay_any x.s _ _ _ _ ⟨1, a, a + 10⟩ m1 W HM1.out).mono ?_
                    rintro e w3 ⟨rfl, hb3⟩
                    have Q3 := below_block hb3 Q0
                    have S5 := below_block hb3 S3
                    have bel3 : Below wr.heap.size wr w3 := below_pl hb3 hbW
                    clear x0 x1 x2 x3 x4 x5 x6 x7 x8 hb3
                    cases m1
                    · have HA2 : Hid (¬ (a + 10 ≤ t ∧ Grain.may x.s ⟨1, a, a + 10⟩ = true)) := by intro h; rw [← HM1.out] at h; exact absurd h.2 (by decide)
                      clear h1
                      have e : p = ⟨0, a, min t (a / 10 * 10 + 10)⟩ := by rw [HP.out, Grain.nxtR, if_neg HA.out, if_neg HA2.out]
                      obtain ⟨T, hT⟩ : ∃ T, T = min t (a / 10 * 10 + 10) := ⟨_, rfl⟩
                      rw [← hT] at e
                      have HTT := hide hT
                      clear hT
                      subst e
                      obtain ⟨y0, y1, y2⟩ := three3 Q3
                      obtain ⟨f0', f1', f2'⟩ := three_thaw Q3
                      go_wp2_with fail
                      refine (least_any t (a / 10 * 10 + 10) _).mono ?_
                      rintro e w9 ⟨rfl, hw9⟩
                      rw [hw9, ← HTT.out]
                      clear hw9 w9
                      obtain ⟨W6, hW6⟩ : ∃ W6, W6 = (((w3.setCell ⟨Q, 0, none⟩ (.int .i64 0)).setCell ⟨Q, 1, none⟩ (.int .i64 a)).setCell ⟨Q, 2, none⟩ (.int .i64 T)) := ⟨_, rfl⟩
                      have Q6 : W6.heap[Q]? = some (.cells #[.int .i64 0, .int .i64 a, .int .i64 T] 112 (0, 0)) := by rw [hW6]; exact part_set Q3 0 a T
                      have bel6 : Below wr.heap.size wr W6 := by rw [hW6]; exact below_set3 bel3 qR _ _ _
                      have S6 := below_block bel6 S2
                      have HW6 := hide hW6
                      obtain ⟨b, hb⟩ : ∃ b, b = Grain.may x.s ⟨0, a, T⟩ := ⟨_, rfl⟩
                      have HBM := hide hb
                      clear hW6 hb
                      go_upto_region 11 with fail
                      rw [← HW6.out]
                      obtain ⟨z0, z1, z2⟩ := three3 Q6
                      obtain ⟨x0, x1, x2, x3, x4, x5, x6, x7, x8⟩ := nine_cells S6
                      go_wp2_with fail
                      refine (rmay_any x.s _ _ _ _ ⟨0, a, T⟩ b W6 HBM.out).mono ?_
                      rintro e w7 ⟨rfl, hb7⟩
                      have Q7 := below_block hb7 Q6
                      have bel7 : Below wr.heap.size wr w7 := below_pl hb7 bel6
                      clear x0 x1 x2 x3 x4 x5 x6 x7 x8 hb7
                      cases b
                      · have e : r = ([], 10) := by rw [HC3.out, ← HBM.out]; rfl
                        subst e
                        go_wp2
                        exact bodyPost_ret (v := .tuple #[.slice none 0 0, .int .i64 10]) (by simp [results, Try.results31, go_sem]) rfl ⟨none, 0, 0, rfl, World.ownsRow_nil _ _ _ _, by omega, below_pl bel7 (below_pl belr bel1)⟩
                      · go_wp2
                        go_meet
                        exact ⟨Q7, bel7, HBM.out.symm⟩
                    · have e : p = ⟨1, a, a + 10⟩ := by rw [HP.out, Grain.nxtR, if_neg HA.out, if_pos ⟨h1, HM1.out.symm⟩]
                      subst e
                      obtain ⟨y0, y1, y2⟩ := three3 Q3
                      obtain ⟨f0', f1', f2'⟩ := three_thaw Q3
                      go_wp2
                      go_meet
                      exact ⟨part_set Q3 1 a (a + 10), below_set3 bel3 qR _ _ _, HM1.out.symm⟩
                  · have HA2 : Hid (¬ (a + 10 ≤ t ∧ Grain.may x.s ⟨1, a, a + 10⟩ = true)) := fun h => h1 h.1
                    have e : p = ⟨0, a, min t (a / 10 * 10 + 10)⟩ := by rw [HP.out, Grain.nxtR, if_neg HA.out, if_neg HA2.out]
                    obtain ⟨T, hT⟩ : ∃ T, T = min t (a / 10 * 10 + 10) := ⟨_, rfl⟩
                    rw [← hT] at e
                    have HTT := hide hT
                    clear hT
                    subst e
                    obtain ⟨y0, y1, y2⟩ := three3 Q0
                    obtain ⟨f0', f1', f2'⟩ := three_thaw Q0
                    go_wp2_with fail
                    refine (least_any t (a / 10 * 10 + 10) _).mono ?_
                    rintro e w9 ⟨rfl, hw9⟩
                    rw [hw9, ← HTT.out]
                    clear hw9 w9
                    obtain ⟨W6, hW6⟩ : ∃ W6, W6 = (((W.setCell ⟨Q, 0, none⟩ (.int .i64 0)).setCell ⟨Q, 1, none⟩ (.int .i64 a)).setCell ⟨Q, 2, none⟩ (.int .i64 T)) := ⟨_, rfl⟩
                    have Q6 : W6.heap[Q]? = some (.cells #[.int .i64 0, .int .i64 a, .int .i64 T] 112 (0, 0)) := by rw [hW6]; exact part_set Q0 0 a T
                    have bel6 : Below wr.heap.size wr W6 := by rw [hW6]; exact below_set3 hbW qR _ _ _
                    have S6 := below_block bel6 S2
                    have HW6 := hide hW6
                    obtain ⟨b, hb⟩ : ∃ b, b = Grain.may x.s ⟨0, a, T⟩ := ⟨_, rfl⟩
                    have HBM := hide hb
                    clear hW6 hb
                    go_upto_region 11 with fail
                    rw [← HW6.out]
                    obtain ⟨z0, z1, z2⟩ := three3 Q6
                    obtain ⟨x0, x1, x2, x3, x4, x5, x6, x7, x8⟩ := nine_cells S6
                    go_wp2_with fail
                    refine (rmay_any x.s _ _ _ _ ⟨0, a, T⟩ b W6 HBM.out).mono ?_
                    rintro e w7 ⟨rfl, hb7⟩
                    have Q7 := below_block hb7 Q6
                    have bel7 : Below wr.heap.size wr w7 := below_pl hb7 bel6
                    clear x0 x1 x2 x3 x4 x5 x6 x7 x8 hb7
                    cases b
                    · have e : r = ([], 10) := by rw [HC3.out, ← HBM.out]; rfl
                      subst e
                      go_wp2
                      exact bodyPost_ret (v := .tuple #[.slice none 0 0, .int .i64 10]) (by simp [results, Try.results31, go_sem]) rfl ⟨none, 0, 0, rfl, World.ownsRow_nil _ _ _ _, by omega, below_pl bel7 (below_pl belr bel1)⟩
                    · go_wp2
                      go_meet
                      exact ⟨Q7, bel7, HBM.out.symm⟩
              case rest =>
              obtain ⟨Qc, belc, HMay⟩ := hcut
              obtain ⟨w5, hw5⟩ : ∃ w5, w5 = wc := ⟨_, rfl⟩
              rw [← hw5] at Qc belc ⊢
              have own5 := own_below own belc
              have bel5 : Below w1.heap.size w1 w5 := below_pl belc belr
              have hlow : ∀ g, (Value.slice co m d).ownBlock = some g → g < Q := fun g hg => by have := (own.lt g hg).2; omega
              have HLow := hide hlow
              have hlt2 : a < p.t := by have := Grain.may_lt HMay.out; rw [HPF.out] at this; exact this
              have HC4 : Hid (r = Grain.chsR x.s t fu p.t (Grain.putP out p)) := by show _ = _; rw [HC3.out, if_pos HMay.out]
              have hsz5 := bel5.size
              have hown := own5.lt
              obtain ⟨y0, y1, y2⟩ := three3 Qc
              have lQ : Q < w5.heap.size := lt_of_block Qc
              clear hw5 HC3 own belr hlow S2 S3 hbW Q0 HW HQ Xl
              rcases Grain.snoc_or out with rfl | ⟨R, q, rfl⟩
              · have hm0 : m = 0 := own_plen own5
                subst hm0
                have hg : decide ((0 : Int) < ((0 : Nat) : Int)) = false := by decide
                have hg' : decide ((0 : Int) < 0) = false := by decide
                have own6 : Hid (∀ qq, (w5.drewN qq).ownsRow w1.heap.size 112 3 (.slice co 0 d) 0 (pcells [])) := fun qq => own5
                have bel6 : Hid (∀ qq, Below w1.heap.size w1 (w5.drewN qq)) := fun qq => below_drewN bel5 qq
                go_wp2
                go_quiet (fail)
                go_wp2_with (at_builtin; refine wpList_append_lies _ rfl _ _ 66 rfl w1.heap.size 112 i0 (.agg #[.int .i64 0, .int .i64 0, .int .i64 0]) 3 24 Try.underlying66 hi hz0 hz1 hz2 rfl (by decide) _ _ _ rfl ((own6.out _).alloc _) ⟨w5.heap.size, 0, none⟩ 1 1 (ptc p) rfl rfl (World.news_of_block (cs := #[.int .i64 p.k, .int .i64 p.f, .int .i64 p.t]) (t := 112) (fr := (0, 0)) (heap_alloc_new (w5.drewN _) _)) (by simp [ptc, Value.oneCell']) (by decide) (by unfold maxLen; omega) (by omega) (by simp; omega) (w5.heap.size + 1) (by simp) ?_)
                intro g cap' w7 own7 gr7 hat7 hlt7
                have bel7 : Below w1.heap.size w1 w7 := ((bel6.out _).alloc (by have := (bel6.out 0).size; exact this) _).grown gr7 (by simp; omega) (fun j hj => (hown j hj).1)
                have own8 : w7.ownsRow w1.heap.size 112 3 (.slice (some ⟨g, 0, none⟩) (0 + 1) cap') (0 + 1) (pcells (Grain.putP [] p)) := by
                  rw [Grain.putP_nil, show ([p] : List Grain.Pt) = [] ++ [p] from rfl, pcells_snoc]; exact own7
                clear own6 bel6 own7 gr7 hat7 hlt7 own5 y0 y1 y2
                go_wp2
                go_roundw
                case rel => exact ⟨_, 0 + 1, cap', fu, p.t, _, rfl, rfl, own8, bel7, HC4, by omega, by omega, hpt, by omega⟩
                case measure => simp [intOf]; omega
              · have hlen : m = R.length + 1 := by have := own_plen own5; simpa using this
                subst hlen
                rcases own5.2 with ⟨h0, h1⟩ | ⟨g0, cap0, cur, h0, _⟩
                · omega
                · simp at h0
                  obtain ⟨rfl, rfl⟩ := h0
                  obtain ⟨c0, c1, c2⟩ := own_plast own5
                  have hg : decide ((0 : Int) < ((R.length + 1 : Nat) : Int)) = true := by simp
                  have hg' : decide ((0 : Int) < (R.length : Int) + 1) = true := by simp
                  have hw1 : IntKind.i64.wrap ((R.length : Int) + 1 - 1) = (R.length : Int) := by rw [IntKind.wrap_i64]; omega
                  have hw2 : IntKind.i64.wrap (R.length : Int) = (R.length : Int) := by rw [IntKind.wrap_i64]; omega
                  by_cases ek : q.k = p.k
                  · have ne : (q.k == p.k) = true := by simpa using ek
                    have t2 : w5.frozen? ⟨g0, R.length * 3 + 2, none⟩ = false := own_thaw own5 _
                    have own8 : Hid (∀ qq, ((w5.drewN qq).setCell ⟨g0, R.length * 3 + 2, none⟩ (.int .i64 p.t)).ownsRow w1.heap.size 112 3 (.slice (some ⟨g0, 0, none⟩) (R.length + 1) d) (R.length + 1) (pcells (Grain.putP (R ++ [q]) p))) := by
                      intro qq
                      rw [Grain.putP_same _ _ _ ek, ← pset]
                      exact own_set (w := w5.drewN qq) own5 _ _
                    have bel8 : Hid (∀ qq, Below w1.heap.size w1 ((w5.drewN qq).setCell ⟨g0, R.length * 3 + 2, none⟩ (.int .i64 p.t))) := fun qq => (below_drewN bel5 qq).setCell (hown g0 rfl).1 _
                    have HEK := hide ek
                    clear ek own5 hown HLow
                    go_wp2
                    go_quiet (fail)
                    go_wp2
                    go_roundw
                    case rel => exact ⟨_, R.length + 1, d, fu, p.t, _, rfl, rfl, own8.out _, bel8.out _, HC4, by omega, by omega, hpt, by omega⟩
                    case measure => simp [intOf]; omega
                  · have ne : (q.k == p.k) = false := by simpa using ek
                    have own6 : Hid (∀ qq, (w5.drewN qq).ownsRow w1.heap.size 112 3 (.slice (some ⟨g0, 0, none⟩) (R.length + 1) d) (R.length + 1) (pcells (R ++ [q]))) := fun qq => own5
                    have bel6 : Hid (∀ qq, Below w1.heap.size w1 (w5.drewN qq)) := fun qq => below_drewN bel5 qq
                    have HEK := hide ek
                    clear ek
                    go_wp2
                    go_quiet (fail)
                    go_wp2_with (at_builtin; refine wpList_append_lies _ rfl _ _ 66 rfl w1.heap.size 112 i0 (.agg #[.int .i64 0, .int .i64 0, .int .i64 0]) 3 24 Try.underlying66 hi hz0 hz1 hz2 rfl (by decide) _ _ _ rfl ((own6.out _).alloc _) ⟨w5.heap.size, 0, none⟩ 1 1 (ptc p) rfl rfl (World.news_of_block (cs := #[.int .i64 p.k, .int .i64 p.f, .int .i64 p.t]) (t := 112) (fr := (0, 0)) (heap_alloc_new (w5.drewN _) _)) (by simp [ptc, Value.oneCell']) (by decide) (by unfold maxLen; omega) (by omega) (by simp; omega) (w5.heap.size + 1) (by simp) ?_)
                    intro g cap' w7 own7 gr7 hat7 hlt7
                    have bel7 : Below w1.heap.size w1 w7 := ((bel6.out _).alloc (by have := (bel6.out 0).size; exact this) _).grown gr7 (by simp; omega) (fun j hj => (hown j hj).1)
                    have own8 : w7.ownsRow w1.heap.size 112 3 (.slice (some ⟨g, 0, none⟩) (R.length + 1 + 1) cap') (R.length + 1 + 1) (pcells (Grain.putP (R ++ [q]) p)) := by
                      rw [Grain.putP_other _ _ _ HEK.out, pcells_snoc (R ++ [q])]; exact own7
                    clear own6 bel6 own7 gr7 hat7 hlt7 own5 y0 y1 y2 c0 c1 c2
                    go_wp2
                    go_roundw
                    case rel => exact ⟨_, R.length + 1 + 1, cap', fu, p.t, _, rfl, rfl, own8, bel7, HC4, by omega, by omega, hpt, by omega⟩
                    case measure => simp [intOf]; omega
            · have e : r = (out, 0) := by rw [HC2.out, Grain.chsR_end hlt]
              subst e
              clear HC2
              go_wp2
              exact bodyPost_ret (v := .tuple #[.slice co m d, .int .i64 0]) (by simp [results, Try.results31, go_sem]) rfl ⟨co, m, d, rfl, own_down own bel1.size, by omega, below_pl belr bel1⟩
  · have e : r = ([], E) := by rw [HR.out, Grain.choose, ← HE.out, if_pos hw]
    subst e
    have hne : (E != 0) = true := by simpa using hw
    go_wp2
    exact bodyPost_ret (v := .tuple #[.slice none 0 0, .int .i64 E]) (by simp [results, Try.results31, go_sem]) rfl ⟨none, 0, 0, rfl, World.ownsRow_nil _ _ _ _, by omega, bel1⟩

end Go.Proofs.Ytfgablhgjbjbkae

/-
  The walk of PlanTells.
-/
namespace Go.Proofs.Ytfgablhgjbjbkae
open Go.RowKit Go.GrainU

set_option maxRecDepth 20000 in
set_option maxHeartbeats 8000000 in
theorem ptells_any (x : ShT) (l : List Grain.Pt) (ao : Option Addr) (n c : Nat) (f t : Int) (w : World) (hx : ShIn w x) (hcap : ShCap x) (hs : Seg w ao (pcells l)) (hn : n = l.length) (hL : n ≤ 10000000000000) :
    Calls Try.prog 8 #[x.v, .slice ao n c, .int .i64 f, .int .i64 t] w fun e w' => e = .returned (.bool true) ∧ Below w.heap.size w w' := by
  obtain ⟨X, hX⟩ : ∃ X, X = w.heap.size := ⟨_, rfl⟩
  obtain ⟨V, hV⟩ : ∃ V, V = w.alloc (so x) := ⟨_, rfl⟩
  have bel : Below w.heap.size w V := by rw [hV]; exact (Below.refl _ _).alloc (Nat.le_refl _) _
  have F0 : V.heap[X]? = some (so x) := by rw [hV, hX]; exact heap_alloc_new w _
  have inV := hx.below bel
  have hsV := hs.below bel
  have HV : Hid (V = w.alloc (.cells #[.slice x.a0 x.s.se.length x.c0, .slice x.a1 x.s.ra.length x.c1, .slice x.a2 x.s.fi.length x.c2, .slice x.a3 x.s.co.length x.c3, .int .i64 x.s.rf, .int .i64 x.s.ff, .int .i64 x.s.ft, .int .i64 x.s.cf, .int .i64 x.s.ct] 44)) := hV
  have Hv : Hid (x.v = .agg #[.slice x.a0 x.s.se.length x.c0, .slice x.a1 x.s.ra.length x.c1, .slice x.a2 x.s.fi.length x.c2, .slice x.a3 x.s.co.length x.c3, .int .i64 x.s.rf, .int .i64 x.s.ff, .int .i64 x.s.ft, .int .i64 x.s.cf, .int .i64 x.s.ct]) := rfl
  have HX := hide hX
  have HN := hide hn
  have hL2 : n ≤ 1000000000000000 := by omega
  obtain ⟨b, hb⟩ : ∃ b, b = Grain.cvr x.s l f t := ⟨_, rfl⟩
  have HCA : Hid (∀ w', Below V.heap.size V w' → Calls Try.prog 28 #[.agg #[.slice x.a0 x.s.se.length x.c0, .slice x.a1 x.s.ra.length x.c1, .slice x.a2 x.s.fi.length x.c2, .slice x.a3 x.s.co.length x.c3, .int .i64 x.s.rf, .int .i64 x.s.ff, .int .i64 x.s.ft, .int .i64 x.s.cf, .int .i64 x.s.ct], .slice ao n c, .int .i64 f, .int .i64 t] w' fun e w'' => e = .returned (.bool b) ∧ Below w'.heap.size w' w'') := fun w' hb' => covers_any x.s _ _ _ _ l ao n c f t b w' (hsV.below hb') hn hL2 hb
  have HCB : Hid (∀ w', Below V.heap.size V w' → Calls Try.prog 29 #[.agg #[.slice x.a0 x.s.se.length x.c0, .slice x.a1 x.s.ra.length x.c1, .slice x.a2 x.s.fi.length x.c2, .slice x.a3 x.s.co.length x.c3, .int .i64 x.s.rf, .int .i64 x.s.ff, .int .i64 x.s.ft, .int .i64 x.s.cf, .int .i64 x.s.ct], .slice ao n c, .int .i64 f, .int .i64 t] w' fun e w'' => e = .returned (.bool b) ∧ Below w'.heap.size w' w'') := fun w' hb' => rcovers_any x.s _ _ _ _ l ao n c f t b w' (hsV.below hb') hn hL2 hb
  have Xl : X < V.heap.size := lt_of_block F0
  obtain ⟨b0, b1, b2, b3, b4, b5, b6, b7, b8⟩ := nine_cells F0
  have HS : Hid (∀ w', Below V.heap.size V w' → w'.cell? ⟨X, 0, none⟩ = some (.slice x.a0 x.s.se.length x.c0) ∧ w'.cell? ⟨X, 1, none⟩ = some (.slice x.a1 x.s.ra.length x.c1) ∧ w'.cell? ⟨X, 2, none⟩ = some (.slice x.a2 x.s.fi.length x.c2) ∧ w'.cell? ⟨X, 3, none⟩ = some (.slice x.a3 x.s.co.length x.c3) ∧ w'.cell? ⟨X, 4, none⟩ = some (.int .i64 x.s.rf) ∧ w'.cell? ⟨X, 5, none⟩ = some (.int .i64 x.s.ff) ∧ w'.cell? ⟨X, 6, none⟩ = some (.int .i64 x.s.ft) ∧ w'.cell? ⟨X, 7, none⟩ = some (.int .i64 x.s.cf) ∧ w'.cell? ⟨X, 8, none⟩ = some (.int .i64 x.s.ct)) := fun w' hb' => ⟨(hb'.cell (by exact Xl)).trans b0, (hb'.cell (by exact Xl)).trans b1, (hb'.cell (by exact Xl)).trans b2, (hb'.cell (by exact Xl)).trans b3, (hb'.cell (by exact Xl)).trans b4, (hb'.cell (by exact Xl)).trans b5, (hb'.cell (by exact Xl)).trans b6, (hb'.cell (by exact Xl)).trans b7, (hb'.cell (by exact Xl)).trans b8⟩
  have R1 : Below V.heap.size V V.drew := below_drewN (Below.refl _ _) 1
  have hbb : (b != b) = false := by simp
  rw [Hv.out]
  clear hV hX hx hs hn hb b0 b1 b2 b3 b4 b5 b6 b7 b8
  go_enter Try.func8, Try.ntmps8
  go_upto_region 1 with fail
  rw [← HV.out, ← HX.out]
  go_cut [27] from 17 to 28 (fun v wx => v = .bool false ∧ Below V.heap.size V wx)
  case first =>
    go_region_held3 (fun w' => w'.cell? ⟨X, 0, none⟩ = some (.slice x.a0 x.s.se.length x.c0) ∧ w'.cell? ⟨X, 1, none⟩ = some (.slice x.a1 x.s.ra.length x.c1) ∧ w'.cell? ⟨X, 2, none⟩ = some (.slice x.a2 x.s.fi.length x.c2) ∧ w'.cell? ⟨X, 3, none⟩ = some (.slice x.a3 x.s.co.length x.c3) ∧ w'.cell? ⟨X, 4, none⟩ = some (.int .i64 x.s.rf) ∧ w'.cell? ⟨X, 5, none⟩ = some (.int .i64 x.s.ff) ∧ w'.cell? ⟨X, 6, none⟩ = some (.int .i64 x.s.ft) ∧ w'.cell? ⟨X, 7, none⟩ = some (.int .i64 x.s.cf) ∧ w'.cell? ⟨X, 8, none⟩ = some (.int .i64 x.s.ct)) (exact HS.out _ (by assumption))
      (first
        | (go_at_call 28; refine (HCA.out _ (by assumption)).mono ?_; rintro e w8 ⟨rfl, hb8⟩; have R2 := below_pl hb8 (by assumption))
        | (go_at_call 29; refine (HCB.out _ (by assumption)).mono ?_; rintro e w9 ⟨rfl, hb9⟩; have R3 := below_pl hb9 (by assumption)))
    all_goals
      go_wp2
      go_meet
      refine ⟨?_, by assumption⟩
      first | rfl | simp
  case rest =>
  obtain ⟨rfl, R2⟩ := hcut
  obtain ⟨w2, hw2⟩ : ∃ w2, w2 = wc := ⟨_, rfl⟩
  rw [← hw2] at R2 ⊢
  have F2 := below_block R2 F0
  have in2 := inV.below R2
  have hs2 := hsV.below R2
  have bel2 : Below w.heap.size w w2 := below_pl R2 bel
  obtain ⟨r, hr⟩ : ∃ r, r = Grain.choose x.s f t := ⟨_, rfl⟩
  have HR := hide hr
  clear hw2 R2 R1 HS HCA HCB F0 inV hsV bel HV hr
  obtain ⟨b0, b1, b2, b3, b4, b5, b6, b7, b8⟩ := nine_cells F2
  go_wp2_with fail
  rw [← Hv.out]
  refine (choose_any x f t r w2 in2 HR.out).mono ?_
  rintro e w3 ⟨co, m3, d3, rfl, own3, hm3, hb3⟩
  have F3 := below_block hb3 F2
  have in3 := in2.below hb3
  have hs3 := hs2.below hb3
  have seg3 := own_seg' own3
  have bel3 : Below w.heap.size w w3 := below_pl hb3 bel2
  have HL3 := hide (own_plen own3)
  clear b0 b1 b2 b3 b4 b5 b6 b7 b8 hb3 F2 in2 hs2 bel2 own3
  obtain ⟨b0, b1, b2, b3, b4, b5, b6, b7, b8⟩ := nine_cells F3
  go_wp2_with fail
  rw [← Hv.out]
  refine (rchoose_any x f t r w3 in3 HR.out).mono ?_
  rintro e w4 ⟨co4, m4, d4, rfl, own4, hm4, hb4⟩
  have F4 := below_block hb4 F3
  have in4 := in3.below hb4
  have hs4 := hs3.below hb4
  have seg3' := seg3.below hb4
  have seg4 := own_seg' own4
  have bel4 : Below w.heap.size w w4 := below_pl hb4 bel3
  have e34 : m4 = m3 := by have := own_plen own4; have := HL3.out; omega
  subst e34
  obtain ⟨L, E⟩ := r
  simp only at seg3' seg4 HL3 ⊢
  have hEE : (E != E) = false := by simp
  clear b0 b1 b2 b3 b4 b5 b6 b7 b8 hb4 F3 in3 hs3 bel3 own4 seg3
  go_wp2_with fail
  refine (psame_any L co co4 m4 d3 d4 w4 seg3' seg4 HL3.out (by omega)).mono ?_
  rintro e w5 ⟨rfl, hb5⟩
  have F5 := below_block hb5 F4
  have in5 := in4.below hb5
  have hs5 := hs4.below hb5
  have bel5 : Below w.heap.size w w5 := below_pl hb5 bel4
  clear hb5 F4 in4 hs4 bel4 seg3' seg4
  obtain ⟨b0, b1, b2, b3, b4, b5, b6, b7, b8⟩ := nine_cells F5
  go_wp2_with fail
  rw [← Hv.out]
  refine (read_any x l ao n c w5 in5 hcap hs5 HN.out hL2).mono ?_
  rintro e w6 ⟨J, N, E6, rfl, HR1, hb6⟩
  have F6 := below_block hb6 F5
  have in6 := in5.below hb6
  have hs6 := hs5.below hb6
  have bel6 : Below w.heap.size w w6 := below_pl hb6 bel5
  obtain ⟨Y, hY⟩ : ∃ Y, Y = w6.heap.size := ⟨_, rfl⟩
  obtain ⟨W7, hW7⟩ : ∃ W, W = w6.alloc (.cells #[.int .i64 J.c, .int .i64 J.t, .int .i64 J.mn, .int .i64 J.mx, .int .i64 J.f, .int .i64 J.l, .int .i64 J.r] 62) := ⟨_, rfl⟩
  have hb7 : Below w6.heap.size w6 W7 := by rw [hW7]; exact (Below.refl _ _).alloc (Nat.le_refl _) _
  have A7 : SumAt W7 Y J := by show W7.heap[Y]? = _; rw [hW7, hY]; exact heap_alloc_new w6 _
  have F7 := below_block hb7 F6
  have in7 := in6.below hb7
  have hs7 := hs6.below hb7
  have bel7 : Below w.heap.size w W7 := below_pl hb7 bel6
  have HW7 := hide hW7
  have HY := hide hY
  have Xl6 : X < w6.heap.size := lt_of_block F6
  clear b0 b1 b2 b3 b4 b5 b6 b7 b8 hb6 hb7 hW7 hY F5 in5 hs5 bel5 in6 hs6 bel6
  go_upto_region 8 with fail
  rw [← HW7.out, ← HY.out]
  clear HW7 HY Xl6 F6
  obtain ⟨b0, b1, b2, b3, b4, b5, b6, b7, b8⟩ := nine_cells F7
  go_wp2_with fail
  rw [← Hv.out]
  refine (rread_any x l ao n c W7 in7 hs7 HN.out hL).mono ?_
  rintro e w8 ⟨J2, N2, E2, rfl, HR2, hb8⟩
  have h := HR1.out
  rw [HR2.out] at h
  simp only [Prod.mk.injEq] at h
  obtain ⟨rfl, rfl, rfl⟩ := h
  have A8 := A7.below hb8
  have bel8 : Below w.heap.size w w8 := below_pl hb8 bel7
  have bel9 : Below w.heap.size w (w8.alloc (.cells #[.int .i64 J2.c, .int .i64 J2.t, .int .i64 J2.mn, .int .i64 J2.mx, .int .i64 J2.f, .int .i64 J2.l, .int .i64 J2.r] 62)) := bel8.alloc bel8.size _
  obtain ⟨a0, a1, a2, a3, a4, a5, a6⟩ := A8.cells
  have Yl : Y < w8.heap.size := lt_of_block A8
  have hE2 : (E2 == E2) = true := by simp
  have hN2 : (N2 == N2) = true := by simp
  clear b0 b1 b2 b3 b4 b5 b6 b7 b8 hb8 F7 in7 hs7 bel7 HR1 HR2
  go_wp2
  go_ret
  exact ⟨rfl, bel9⟩

end Go.Proofs.Ytfgablhgjbjbkae

/-
  For every input, PlanTells returns true: Covers, Choose and Read tell which parts cover a window of any shelf, which are chosen, and what any come to. No condition.
-/
namespace Go.Proofs.Ytfgablhgjbjbkae
open Go.ChangeShapes Go.WideShapes Go.ChangeAt Go.RowKit Go.GrainU

theorem ptellstrods {H : Type} {enc : TypeId × Value → H} {P : Program} {w : World} {base : Nat} {sp : Nat → Bool} {held : Bool} {t0 t1 t2 t3 : TypeId} {args : Array Value} {ds : List (DataW H)} {p : List MemPlace} (h : DataW.TrodAll enc P w base sp held [t0, t1, t2, t3] args.toList ds p) :
    ∃ v0 v1 v2 v3 d0 d1 d2 d3 p0 p1 p2 p3, args = #[v0, v1, v2, v3] ∧ ds = [d0, d1, d2, d3] ∧ p = p0 ++ (p1 ++ (p2 ++ (p3 ++ ([])))) ∧ DataW.Trod enc P w base sp held t0 v0 d0 p0 ∧ DataW.Trod enc P w base sp held t1 v1 d1 p1 ∧ DataW.Trod enc P w base sp held t2 v2 d2 p2 ∧ DataW.Trod enc P w base sp held t3 v3 d3 p3 := by
  obtain ⟨v0, vs0, d0, ds0, p0, q0, e0, rfl, rfl, h0, r0⟩ := trodAll_cons h
  obtain ⟨v1, vs1, d1, ds1, p1, q1, e1, rfl, rfl, h1, r1⟩ := trodAll_cons r0
  obtain ⟨v2, vs2, d2, ds2, p2, q2, e2, rfl, rfl, h2, r2⟩ := trodAll_cons r1
  obtain ⟨v3, vs3, d3, ds3, p3, q3, e3, rfl, rfl, h3, r3⟩ := trodAll_cons r2
  obtain ⟨rfl, rfl, rfl⟩ := trodAll_nil r3
  refine ⟨v0, v1, v2, v3, d0, d1, d2, d3, p0, p1, p2, p3, ?_, rfl, rfl, h0, h1, h2, h3⟩
  cases args
  simp_all

theorem ptells_array {cs : Array Value} {l : List Value} (h : cs.toList = l) : cs = l.toArray := by rw [← h]

set_option maxRecDepth 100000 in
theorem ptells_lifted (os : Os) (started : os.Started) (H : Type) (enc : TypeId × Value → H) :
    ReturnsInHanded {} Try.checked os 8 .any (Rows.planTellsSpec.pre6 enc Try.prog Try.f8 Rows.planTellsRow.domain false) (Rows.planTellsSpec.post enc Try.prog Try.f8 false true false false) := by
  refine returnsInHanded_of_change_sized (C := Try.checked) Try.own started (by kernel_rfl) Try.func8
    (ChangeSpec.witness6 (enc := enc) (C := Try.checked) false ⟨#[], #[.agg #[.slice none 0 0, .slice none 0 0, .slice none 0 0, .slice none 0 0, .int .i64 0, .int .i64 0, .int .i64 0, .int .i64 0, .int .i64 0], .slice none 0 0, .int .i64 0, .int .i64 0], []⟩ 8 (by kernel_rfl) (by kernel_rfl) (by kernel_rfl) (by kernel_rfl)) ?_
  intro W base args ds gs before hval0 hW hcnd hsz0 _
  have hval : ∀ (j : Nat) t v, Try.f8.params[j]? = some t → args[j]? = some v → Value.okWide Try.prog W .any base t v := hval0
  have hsz : (DataW.weightsEach Try.prog (Try.f8.params.toList ++ Rows.planTellsSpec.plain.varTypes Try.prog) (ds ++ gs)).all (· ≤ reachBytes) = true := hsz0
  have hW' := hW
  obtain ⟨p, q, hA0, hV, rfl, hfz, hnd⟩ := hW
  have hA : DataW.TrodAll enc Try.prog W 0 (fun _ => true) true Try.f8.params.toList args.toList ds p := hA0
  rw [Try.params8] at hA hval hsz
  obtain ⟨v0, v1, v2, v3, d0, d1, d2, d3, p0, p1, p2, p3, rfl, rfl, rfl, h0, h1, h2, h3⟩ := ptellstrods hA
  obtain ⟨rfl, rfl⟩ := trodVars_none hV
  have lt0 : ∀ x ∈ p0, x.block < W.heap.size := by obtain ⟨m, hm⟩ := h0; exact DataW.trod_lt m _ _ _ hm
  obtain ⟨cs, rfl, hcs⟩ := okWide_struct Try.underlying44 (hval 0 44 v0 rfl rfl)
  have k0 := h0
  obtain ⟨f0, hf0⟩ := h0
  obtain ⟨x, ht, hin, hcp⟩ := open_shelf_cap hf0 (fun k hk => of_decide_eq_true (List.all_eq_true.1 hsz k (DataW.weights_mem_each (j := 0) rfl rfl k hk)))
  have hv : Value.agg cs = x.v := by
    simp only [Value.cells] at ht
    rw [ptells_array ht]
    rfl
  have lt1 : ∀ x ∈ p1, x.block < W.heap.size := by obtain ⟨m, hm⟩ := h1; exact DataW.trod_lt m _ _ _ hm
  obtain ⟨a1, n1, c1, rfl⟩ := okWide_slice Try.underlying66 (hval 1 66 v1 rfl rfl)
  have k1 := h1
  obtain ⟨f1, hf1⟩ := h1
  obtain ⟨l1, e1, s1, b1⟩ := open_pts hf1 (fun k hk => of_decide_eq_true (List.all_eq_true.1 hsz k (DataW.weights_mem_each (j := 1) rfl rfl k hk)))
  obtain ⟨z2, rfl, rfl, rfl, w2⟩ := open_int Try.underlying3 (hval 2 3 v2 rfl rfl) h2
  obtain ⟨z3, rfl, rfl, rfl, w3⟩ := open_int Try.underlying3 (hval 3 3 v3 rfl rfl) h3
  clear hA0 hval0 hsz0 hsz
  rw [hv] at hW' k0 ⊢
  refine (ptells_any x l1 a1 n1 c1 z2 z3 W hin hcp s1 e1 (by omega)).mono fun e W' ⟨he, bel⟩ => ?_
  subst he
  exact ⟨_, rfl, _, _, _, [], _, [], hW', trodAll_mk1 (shut_bool Try.underlying4 _), (trodAll_cons_mk (Below.trod Try.laidOut (by kernel_rfl) (of_decide_eq_true (by kernel_rfl)) k0 bel lt0) (trodAll_cons_mk (Below.trod Try.laidOut (by kernel_rfl) (of_decide_eq_true (by kernel_rfl)) k1 bel lt1) (trodAll_cons_mk (shut_int Try.underlying3 w2) (trodAll_cons_mk (shut_int Try.underlying3 w3) trodAll_mk0)))), rfl, bel.frame _, fun h => by cases h⟩

theorem ptells_holds : Rows.PlanTellsSaid :=
  OpenClaim.holds_of_wide 8 Try.f8 rfl rfl rfl rfl rfl rfl rfl ⟨rfl, rfl, rfl, rfl, rfl⟩ rfl rfl rfl rfl rfl (by kernel_rfl) Try.func8 (by kernel_rfl)
    (of_decide_eq_true (by kernel_rfl)) (by unfold Func.isWrapper; first | (rw [if_pos (by decide +kernel)]; kernel_rfl) | (rw [if_neg (by decide +kernel)]; exact ⟨rfl, rfl⟩))
    (fun os started H enc _ => ptells_lifted os started H enc)

end Go.Proofs.Ytfgablhgjbjbkae
