/-
  Expressions' texts. No program is named here.
-/
import Derived.Test.YthohkokhimdamaaGreatRows
import Derived.Test.YthohkokhimdamaaGreatP05
import Derived.Deep.Slices
import Derived.ProofKit
import Derived.OpenShut
import Derived.ChangeOld
import Derived.Below
import Derived.SizedLaws
import Derived.Lib.ItoaNum
import Derived.Lib.ItoaLen
import Derived.Lib.Join
/-
  An argument that is an expression, opened.
-/
namespace Go.GrainU
open Go.RowKit

theorem mcells_flat (l : List Mt) : mcells l = l.flatMap fun x => [.int .i64 x.kind, .string x.key, .string x.val] := by
  induction l with
  | nil => rfl
  | cons x r ih => simp [mcells, ih]

theorem wcells_flat (l : List ByteArray) : wcells l = l.flatMap fun x => [.string x] := by
  induction l with
  | nil => rfl
  | cons x r ih => simp [wcells] at ih ⊢; exact ih

theorem ecells_flat (l : List ET) : ecells l = l.flatMap ecell := by
  induction l with
  | nil => rfl
  | cons x r ih => simp [ecells, ih]

instance : Inhabited Mt := ⟨⟨0, ⟨#[]⟩, ⟨#[]⟩⟩⟩

theorem list3 {α : Type} {l : List α} (h : l.length = 3) : ∃ a b c, l = [a, b, c] := by
  match l, h with
  | [a, b, c], _ => exact ⟨a, b, c, rfl⟩

theorem list7 {α : Type} {l : List α} (h : l.length = 7) : ∃ a b c d e f g, l = [a, b, c, d, e, f, g] := by
  match l, h with
  | [a, b, c, d, e, f, g], _ => exact ⟨a, b, c, d, e, f, g, rfl⟩

theorem weights_mem_all {H : Type} {P : Program} {e : TypeId} {l : List (DataW H)} {d : DataW H} (h : d ∈ l) : ∀ n ∈ d.weights P e, n ∈ DataW.weightsAll P e l := by
  induction l with
  | nil => cases h
  | cons a r ih =>
    intro n hn
    simp only [DataW.weightsAll, List.mem_append]
    rcases List.mem_cons.1 h with e | e
    · rw [e] at hn; exact .inl hn
    · exact .inr (ih e n hn)

end Go.GrainU
namespace Go.Proofs.YthohkokhimdamaaGreat
open Go.ChangeShapes Go.WideShapes Go.ChangeAt Go.RowKit Go.GrainU

theorem Tryz.own : ownKnob Tryz.prog.godebug = none := by kernel_rfl
theorem Tryz.laidOut : laidOutB Tryz.prog = true := by kernel_rfl
theorem Tryz.cellsMatch : Tryz.prog.cellsOf 86 = 3 := by kernel_rfl
theorem Tryz.cellsStr : Tryz.prog.cellsOf 9 = 1 := by kernel_rfl
theorem Tryz.cellsInt : Tryz.prog.cellsOf 3 = 1 := by kernel_rfl
theorem Tryz.cellsExpr : Tryz.prog.cellsOf 27 = 7 := by kernel_rfl
theorem Tryz.bytesMatch : Tryz.prog.bytesOf 86 = 40 := by kernel_rfl
theorem Tryz.bytesStr : Tryz.prog.bytesOf 9 = 16 := by kernel_rfl
theorem Tryz.bytesExpr : Tryz.prog.bytesOf 27 = 112 := by kernel_rfl
theorem Tryz.cellsMatches : Tryz.prog.cellsOf 23 = 1 := by kernel_rfl
theorem Tryz.cellsWords : Tryz.prog.cellsOf 24 = 1 := by kernel_rfl
theorem Tryz.cellsExprs : Tryz.prog.cellsOf 25 = 1 := by kernel_rfl

/-- a slice, whatever its elements are -/
theorem open_list {H : Type} {enc : TypeId × Value → H} {W : World} {α : Type} [Inhabited α] {fuel : Nat} {t e : TypeId} {cs : List Value} {x : DataW H × List MemPlace} (cell : α → List Value) (Q : α → Prop) (c : Nat) (hc : 0 < c) (hcl : ∀ a, (cell a).length = c)
    (hcells : Tryz.prog.cellsOf e = c) (hb : 1 ≤ Tryz.prog.bytesOf e) (ht : Tryz.prog.underlying t = some (.slice e)) (h : DataW.trod enc Tryz.prog W 0 (fun _ => true) true fuel t cs = some x) (hw : ∀ n ∈ x.1.weights Tryz.prog t, n ≤ reachBytes)
    (each : ∀ n cs' y, n < fuel → DataW.trod enc Tryz.prog W 0 (fun _ => true) true n e cs' = some y → (∀ k ∈ y.1.weights Tryz.prog e, k ≤ reachBytes) → ∃ a, cs' = cell a ∧ Q a) :
    ∃ (l : List α) (ao : Option Addr) (cap : Nat), cs = [.slice ao l.length cap] ∧ Seg W ao (l.flatMap cell) ∧ (∀ a ∈ l, Q a) ∧ l.length ≤ cap ∧ l.length ≤ reachBytes := by
  rcases DataW.trod_slice ht h with ⟨hcs, _⟩ | ⟨a, len, cap, elems, rest, n, hn, hcs, hx, _, hl, hm, hlen, hel, hsp, hns⟩
  · exact ⟨[], none, 0, hcs, .inl rfl, fun a ha => by (cases ha), Nat.le_refl _, Nat.zero_le _⟩
  · have hwt : ∀ k, k ∈ (elems.length + rest.length) * Tryz.prog.bytesOf e :: (DataW.weightsAll Tryz.prog e (elems.map (·.1)) ++ DataW.weightsAll Tryz.prog e (rest.map (·.1))) → k ≤ reachBytes := by
      intro k hk
      refine hw k ?_
      rw [hx]
      simp only [DataW.weights, ht]
      simpa using hk
    have hlb : len ≤ reachBytes := by
      have h1 := hwt _ (List.mem_cons_self ..)
      have h2 := Nat.mul_le_mul_left (elems.length + rest.length) hb
      omega
    have ex : ∀ i, i < len → ∃ y : α, (∀ j, j < c → W.cell? (a.add (i * c + j)) = (cell y)[j]?) ∧ Q y := by
      intro i hi
      have h1 := hel i hi
      have hi' : i < elems.length := by omega
      rw [List.getElem?_eq_getElem hi', Option.bind_eq_some_iff] at h1
      obtain ⟨cs', h2, h3⟩ := h1
      rw [hcells] at h2
      obtain ⟨_, hlen', hcc⟩ := World.cells?_some h2
      obtain ⟨y, rfl, hq⟩ := each n cs' _ (by omega) h3 (fun k hk => hwt k (List.mem_cons_of_mem _ (List.mem_append_left _ (weights_mem_all (List.mem_map_of_mem (List.getElem_mem hi')) k hk))))
      refine ⟨y, fun j hj => ?_, hq⟩
      have := hcc j hj
      rw [Go.Deep.add_add] at this
      exact this
    obtain ⟨f, hf⟩ := Go.Deep.choose_lt ex
    refine ⟨(List.range len).map f, some a, cap, by simpa using hcs, ?_, fun y hy => ?_, by simpa using hl, by simpa using hlb⟩
    · rcases Nat.eq_zero_or_pos len with h0 | h0
      · subst h0; exact .inl rfl
      · obtain ⟨b, off, spot⟩ := a
        have hspot : spot = none := by
          have h1 := (hf 0 h0).1 0 hc
          have h2 : 0 < (cell (f 0)).length := by rw [hcl]; exact hc
          rw [List.getElem?_eq_getElem h2] at h1
          simp only [Nat.zero_mul, Nat.add_zero] at h1
          simpa [Addr.add] using World.cell?_spot h1
        subst hspot
        rw [List.flatMap_map]
        refine seg_of hc f cell hcl (fun i hi j hj => ?_)
        have := (hf i hi).1 j hj
        rw [Go.WideShapes.add_plain] at this
        exact this
    · obtain ⟨i, hi, rfl⟩ := List.mem_map.1 hy
      exact (hf i (by simpa using hi)).2

theorem field_str {H : Type} {enc : TypeId × Value → H} {W : World} {n : Nat} {c : Value} {y : DataW H × List MemPlace} (h : DataW.trod enc Tryz.prog W 0 (fun _ => true) true n 9 [c] = some y) (hw : ∀ k ∈ y.1.weights Tryz.prog 9, k ≤ reachBytes) : ∃ z : ByteArray, c = .string z ∧ z.size ≤ 140737488355328 := by
  obtain ⟨z, hz, hy, _⟩ := DataW.trod_string Tryz.underlying9 h
  have := hw z.data.toList.length (by rw [hy]; exact List.mem_singleton.2 rfl)
  refine ⟨z, by simpa using hz, ?_⟩
  have hr : reachBytes ≤ 140737488355328 := by decide
  have e : z.size = z.data.toList.length := by show z.data.size = _; exact Array.length_toList.symm
  omega

theorem field_i64 {H : Type} {enc : TypeId × Value → H} {W : World} {n : Nat} {c : Value} {y : DataW H × List MemPlace} (h : DataW.trod enc Tryz.prog W 0 (fun _ => true) true n 3 [c] = some y) : ∃ z, c = .int .i64 z := by
  obtain ⟨z, hz, _, _⟩ := DataW.trod_int Tryz.underlying3 h
  exact ⟨z, by simpa using hz⟩

/-- a match -/
theorem open_match7 {H : Type} {enc : TypeId × Value → H} {W : World} {n : Nat} {cs : List Value} {x : DataW H × List MemPlace}
    (h : DataW.trod enc Tryz.prog W 0 (fun _ => true) true n 86 cs = some x) (hw : ∀ k ∈ x.1.weights Tryz.prog 86, k ≤ reachBytes) : ∃ k : Mt, cs = [.int .i64 k.kind, .string k.key, .string k.val] ∧ k.key.size ≤ 140737488355328 ∧ k.val.size ≤ 140737488355328 := by
  obtain ⟨xs, m, _, hx, hl, hlen, hf⟩ := DataW.trod_struct Tryz.underlying86 h
  rw [Tryz.cellsMatch] at hl
  have hlen' : xs.length = 3 := hlen
  obtain ⟨c0, c1, c2, rfl⟩ := list3 hl
  obtain ⟨x0, x1, x2, rfl⟩ := list3 hlen'
  · skip
    have g0 : DataW.trod enc Tryz.prog W 0 (fun _ => true) true m 3 ((List.drop 0 [c0, c1, c2]).take (Tryz.prog.cellsOf 3)) = some x0 := hf 0 _ rfl
    have g1 : DataW.trod enc Tryz.prog W 0 (fun _ => true) true m 9 ((List.drop 1 [c0, c1, c2]).take (Tryz.prog.cellsOf 9)) = some x1 := hf 1 _ rfl
    have g2 : DataW.trod enc Tryz.prog W 0 (fun _ => true) true m 9 ((List.drop 2 [c0, c1, c2]).take (Tryz.prog.cellsOf 9)) = some x2 := hf 2 _ rfl
    rw [Tryz.cellsInt] at g0
    rw [Tryz.cellsStr] at g1 g2
    simp only [List.drop_zero, List.drop_succ_cons, List.take_succ_cons, List.take_zero] at g0 g1 g2
    have hwe : ∀ k, k ∈ DataW.weightsEach Tryz.prog [3, 9, 9] [x0.1, x1.1, x2.1] → k ≤ reachBytes := by
      intro k hk
      refine hw k ?_
      rw [hx]
      simp only [DataW.weights, Tryz.underlying86]
      exact hk
    obtain ⟨z0, rfl⟩ := field_i64 g0
    obtain ⟨z1, rfl, s1⟩ := field_str g1 (fun k hk => hwe k (DataW.weights_mem_each (j := 1) rfl rfl k hk))
    obtain ⟨z2, rfl, s2⟩ := field_str g2 (fun k hk => hwe k (DataW.weights_mem_each (j := 2) rfl rfl k hk))
    exact ⟨⟨z0, z1, z2⟩, rfl, s1, s2⟩

theorem open_expr {H : Type} {enc : TypeId × Value → H} {W : World} : ∀ (fuel : Nat) (cs : List Value) (x : DataW H × List MemPlace),
    DataW.trod enc Tryz.prog W 0 (fun _ => true) true fuel 27 cs = some x → (∀ k ∈ x.1.weights Tryz.prog 27, k ≤ reachBytes) → ∃ t : ET, cs = ecell t ∧ t.In W := by
  intro fuel
  induction fuel using Nat.strongRecOn with
  | ind fuel ih =>
  intro cs x h hw
  obtain ⟨xs, m, hm, hx, hl, hlen, hf⟩ := DataW.trod_struct Tryz.underlying27 h
  rw [Tryz.cellsExpr] at hl
  have hlen' : xs.length = 7 := hlen
  obtain ⟨c0, c1, c2, c3, c4, c5, c6, rfl⟩ := list7 hl
  obtain ⟨x0, x1, x2, x3, x4, x5, x6, rfl⟩ := list7 hlen'
  · skip
    have g0 : DataW.trod enc Tryz.prog W 0 (fun _ => true) true m 3 ((List.drop 0 [c0, c1, c2, c3, c4, c5, c6]).take (Tryz.prog.cellsOf 3)) = some x0 := hf 0 _ rfl
    have g1 : DataW.trod enc Tryz.prog W 0 (fun _ => true) true m 3 ((List.drop 1 [c0, c1, c2, c3, c4, c5, c6]).take (Tryz.prog.cellsOf 3)) = some x1 := hf 1 _ rfl
    have g2 : DataW.trod enc Tryz.prog W 0 (fun _ => true) true m 3 ((List.drop 2 [c0, c1, c2, c3, c4, c5, c6]).take (Tryz.prog.cellsOf 3)) = some x2 := hf 2 _ rfl
    have g3 : DataW.trod enc Tryz.prog W 0 (fun _ => true) true m 9 ((List.drop 3 [c0, c1, c2, c3, c4, c5, c6]).take (Tryz.prog.cellsOf 9)) = some x3 := hf 3 _ rfl
    have g4 : DataW.trod enc Tryz.prog W 0 (fun _ => true) true m 23 ((List.drop 4 [c0, c1, c2, c3, c4, c5, c6]).take (Tryz.prog.cellsOf 23)) = some x4 := hf 4 _ rfl
    have g5 : DataW.trod enc Tryz.prog W 0 (fun _ => true) true m 24 ((List.drop 5 [c0, c1, c2, c3, c4, c5, c6]).take (Tryz.prog.cellsOf 24)) = some x5 := hf 5 _ rfl
    have g6 : DataW.trod enc Tryz.prog W 0 (fun _ => true) true m 25 ((List.drop 6 [c0, c1, c2, c3, c4, c5, c6]).take (Tryz.prog.cellsOf 25)) = some x6 := hf 6 _ rfl
    rw [Tryz.cellsInt] at g0 g1 g2
    rw [Tryz.cellsStr] at g3
    rw [Tryz.cellsMatches] at g4
    rw [Tryz.cellsWords] at g5
    rw [Tryz.cellsExprs] at g6
    simp only [List.drop_zero, List.drop_succ_cons, List.take_succ_cons, List.take_zero] at g0 g1 g2 g3 g4 g5 g6
    have hwe : ∀ k, k ∈ DataW.weightsEach Tryz.prog [3, 3, 3, 9, 23, 24, 25] [x0.1, x1.1, x2.1, x3.1, x4.1, x5.1, x6.1] → k ≤ reachBytes := by
      intro k hk
      refine hw k ?_
      rw [hx]
      simp only [DataW.weights, Tryz.underlying27]
      exact hk
    obtain ⟨z0, rfl⟩ := field_i64 g0
    obtain ⟨z1, rfl⟩ := field_i64 g1
    obtain ⟨z2, rfl⟩ := field_i64 g2
    obtain ⟨z3, rfl, s3⟩ := field_str g3 (fun k hk => hwe k (DataW.weights_mem_each (j := 3) rfl rfl k hk))
    obtain ⟨ms, ma, mc, e4, sg4, q4, _, b4⟩ := open_list (α := Mt) (fun x => [.int .i64 x.kind, .string x.key, .string x.val]) (fun k => k.key.size ≤ 140737488355328 ∧ k.val.size ≤ 140737488355328) 3 (by decide) (fun _ => rfl) Tryz.cellsMatch (by rw [Tryz.bytesMatch]; decide) Tryz.underlying23 g4 (fun k hk => hwe k (DataW.weights_mem_each (j := 4) rfl rfl k hk)) (fun n cs' y _ hy hwy => open_match7 hy hwy)
    obtain ⟨bs, ba, bc, e5, sg5, q5, l5, b5⟩ := open_list (α := ByteArray) (fun x => [.string x]) (fun b => b.size ≤ 140737488355328) 1 (by decide) (fun _ => rfl) Tryz.cellsStr (by rw [Tryz.bytesStr]; decide) Tryz.underlying24 g5 (fun k hk => hwe k (DataW.weights_mem_each (j := 5) rfl rfl k hk)) (fun n cs' y _ hy hwy => by
      obtain ⟨z, hz, _⟩ := DataW.trod_string Tryz.underlying9 hy
      subst hz
      obtain ⟨z', e, s⟩ := field_str hy hwy
      exact ⟨z', by rw [e], s⟩)
    obtain ⟨ks, ka, kc, e6, sg6, q6, _, b6⟩ := open_list (α := ET) ecell (fun t => t.In W) 7 (by decide) (fun _ => rfl) Tryz.cellsExpr (by rw [Tryz.bytesExpr]; decide) Tryz.underlying25 g6 (fun k hk => hwe k (DataW.weights_mem_each (j := 6) rfl rfl k hk)) (fun n cs' y hn hy hwy => ih n (by omega) cs' y hy hwy)
    rw [← mcells_flat] at sg4
    rw [← wcells_flat] at sg5
    rw [← ecells_flat] at sg6
    simp at e4 e5 e6
    subst e4 e5 e6
    unfold reachBytes at b4 b5 b6
    refine ⟨.node ⟨z0, z1, z2, z3, ms, bs⟩ ⟨ma, mc, ba, bc, ka, kc⟩ ks, rfl, ?_⟩
    simp only [ET.In]
    exact ⟨⟨sg4, sg5, sg6⟩, ⟨by omega, by omega, by omega, by omega, fun m hm => ⟨by have := (q4 m hm).1; omega, by have := (q4 m hm).2; omega⟩, fun b hb => by have := q5 b hb; omega, l5, q4⟩, inL_of q6⟩

end Go.Proofs.YthohkokhimdamaaGreat

/-
  Expressions' texts. No program is named here.
-/
namespace Go.GrainU
open Go.RowKit

def itoaB (n : Int) : ByteArray := ⟨(Go.Lib.itoa n).toArray⟩

/-- a match as text -/
def mtx (m : Mt) : ByteArray := if m.kind = 1 then m.key ++ lit [61] ++ m.val else if m.kind = 2 then m.key ++ lit [33, 61] ++ m.val else if m.kind = 4 then lit [33] ++ m.key else m.key

/-- a comma ahead of each -/
def commas : List ByteArray → ByteArray
  | [] => lit []
  | x :: r => lit [44] ++ x ++ commas r

/-- commas between -/
def jn : List ByteArray → ByteArray
  | [] => lit []
  | x :: r => x ++ commas r

/-- by keys -/
def byt (l : List ByteArray) : ByteArray := if l.length = 0 then lit [] else lit [32, 98, 121, 32] ++ jn l

/-- how close it holds: 0 + and -, 1 *, 2 all else -/
def rk (h : Hd) : Int := if h.kind = 4 then (if h.word = lit [42] then 1 else 0) else 2

/-- brackets, where it doesn't hold so close -/
def wi (least : Int) (p : Int × ByteArray) : ByteArray := if p.1 < least then lit [40] ++ p.2 ++ lit [41] else p.2

def at2 (l : List (Int × ByteArray)) (k : Nat) : Int × ByteArray := l.getD k (0, lit [])

/-- a text of its kids' texts -/
def bodyT (h : Hd) (l : List (Int × ByteArray)) : ByteArray :=
  if h.kind = 1 then itoaB h.n
  else if h.kind = 2 then h.word ++ lit [40, 123] ++ jn (h.ms.map mtx) ++ lit [125, 91] ++ itoaB h.range ++ lit [93, 41]
  else if h.kind = 3 then lit [97, 108, 108, 32] ++ h.word ++ byt h.bs ++ lit [32, 40] ++ (at2 l 0).2 ++ lit [41]
  else wi (rk h) (at2 l 0) ++ lit [32] ++ h.word ++ lit [32] ++ wi (rk h + 1) (at2 l 1)

mutual
/-- an expression as text -/
def tx : Ex → ByteArray
  | .mk h kids => bodyT h (txL kids)
def txL : List Ex → List (Int × ByteArray)
  | [] => []
  | k :: r => (rk k.hd, tx k) :: txL r
end

theorem txL_map (l : List Ex) : txL l = l.map fun k => (rk k.hd, tx k) := by
  induction l with
  | nil => rfl
  | cons k r ih => simp [txL, ih]

theorem at2_tx {l : List Ex} {k : Nat} (h : k < l.length) : at2 (txL l) k = (rk (l[k]).hd, tx l[k]) := by
  simp [at2, txL_map, List.getD, h]

theorem lit_nil_append (s : ByteArray) : lit [] ++ s = s := by
  apply ByteArray.ext
  simp [lit, ByteArray.data_append]

theorem append_lit_nil (s : ByteArray) : s ++ lit [] = s := by
  apply ByteArray.ext
  simp [lit, ByteArray.data_append]

theorem commas_snoc (l : List ByteArray) (x : ByteArray) : commas (l ++ [x]) = commas l ++ lit [44] ++ x := by
  induction l with
  | nil => simp [commas, append_lit_nil, lit_nil_append]
  | cons a r ih => simp [commas, ih, ByteArray.append_assoc]

theorem jn_snoc {l : List ByteArray} (h : l ≠ []) (x : ByteArray) : jn (l ++ [x]) = jn l ++ lit [44] ++ x := by
  cases l with
  | nil => exact absurd rfl h
  | cons a r => simp [jn, commas_snoc, ByteArray.append_assoc]

theorem commas_data (l : List ByteArray) : (commas l).data.toList = Go.Lib.joinTail [44] (l.map (·.data.toList)) := by
  induction l with
  | nil => simp [commas, Go.Lib.joinTail, lit]
  | cons a r ih => simp [commas, Go.Lib.joinTail, lit, ByteArray.data_append] at ih ⊢; exact ih

theorem jn_join (l : List ByteArray) : jn l = ⟨(Go.Lib.join (l.map (·.data.toList)) [44]).toArray⟩ := by
  apply ByteArray.ext
  apply Array.toList_inj.1
  cases l with
  | nil => simp [jn, lit, Go.Lib.join_nil]
  | cons a r =>
    rw [List.map_cons, Go.Lib.join_cons]
    simp [jn, ByteArray.data_append, commas_data]

theorem jn_size_join (l : List ByteArray) : (Go.Lib.join (l.map (·.data.toList)) [44]).length = (jn l).size := by
  rw [jn_join]; simp [ByteArray.size]

theorem lit_size (l : List UInt8) : (lit l).size = l.length := by simp [lit, ByteArray.size]
theorem app_size (a b : ByteArray) : (a ++ b).size = a.size + b.size := ByteArray.size_append

theorem commas_size {l : List ByteArray} {c : Nat} (h : ∀ x ∈ l, x.size ≤ c) : (commas l).size ≤ l.length * (c + 1) := by
  induction l with
  | nil => simp [commas, lit_size]
  | cons a r ih =>
    have h1 := h a (by simp)
    have h2 := ih fun x hx => h x (by simp [hx])
    simp only [commas, app_size, lit_size, List.length_cons, List.length_nil, Nat.add_mul]
    omega

theorem jn_size {l : List ByteArray} {c : Nat} (h : ∀ x ∈ l, x.size ≤ c) : (jn l).size ≤ l.length * (c + 1) := by
  cases l with
  | nil => simp [jn, lit_size]
  | cons a r =>
    have h1 := h a (by simp)
    have h2 := commas_size (l := r) (c := c) fun x hx => h x (List.mem_cons_of_mem _ hx)
    simp only [jn, app_size, List.length_cons, Nat.add_mul]
    omega

theorem has_mem {l : List ByteArray} {x : ByteArray} (h : has l x = true) : x ∈ l := by
  unfold has at h
  rw [List.any_eq_true] at h
  obtain ⟨y, hy, e⟩ := h
  have := of_decide_eq_true e
  rw [← this]; exact hy

theorem words_size {x : ByteArray} (h : has words8 x = true) : x.size ≤ 5 := by
  have := has_mem h
  simp only [words8, List.mem_cons, List.not_mem_nil, or_false] at this
  rcases this with e | e | e | e | e | e | e | e <;> (rw [e, lit_size]; decide)

theorem totals_size {x : ByteArray} (h : has totals4 x = true) : x.size ≤ 5 := by
  have := has_mem h
  simp only [totals4, List.mem_cons, List.not_mem_nil, or_false] at this
  rcases this with e | e | e | e <;> (rw [e, lit_size]; decide)

theorem signs_size {x : ByteArray} (h : has signs3 x = true) : x.size ≤ 1 := by
  have := has_mem h
  simp only [signs3, List.mem_cons, List.not_mem_nil, or_false] at this
  rcases this with e | e | e <;> (rw [e, lit_size]; decide)

theorem named_size {x : ByteArray} (h : Grain.named x = true) : x.size ≤ 12 := by
  unfold Grain.named at h
  simp at h
  exact h.2.2

theorem mBad_ok {m : Mt} (h : mBad m = 0) : 1 ≤ m.kind ∧ m.kind ≤ 4 ∧ Grain.named m.key = true ∧ (m.kind ≤ 2 → Grain.named m.val = true) := by
  unfold mBad at h
  split at h
  · omega
  · rename_i h1
    split at h
    · rename_i h2
      simp at h2
      refine ⟨by omega, by omega, h2.1, fun hk => ?_⟩
      rcases h2.2 with e | e
      · omega
      · exact e
    · omega

theorem mtx_size {m : Mt} (h : mBad m = 0) : (mtx m).size ≤ 26 := by
  obtain ⟨h1, h2, h3, h4⟩ := mBad_ok h
  have k := named_size h3
  unfold mtx
  split
  · have := named_size (h4 (by omega)); simp only [app_size, lit_size, List.length_cons, List.length_nil]; omega
  · split
    · have := named_size (h4 (by omega)); simp only [app_size, lit_size, List.length_cons, List.length_nil]; omega
    · split
      · simp only [app_size, lit_size, List.length_cons, List.length_nil]; omega
      · omega

theorem msBad_ok {l : List Mt} (h : msBad l = 0) : ∀ m ∈ l, mBad m = 0 := by
  induction l with
  | nil => intro m hm; cases hm
  | cons a r ih =>
    unfold msBad at h
    split at h
    · rename_i h1
      intro m hm
      rcases List.mem_cons.1 hm with e | e
      · rw [e]; exact h1
      · exact ih h m e
    · rename_i h1; exact absurd h h1

theorem winBad_ok {h : Hd} (k : winBad h = 0) : has words8 h.word = true ∧ h.ms.length ≤ 5 ∧ msBad h.ms = 0 ∧ 1 ≤ h.range ∧ h.range ≤ 100000 := by
  unfold winBad at k
  split at k
  · omega
  · rename_i h1
    split at k
    · omega
    · split at k
      · rename_i h3
        split at k
        · omega
        · exact ⟨by simpa using h1, by omega, h3, by omega, by omega⟩
      · rename_i h3; exact absurd k h3

theorem allBad_ok {h : Hd} (k : allBad h = 0) : has totals4 h.word = true ∧ h.bs.length ≤ 4 ∧ h.bs.all Grain.named = true := by
  unfold allBad at k
  split at k
  · omega
  · rename_i h1
    split at k
    · omega
    · split at k
      · rename_i h3
        exact ⟨by simpa using h1, by omega, h3⟩
      · omega

theorem alone_cases {h : Hd} {k : Nat} (e : alone h k = 0) : (h.kind = 1 ∧ k = 0 ∧ 0 ≤ h.n ∧ h.n ≤ 1000000) ∨ (h.kind = 2 ∧ k = 0 ∧ winBad h = 0) ∨ (h.kind = 3 ∧ k = 1 ∧ allBad h = 0) ∨ (h.kind = 4 ∧ k = 2 ∧ has signs3 h.word = true) := by
  unfold alone at e
  split at e
  · rename_i h1
    split at e
    · split at e
      · omega
      · exact .inl ⟨h1, by assumption, by omega, by omega⟩
    · omega
  · split at e
    · split at e
      · exact .inr (.inl ⟨by assumption, by assumption, e⟩)
      · omega
    · split at e
      · split at e
        · exact .inr (.inr (.inl ⟨by assumption, by assumption, e⟩))
        · omega
      · split at e
        · split at e
          · split at e
            · exact .inr (.inr (.inr ⟨by assumption, by assumption, by assumption⟩))
            · omega
          · omega
        · omega

theorem itoaB_size {n : Int} (h0 : 0 ≤ n) (h1 : n ≤ 1000000) : (itoaB n).size ≤ 21 := by
  have := Go.Lib.itoa_length_le n (by omega) (by omega)
  simpa [itoaB, ByteArray.size] using this

theorem mtexts_size {l : List Mt} (h : msBad l = 0) (hl : l.length ≤ 5) : (jn (l.map mtx)).size ≤ 135 := by
  have := jn_size (l := l.map mtx) (c := 26) fun x hx => by
    obtain ⟨m, hm, rfl⟩ := List.mem_map.1 hx
    exact mtx_size (msBad_ok h m hm)
  simp at this
  omega

theorem byt_size {l : List ByteArray} (h : l.all Grain.named = true) (hl : l.length ≤ 4) : (byt l).size ≤ 56 ∧ (jn l).size ≤ 52 := by
  rw [List.all_eq_true] at h
  have := jn_size (l := l) (c := 12) fun x hx => named_size (h x hx)
  unfold byt
  split
  · simp only [lit_size, List.length_nil]; omega
  · simp only [app_size, lit_size, List.length_cons, List.length_nil]; omega

theorem wi_size (least : Int) (p : Int × ByteArray) : (wi least p).size ≤ p.2.size + 2 := by
  unfold wi
  split
  · simp only [app_size, lit_size, List.length_cons, List.length_nil]; omega
  · omega

theorem Rt.parts {h : Hd} {kids : List Ex} (r : Rt (.mk h kids)) : alone h kids.length = 0 ∧ ∀ k ∈ kids, Rt k := by
  cases r with
  | mk _ _ a b => exact ⟨a, b⟩

theorem tx_size : ∀ x : Ex, Rt x → (tx x).size ≤ 300 * cnt x := by
  refine Ex.ind ?_
  intro h kids ih hr
  obtain ⟨ha, hk⟩ := hr.parts
  simp only [tx, cnt]
  rcases alone_cases ha with ⟨e, k, n0, n1⟩ | ⟨e, k, wb⟩ | ⟨e, k, ab⟩ | ⟨e, k, sg⟩
  · have := itoaB_size n0 n1
    simp only [bodyT, e, if_true]; omega
  · obtain ⟨a1, a2, a3, a4, a5⟩ := winBad_ok wb
    have b1 := words_size a1
    have b2 := mtexts_size a3 a2
    have b3 := itoaB_size (n := h.range) (by omega) (by omega)
    simp only [bodyT, e, show ((2 : Int) = 1) = False from by simp, if_false, if_true, app_size, lit_size, List.length_cons, List.length_nil]; omega
  · obtain ⟨a1, a2, a3⟩ := allBad_ok ab
    have b1 := totals_size a1
    have b2 := (byt_size a3 a2).1
    match kids, k with
    | [x], _ =>
      have b3 := ih x (by simp) (hk x (by simp))
      simp only [bodyT, e, show ((3 : Int) = 1) = False from by simp, show ((3 : Int) = 2) = False from by simp, if_false, if_true, app_size, lit_size, List.length_cons, List.length_nil, at2, txL, List.getD, List.getElem?_cons_zero, Option.getD_some, cntL]; omega
  · have b1 := signs_size sg
    match kids, k with
    | [x, y], _ =>
      have b3 := ih x (by simp) (hk x (by simp))
      have b4 := ih y (by simp) (hk y (by simp))
      have b5 := wi_size (rk h) (rk x.hd, tx x)
      have b6 := wi_size (rk h + 1) (rk y.hd, tx y)
      simp only [bodyT, e, show ((4 : Int) = 1) = False from by simp, show ((4 : Int) = 2) = False from by simp, show ((4 : Int) = 3) = False from by simp, if_false, app_size, lit_size, List.length_cons, List.length_nil, at2, txL, List.getD, List.getElem?_cons_zero, List.getElem?_cons_succ, Option.getD_some, cntL] at b5 b6 ⊢; omega

/-- of what nothing is wrong with each is right, and there are not too many -/
theorem wr_ok : ∀ x : Ex, ∀ d n, 0 ≤ n → (wr x d n).1 = 0 → Rt x ∧ (wr x d n).2 = n + cnt x ∧ n + cnt x ≤ 100 ∧ d ≤ 20 := by
  refine Ex.ind ?_
  intro h kids ih d n hn e
  have hL : ∀ l : List Ex, (∀ k ∈ l, k ∈ kids) → ∀ m, 0 ≤ m → m ≤ 100 → (wrL l (d + 1) m).1 = 0 → (∀ k ∈ l, Rt k) ∧ (wrL l (d + 1) m).2 = m + cntL l ∧ m + cntL l ≤ 100 := by
    intro l
    induction l with
    | nil => intro _ m hm h1 _; exact ⟨fun k hk => by (cases hk), by simp [wrL, cntL], by simp [cntL]; omega⟩
    | cons a r ihr =>
      intro hin m hm h1 e1
      simp only [wrL] at e1 ⊢
      by_cases e2 : (wr a (d + 1) m).1 = 0
      · rw [if_pos e2] at e1 ⊢
        obtain ⟨r1, r2, r3, _⟩ := ih a (hin a (by simp)) (d + 1) m hm e2
        rw [r2] at e1 ⊢
        obtain ⟨s1, s2, s3⟩ := ihr (fun k hk => hin k (by simp [hk])) (m + cnt a) (by omega) r3 e1
        refine ⟨fun k hk => ?_, by rw [s2]; simp only [cntL]; omega, by simp only [cntL]; omega⟩
        rcases List.mem_cons.1 hk with e | e
        · rw [e]; exact r1
        · exact s1 k e
      · rw [if_neg e2] at e1; exact absurd e1 e2
  simp only [wr, cnt] at e ⊢
  by_cases h1 : 100 < n + 1 ∨ 20 < d
  · rw [if_pos h1] at e; simp at e
  · rw [if_neg h1] at e ⊢
    by_cases h2 : alone h kids.length = 0
    · rw [if_pos h2] at e ⊢
      obtain ⟨s1, s2, s3⟩ := hL kids (fun k hk => hk) (n + 1) (by omega) (by omega) e
      exact ⟨.mk h kids h2 s1, by rw [s2]; omega, by omega, by omega⟩
    · rw [if_neg h2] at e; exact absurd e h2

end Go.GrainU
