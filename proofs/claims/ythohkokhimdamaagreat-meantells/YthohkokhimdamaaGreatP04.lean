/-
  Words as cells; a word among words.
-/
import Derived.Test.YthohkokhimdamaaGreatP03
import Derived.Test.YthohkokhimdamaaGreatP01
/-
  Matches as cells; what a series' label must be.
-/
namespace Go.GrainU
open Go.RowKit

/-- a match: its kind, key and value -/
structure Mt where
  kind : Int
  key : ByteArray
  val : ByteArray

/-- matches as cells -/
def mcells : List Mt → List Value
  | [] => []
  | x :: r => .int .i64 x.kind :: .string x.key :: .string x.val :: mcells r

/-- match k -/
def mt (l : List Mt) (k : Nat) : Mt := l.getD k ⟨0, ⟨#[]⟩, ⟨#[]⟩⟩

theorem mcells_length (l : List Mt) : (mcells l).length = l.length * 3 := by
  induction l with
  | nil => rfl
  | cons s r ih => simp only [mcells, List.length_cons, ih]; omega

theorem mcells_at (l : List Mt) : ∀ k, k < l.length → (mcells l)[k * 3]? = some (.int .i64 (mt l k).kind) ∧ (mcells l)[k * 3 + 1]? = some (.string (mt l k).key) ∧ (mcells l)[k * 3 + 2]? = some (.string (mt l k).val) := by
  induction l with
  | nil => intro k hk; simp at hk
  | cons s r ih =>
    intro k hk
    match k with
    | 0 => simp [mcells, mt]
    | k + 1 =>
      have := ih k (by simpa using hk)
      rw [show (k + 1) * 3 = k * 3 + 1 + 1 + 1 from by omega]
      simpa [mcells, mt] using this

theorem seg_match {w : World} {ao : Option Addr} {l : List Mt} (h : Seg w ao (mcells l)) {k : Nat} (hk : k < l.length) :
    ∃ b off, ao = some ⟨b, off, none⟩ ∧ b < w.heap.size ∧ ∀ j, j < l.length → w.cell? ⟨b, off + j * 3, none⟩ = some (.int .i64 (mt l j).kind) ∧ w.cell? ⟨b, off + j * 3 + 1, none⟩ = some (.string (mt l j).key) ∧ w.cell? ⟨b, off + j * 3 + 2, none⟩ = some (.string (mt l j).val) := by
  have hs := mcells_length l
  rcases h with h | ⟨b, off, rfl, h⟩
  · rw [h] at hs; simp at hs; omega
  · have hc : ∀ j, j < l.length → w.cell? ⟨b, off + j * 3, none⟩ = some (.int .i64 (mt l j).kind) ∧ w.cell? ⟨b, off + j * 3 + 1, none⟩ = some (.string (mt l j).key) ∧ w.cell? ⟨b, off + j * 3 + 2, none⟩ = some (.string (mt l j).val) := fun j hj => by
      have := mcells_at l j hj
      exact ⟨(h (j * 3) (by omega)).trans this.1, by rw [Nat.add_assoc]; exact (h (j * 3 + 1) (by omega)).trans this.2.1, by rw [Nat.add_assoc]; exact (h (j * 3 + 2) (by omega)).trans this.2.2⟩
    exact ⟨b, off, rfl, World.block_lt_of_cell? w ⟨b, off + k * 3, none⟩ (hc k hk).1, hc⟩

theorem take_mt {l : List Mt} {k : Nat} (h : k < l.length) : l.take (k + 1) = l.take k ++ [mt l k] := by
  rw [List.take_add_one, List.getElem?_eq_getElem h]
  simp [mt, List.getD, List.getElem?_eq_getElem h]

/-- what the first label with a key says -/
def find : List (ByteArray × ByteArray) → ByteArray → Option ByteArray
  | [], _ => none
  | x :: r, k => if x.1 = k then some x.2 else find r k

theorem find_drop {l : List (ByteArray × ByteArray)} {j : Nat} (h : j < l.length) (key : ByteArray) : find (l.drop j) key = if lk l j = key then some (lv l j) else find (l.drop (j + 1)) key := by
  rw [List.drop_eq_getElem_cons h, find]
  simp [lk, lv, List.getD, List.getElem?_eq_getElem h]

/-- a series is as a match says -/
def sayM (f : Option ByteArray) (x : Mt) : Bool :=
  if x.kind = 1 then decide (f = some x.val) else if x.kind = 2 then !decide (f = some x.val) else if x.kind = 3 then f.isSome else if x.kind = 4 then f.isNone else false

/-- a series is as all matches say -/
def says (s : List (ByteArray × ByteArray)) (l : List Mt) : Bool := l.all fun x => sayM (find s x.key) x

theorem says_take {s : List (ByteArray × ByteArray)} {l : List Mt} {k : Nat} (h : k < l.length) : says s (l.take (k + 1)) = (says s (l.take k) && sayM (find s (mt l k).key) (mt l k)) := by
  rw [take_mt h]
  simp [says]

theorem says_no {s : List (ByteArray × ByteArray)} {l : List Mt} {k : Nat} (h : k < l.length) (h' : sayM (find s (mt l k).key) (mt l k) = false) : says s l = false := by
  unfold says
  rw [List.all_eq_false]
  exact ⟨mt l k, by simp [mt, List.getD, List.getElem?_eq_getElem h], by simpa using h'⟩

end Go.GrainU

/-
  Words as cells; a word among words.
-/
namespace Go.GrainU
open Go.RowKit

/-- words as cells -/
def wcells (l : List ByteArray) : List Value := l.map Value.string

theorem seg_word {w : World} {ao : Option Addr} {l : List ByteArray} (h : Seg w ao (wcells l)) {k : Nat} (hk : k < l.length) :
    ∃ b off, ao = some ⟨b, off, none⟩ ∧ b < w.heap.size ∧ ∀ j, j < l.length → w.cell? ⟨b, off + j, none⟩ = some (.string (l.getD j ⟨#[]⟩)) := by
  rcases h with h | ⟨b, off, rfl, h⟩
  · have := congrArg List.length h; simp [wcells] at this; subst this; simp at hk
  · have hc : ∀ j, j < l.length → w.cell? ⟨b, off + j, none⟩ = some (.string (l.getD j ⟨#[]⟩)) := fun j hj => by
      rw [h j (by simpa [wcells] using hj)]
      simp [wcells, List.getElem?_eq_getElem hj, List.getD]
    exact ⟨b, off, rfl, World.block_lt_of_cell? w ⟨b, off + k, none⟩ (hc k hk), hc⟩

/-- a word is among words -/
def has (ks : List ByteArray) (x : ByteArray) : Bool := ks.any fun k => decide (k = x)

theorem has_none {ks : List ByteArray} {x : ByteArray} (h : ∀ j, j < ks.length → ks.getD j ⟨#[]⟩ ≠ x) : has ks x = false := by
  unfold has
  rw [List.any_eq_false]
  intro k hk
  obtain ⟨j, hj, e⟩ := List.mem_iff_getElem.1 hk
  have := h j hj
  simp only [List.getD, List.getElem?_eq_getElem hj, e, Option.getD_some] at this
  simpa using this

theorem has_at {ks : List ByteArray} {x : ByteArray} {j : Nat} (hj : j < ks.length) (h : ks.getD j ⟨#[]⟩ = x) : has ks x = true := by
  unfold has
  rw [List.any_eq_true]
  exact ⟨ks.getD j ⟨#[]⟩, by simp [List.getD, List.getElem?_eq_getElem hj], by simpa using h⟩

end Go.GrainU
