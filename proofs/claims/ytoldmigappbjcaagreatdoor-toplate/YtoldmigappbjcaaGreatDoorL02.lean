import Derived.BigQuiet
import Derived.Deep.AppendLies
import Derived.Deep.QuietTactic
import Derived.Handy
import Derived.WalkKit
import Derived.WalkLawsBesides
import Derived.WalkSmall
import Derived.WalkSpells
import Derived.Test.YtoldmigappbjcaaGreatDoorL01
namespace Go.GrainU
open Go.RowKit
def Seg (w : World) (ao : Option Addr) (xs : List Value) : Prop :=
 xs = [] ∨ ∃ b off, ao = some ⟨b, off, none⟩ ∧ ∀ j, j < xs.length → w.cell? ⟨b, off + j, none⟩ = xs[j]?
def scells : List (Int × Int) → List Value
 | [] => []
 | s :: r => .int .i64 s.1 :: .int .i64 s.2 :: scells r
theorem scells_length (l : List (Int × Int)) : (scells l).length = l.length * 2 := by
 induction l with
 | nil => rfl
 | cons s r ih => simp only [scells, List.length_cons, ih]; omega
theorem scells_at (l : List (Int × Int)) : ∀ k, k < l.length → (scells l)[k * 2]? = some (.int .i64 (Grain.tm l k)) ∧ (scells l)[k * 2 + 1]? = some (.int .i64 (Grain.vl l k)) := by
 induction l with
 | nil => intro k hk; simp at hk
 | cons s r ih =>
  intro k hk
  match k with
  | 0 => simp [scells, Grain.tm, Grain.vl]
  | k + 1 =>
   have := ih k (by simpa using hk)
   rw [show (k + 1) * 2 = k * 2 + 1 + 1 from by omega]
   simpa [scells, Grain.tm, Grain.vl] using this
theorem Seg.sample {w : World} {ao : Option Addr} {l : List (Int × Int)} (h : Seg w ao (scells l)) {k : Nat} (hk : k < l.length) :
  ∃ b off, ao = some ⟨b, off, none⟩ ∧ ∀ j, j < l.length → w.cell? ⟨b, off + j * 2, none⟩ = some (.int .i64 (Grain.tm l j)) ∧ w.cell? ⟨b, off + j * 2 + 1, none⟩ = some (.int .i64 (Grain.vl l j)) := by
 rcases h with h | ⟨b, off, rfl, h⟩
 ·have := scells_length l; rw [h] at this; simp at this; omega
 ·refine ⟨b, off, rfl, fun j hj => ?_⟩
  have hs := scells_length l
  have hc := scells_at l j hj
  exact ⟨(h (j * 2) (by omega)).trans hc.1, by rw [Nat.add_assoc]; exact (h (j * 2 + 1) (by omega)).trans hc.2⟩
theorem Seg.block_lt {w : World} {b off : Nat} {xs : List Value} (h : ∀ j, j < xs.length → w.cell? ⟨b, off + j, none⟩ = xs[j]?) (hx : xs ≠ []) : b < w.heap.size := by
 match xs, hx with
 | x :: r, _ =>
  have := h 0 (by simp)
  exact World.block_lt_of_cell? w ⟨b, off + 0, none⟩ (u := x) (by simpa using this)
theorem Seg.below {w w' : World} {ao : Option Addr} {xs : List Value} (h : Seg w ao xs) (hb : Below w.heap.size w w') : Seg w' ao xs := by
 rcases h with h | ⟨b, off, rfl, h⟩
 ·exact .inl h
 ·by_cases hx : xs = []
  ·exact .inl hx
  ·have hl := Seg.block_lt h hx
   exact .inr ⟨b, off, rfl, fun j hj => (hb.cell (p := ⟨b, off + j, none⟩) hl).trans (h j hj)⟩
theorem bcell {W w1 : World} (hb : Below W.heap.size W w1) : (∀ b o, b < W.heap.size → w1.cell? ⟨b, o, none⟩ = W.cell? ⟨b, o, none⟩) ∧ (∀ b o, b < W.heap.size → w1.frozen? ⟨b, o, none⟩ = W.frozen? ⟨b, o, none⟩) :=
 ⟨fun b o h => hb.cell (p := ⟨b, o, none⟩) h, fun b o h => hb.frozen (p := ⟨b, o, none⟩) h⟩
theorem hide {p : Prop} (h : p) : Hid p := h
theorem ret_int {k : IntKind} {a b : Int} (h : a = b) : Ending.returned (.int k a) = .returned (.int k b) := by rw [h]
theorem ret_bool {a b : Bool} (h : a = b) : Ending.returned (.bool a) = .returned (.bool b) := by rw [h]
theorem two_cells {w : World} {B : Nat} {x y : Value} {t : TypeId} (h : w.heap[B]? = some (.cells #[x, y] t (0, 0))) :
  w.cell? ⟨B, 0, none⟩ = some x ∧ w.cell? ⟨B, 1, none⟩ = some y ∧ w.frozen? ⟨B, 0, none⟩ = false ∧ w.frozen? ⟨B, 1, none⟩ = false := by
 simp [World.cell?, World.frozen?, h]
theorem grown_trans {a b c : World} {r r' : Option Nat} (h : a.grownBy b r) (h' : b.grownBy c r') (hr : ∀ k, r' = some k → r = some k ∨ a.heap.size ≤ k) : a.grownBy c r :=
  ⟨h'.os.trans h.os, h'.tape.trans h.tape, h'.output.trans h.output, Nat.le_trans h.size h'.size, fun k hk hne =>
    (h'.block k (Nat.lt_of_lt_of_le hk h.size) (fun e => by rcases hr k e.symm with e' | e'; · exact hne e'.symm
                                                            · omega)).trans (h.block k hk hne)⟩
theorem two_set {w : World} {B : Nat} {x y : Value} {t : TypeId} (h : w.heap[B]? = some (.cells #[x, y] t (0, 0))) (p q : Value) :
  ((w.setCell ⟨B, 0, none⟩ p).setCell ⟨B, 1, none⟩ q).heap[B]? = some (.cells #[p, q] t (0, 0)) := by
 simp [World.setCell, Array.getElem?_modify, h]
theorem setCell_far {w : World} {B k o : Nat} {p : Value} (h : k ≠ B) : (w.setCell ⟨B, o, none⟩ p).heap[k]? = w.heap[k]? := Below.heap_setCell w _ p k h
theorem own_block {w : World} {base e size g n cap : Nat} {xs : List Value} (hown : w.ownsRow base e size (.slice (some ⟨g, 0, none⟩) n cap) n xs) : base ≤ g ∧ g < w.heap.size := by
 rcases hown.2 with ⟨h0, _⟩ | ⟨g', cap', cur, h0, hb, hh, _⟩
 ·simp at h0
 ·simp at h0
  rw [h0.1]
  exact ⟨hb, lt_of_block hh⟩
theorem scells_append (a b : List (Int × Int)) : scells (a ++ b) = scells a ++ scells b := by
 induction a with
 | nil => rfl
 | cons x r ih => simp [scells, ih]
theorem own_slen {w : World} {base e N : Nat} {v : Value} {l : List (Int × Int)} (h : w.ownsRow base e 2 v N (scells l)) : N = l.length := by
 have := h.1; rw [scells_length] at this; omega
theorem own_seg {w : World} {base e size g n cap : Nat} {xs : List Value} (h : w.ownsRow base e size (.slice (some ⟨g, 0, none⟩) n cap) n xs) : Seg w (some ⟨g, 0, none⟩) xs := by
 refine .inr ⟨g, 0, rfl, fun j hj => ?_⟩
 rw [Nat.zero_add]
 exact h.cellAt j (by rw [← h.1]; exact hj)
theorem below_block {w w' : World} (hb : Below w.heap.size w w') {k : Nat} {o : Obj} (h : w.heap[k]? = some o) : w'.heap[k]? = some o := by
 rw [hb.block k (lt_of_block h)]; exact h
theorem own_below {w w' : World} {base e size n : Nat} {v : Value} {xs : List Value} (h : w.ownsRow base e size v n xs) (hb : Below w.heap.size w w') : w'.ownsRow base e size v n xs :=
 h.kept (row := none) ⟨hb.os, hb.tape, hb.output, hb.size, fun k hk _ => hb.block k hk⟩ (by
  cases v.ownBlock with
  | none => exact .inl rfl
  | some x => exact .inr (by simp))
theorem news_two {W : World} {B : Nat} (hB : W.heap.size = B) (x y : Value) (t : TypeId) : ∀ j u, [x, y][j]? = some u → (W.alloc (.cells #[x, y] t)).cell? ((⟨B, 0, none⟩ : Addr).add j) = some u := by
 subst hB; exact cell_two_new W x y t
theorem seg_new (w : World) (cs : Array Value) (t : TypeId) : Seg (w.alloc (.cells cs t)) (some ⟨w.heap.size, 0, none⟩) cs.toList := by
 refine .inr ⟨w.heap.size, 0, rfl, fun j hj => ?_⟩
 rw [Nat.zero_add, World.cell?_alloc_new]
 simp
theorem own_cap {w : World} {base e size g n cap : Nat} {xs : List Value} (hown : w.ownsRow base e size (.slice (some ⟨g, 0, none⟩) n cap) n xs) : n ≤ cap ∧ cap ≤ maxLen := by
 rcases hown.2 with ⟨h0, _⟩ | ⟨g', cap', cur, h0, hb, hh, h1, h2, _⟩
 ·simp at h0
 ·simp at h0
  rw [h0.2]
  exact ⟨h1, h2⟩
open Go.RowKit
def wcells (l : List ByteArray) : List Value := l.map Value.string
theorem seg_word {w : World} {ao : Option Addr} {l : List ByteArray} (h : Seg w ao (wcells l)) {k : Nat} (hk : k < l.length) :
  ∃ b off, ao = some ⟨b, off, none⟩ ∧ b < w.heap.size ∧ ∀ j, j < l.length → w.cell? ⟨b, off + j, none⟩ = some (.string (l.getD j ⟨#[]⟩)) := by
 rcases h with h | ⟨b, off, rfl, h⟩
 ·have := congrArg List.length h; simp [wcells] at this; subst this; simp at hk
 ·have hc : ∀ j, j < l.length → w.cell? ⟨b, off + j, none⟩ = some (.string (l.getD j ⟨#[]⟩)) := fun j hj => by
   rw [h j (by simpa [wcells] using hj)]
   simp [wcells, List.getElem?_eq_getElem hj, List.getD]
  exact ⟨b, off, rfl, World.block_lt_of_cell? w ⟨b, off + k, none⟩ (hc k hk), hc⟩
def has (ks : List ByteArray) (x : ByteArray) : Bool := ks.any fun k => decide (k = x)
theorem has_none {ks : List ByteArray} {x : ByteArray} (h : ∀ j, j < ks.length → ks.getD j ⟨#[]⟩ ≠ x) : has ks x = false := by
 unfold has
 rw [List.any_eq_false]
 intro k hk
 obtain ⟨j, hj, e⟩ := List.mem_iff_getElem.1 hk
 have := h j hj
 simp only [List.getD, List.getElem?_eq_getElem hj, e, Option.getD_some] at this
 simpa using this
theorem has_at {ks : List ByteArray} {x : ByteArray} {j : Nat} (hj : j < ks.length) (h : ks.getD j ⟨#[]⟩ = x) : has ks x = true := by
 unfold has
 rw [List.any_eq_true]
 exact ⟨ks.getD j ⟨#[]⟩, by simp [List.getD, List.getElem?_eq_getElem hj], by simpa using h⟩
open Go.RowKit
theorem grown_of_below {w w' : World} (hb : Below w.heap.size w w') : w.grownBy w' none := ⟨hb.os, hb.tape, hb.output, hb.size, fun k hk _ => hb.block k hk⟩
theorem grown_call {W V w' : World} {r : Option Nat} (h : W.grownBy V r) (hb : Below V.heap.size V w') : W.grownBy w' r := grown_trans h (grown_of_below hb) (fun k hk => by cases hk)
end Go.GrainU
