/-
  Lines and cells as they lie in memory.
-/
import Derived.Test.YthohkokhimdamaaGreatP01
import Derived.Test.YthohkokhimdamaaGreatP09
import Derived.Test.YthohkokhimdamaaGreatP02
import Derived.Deep.Onto
/-
  What the walk of the document's Bytes needs of worlds.
-/
namespace Go.GrainU
open Go.RowKit

theorem grown_of_below {w w' : World} (hb : Below w.heap.size w w') : w.grownBy w' none := ⟨hb.os, hb.tape, hb.output, hb.size, fun k hk _ => hb.block k hk⟩

/-- a call that only makes memory, behind what is known -/
theorem grown_call {W V w' : World} {r : Option Nat} (h : W.grownBy V r) (hb : Below V.heap.size V w') : W.grownBy w' r := grown_trans h (grown_of_below hb) (fun k hk => by cases hk)

/-- an append to the row, or to a new one, behind what is known -/
theorem grown_app {W V w' : World} {g g' n c : Nat} (h : W.grownBy V (some g)) (hg : V.grownBy w' (Value.slice (some ⟨g', 0, none⟩) n c).ownBlock) (hr : g' = g ∨ W.heap.size ≤ g') : W.grownBy w' (some g) :=
  grown_trans h hg (fun k hk => by
    simp [Value.ownBlock] at hk
    subst hk
    rcases hr with e | e
    · left; rw [e]
    · exact .inr e)

theorem bcells_one (l : List Int) : ∀ u ∈ bcells l, u.oneCell' = true := by
  intro u hu
  simp [bcells] at hu
  obtain ⟨x, _, rfl⟩ := hu
  rfl

theorem bcells_append (a b : List Int) : bcells (a ++ b) = bcells a ++ bcells b := by simp [bcells]

/-- a row is as it was, behind an append to another one -/
theorem own_apart {w w' : World} {base e size g n cap g' n' c' : Nat} {xs : List Value} (h : w.ownsRow base e size (.slice (some ⟨g, 0, none⟩) n cap) n xs) (hg : w.grownBy w' (Value.slice (some ⟨g', 0, none⟩) n' c').ownBlock) (hne : g ≠ g') :
    w'.ownsRow base e size (.slice (some ⟨g, 0, none⟩) n cap) n xs := h.kept hg (.inr (by simpa [Value.ownBlock] using hne))

theorem at_cases {W : World} {g n c gc H : Nat} (h : (Value.slice (some ⟨g, 0, none⟩) n c).ownBlock = some gc ∨ gc = H) (hH : W.heap.size ≤ H) : gc = g ∨ W.heap.size ≤ gc := by
  rcases h with e | e
  · simp [Value.ownBlock] at e; exact .inl e.symm
  · right; omega

theorem gb_new {W V w' : World} {r : Option Nat} {e size g n cap : Nat} {xs : List Value} (R : W.grownBy V r) (own : w'.ownsRow V.heap.size e size (.slice (some ⟨g, 0, none⟩) n cap) n xs) : W.heap.size ≤ g :=
  Nat.le_trans R.size (own_block own).1

theorem num_rows {w : World} {base N : Nat} {v : Value} {n : Int} (h : w.ownsRow base 5 1 v N (bcells (Grain.num n))) (hp : 1 ≤ (Grain.num n).length) : 0 < N ∧ N ≤ 10 := by
  have h1 := own_len h
  have h2 := Grain.num_len n
  omega

end Go.GrainU

/-
  Lines and cells as they lie in memory.
-/
namespace Go.GrainU
open Go.RowKit

/-- a line, and where its slices lie -/
structure LT where
  ser : Lb
  smp : List (Int × Int)
  sa : Option Addr
  sc : Nat
  pa : Option Addr
  pc : Nat

def LT.ln (x : LT) : Ln := (x.ser, x.smp)
def lt0 : LT := ⟨[], [], none, 0, none, 0⟩
def lt (l : List LT) (k : Nat) : LT := l.getD k lt0

/-- lines as cells -/
def tcells : List LT → List Value
  | [] => []
  | x :: r => .slice x.sa x.ser.length x.sc :: .slice x.pa x.smp.length x.pc :: tcells r

theorem tcells_length (l : List LT) : (tcells l).length = l.length * 2 := by
  induction l with
  | nil => rfl
  | cons s r ih => simp only [tcells, List.length_cons, ih]; omega

theorem tcells_at (l : List LT) : ∀ k, k < l.length → (tcells l)[k * 2]? = some (.slice (lt l k).sa (lt l k).ser.length (lt l k).sc) ∧ (tcells l)[k * 2 + 1]? = some (.slice (lt l k).pa (lt l k).smp.length (lt l k).pc) := by
  induction l with
  | nil => intro k hk; simp at hk
  | cons s r ih =>
    intro k hk
    match k with
    | 0 => simp [tcells, lt]
    | k + 1 =>
      have := ih k (by simpa using hk)
      rw [show (k + 1) * 2 = k * 2 + 1 + 1 from by omega]
      simpa [tcells, lt] using this

theorem seg_line {w : World} {ao : Option Addr} {l : List LT} (h : Seg w ao (tcells l)) {k : Nat} (hk : k < l.length) :
    ∃ b off, ao = some ⟨b, off, none⟩ ∧ b < w.heap.size ∧ ∀ j, j < l.length → w.cell? ⟨b, off + j * 2, none⟩ = some (.slice (lt l j).sa (lt l j).ser.length (lt l j).sc) ∧ w.cell? ⟨b, off + j * 2 + 1, none⟩ = some (.slice (lt l j).pa (lt l j).smp.length (lt l j).pc) := by
  have hs := tcells_length l
  rcases h with h | ⟨b, off, rfl, h⟩
  · rw [h] at hs; simp at hs; omega
  · have hc : ∀ j, j < l.length → w.cell? ⟨b, off + j * 2, none⟩ = some (.slice (lt l j).sa (lt l j).ser.length (lt l j).sc) ∧ w.cell? ⟨b, off + j * 2 + 1, none⟩ = some (.slice (lt l j).pa (lt l j).smp.length (lt l j).pc) := fun j hj => by
      have := tcells_at l j hj
      exact ⟨(h (j * 2) (by omega)).trans this.1, by rw [Nat.add_assoc]; exact (h (j * 2 + 1) (by omega)).trans this.2⟩
    exact ⟨b, off, rfl, World.block_lt_of_cell? w ⟨b, off + k * 2, none⟩ (hc k hk).1, hc⟩

/-- a line lies there -/
structure LnOk (w : World) (x : LT) : Prop where
  ser : Seg w x.sa (lcells x.ser)
  smp : Seg w x.pa (scells x.smp)
  fit : Fits x.ser
  ls : x.ser.length ≤ 9223372036854775806
  lp : x.smp.length ≤ 9223372036854775806
  nil : x.sa = none → x.ser.length = 0 ∧ x.sc = 0
  cap : x.smp.length ≤ x.pc ∧ x.pc ≤ 9223372036854775807
  psome : x.pa = none → x.smp.length = 0 ∧ x.pc = 0

def LnsIn (w : World) (l : List LT) : Prop := ∀ x ∈ l, LnOk w x

theorem LnOk.below {w w' : World} {x : LT} (h : LnOk w x) (hb : Below w.heap.size w w') : LnOk w' x := ⟨h.ser.below hb, h.smp.below hb, h.fit, h.ls, h.lp, h.nil, h.cap, h.psome⟩
theorem LnsIn.below {w w' : World} {l : List LT} (h : LnsIn w l) (hb : Below w.heap.size w w') : LnsIn w' l := fun x hx => (h x hx).below hb

theorem lt_mem {l : List LT} {k : Nat} (hk : k < l.length) : lt l k ∈ l := by
  simp only [lt, List.getD, List.getElem?_eq_getElem hk, Option.getD_some]; exact List.getElem_mem hk

/-- the lines that lie there -/
def lns (l : List LT) : List Ln := l.map LT.ln

theorem lns_len (l : List LT) : (lns l).length = l.length := by simp [lns]
theorem lser_lt {l : List LT} {k : Nat} (hk : k < l.length) : lser (lns l) k = (lt l k).ser := by simp [lser, lns, lt, LT.ln, List.getD, hk]
theorem lsmp_lt {l : List LT} {k : Nat} (hk : k < l.length) : lsmp (lns l) k = (lt l k).smp := by simp [lsmp, lns, lt, LT.ln, List.getD, hk]

/-- a cell, and where its series lies -/
structure CT where
  ser : Lb
  v : Int
  sa : Option Addr
  sc : Nat

def CT.cl (c : CT) : Cl := (c.ser, c.v)
def ct0 : CT := ⟨[], 0, none, 0⟩
def ct (l : List CT) (k : Nat) : CT := l.getD k ct0

def ccells : List CT → List Value
  | [] => []
  | c :: r => .slice c.sa c.ser.length c.sc :: .int .i64 c.v :: ccells r

theorem ccells_length (l : List CT) : (ccells l).length = l.length * 2 := by
  induction l with
  | nil => rfl
  | cons s r ih => simp only [ccells, List.length_cons, ih]; omega

theorem ccells_append (a b : List CT) : ccells (a ++ b) = ccells a ++ ccells b := by
  induction a with
  | nil => rfl
  | cons x r ih => simp [ccells, ih]

theorem ccells_at (l : List CT) : ∀ k, k < l.length → (ccells l)[k * 2]? = some (.slice (ct l k).sa (ct l k).ser.length (ct l k).sc) ∧ (ccells l)[k * 2 + 1]? = some (.int .i64 (ct l k).v) := by
  induction l with
  | nil => intro k hk; simp at hk
  | cons s r ih =>
    intro k hk
    match k with
    | 0 => simp [ccells, ct]
    | k + 1 =>
      have := ih k (by simpa using hk)
      rw [show (k + 1) * 2 = k * 2 + 1 + 1 from by omega]
      simpa [ccells, ct] using this

theorem seg_cell {w : World} {ao : Option Addr} {l : List CT} (h : Seg w ao (ccells l)) {k : Nat} (hk : k < l.length) :
    ∃ b off, ao = some ⟨b, off, none⟩ ∧ b < w.heap.size ∧ ∀ j, j < l.length → w.cell? ⟨b, off + j * 2, none⟩ = some (.slice (ct l j).sa (ct l j).ser.length (ct l j).sc) ∧ w.cell? ⟨b, off + j * 2 + 1, none⟩ = some (.int .i64 (ct l j).v) := by
  have hs := ccells_length l
  rcases h with h | ⟨b, off, rfl, h⟩
  · rw [h] at hs; simp at hs; omega
  · have hc : ∀ j, j < l.length → w.cell? ⟨b, off + j * 2, none⟩ = some (.slice (ct l j).sa (ct l j).ser.length (ct l j).sc) ∧ w.cell? ⟨b, off + j * 2 + 1, none⟩ = some (.int .i64 (ct l j).v) := fun j hj => by
      have := ccells_at l j hj
      exact ⟨(h (j * 2) (by omega)).trans this.1, by rw [Nat.add_assoc]; exact (h (j * 2 + 1) (by omega)).trans this.2⟩
    exact ⟨b, off, rfl, World.block_lt_of_cell? w ⟨b, off + k * 2, none⟩ (hc k hk).1, hc⟩

theorem ct_mem {l : List CT} {k : Nat} (hk : k < l.length) : ct l k ∈ l := by
  simp only [ct, List.getD, List.getElem?_eq_getElem hk, Option.getD_some]; exact List.getElem_mem hk

def cls (l : List CT) : List Cl := l.map CT.cl
theorem cls_len (l : List CT) : (cls l).length = l.length := by simp [cls]

/-- an address in a block of a type -/
def Typ (w : World) (T : Nat) (ao : Option Addr) : Prop := ∃ b off arr fr, ao = some ⟨b, off, none⟩ ∧ w.heap[b]? = some (.cells arr T fr)

theorem Typ.below {w w' : World} {T : Nat} {ao : Option Addr} (h : Typ w T ao) (hb : Below w.heap.size w w') : Typ w' T ao := by
  obtain ⟨b, off, arr, fr, e, hh⟩ := h
  exact ⟨b, off, arr, fr, e, below_block hb hh⟩

theorem Typ.set {w : World} {T : Nat} {ao : Option Addr} (h : Typ w T ao) (p : Addr) (v : Value) : Typ (w.setCell p v) T ao := by
  obtain ⟨b, off, arr, fr, e, hh⟩ := h
  by_cases hp : p.block = b
  · subst hp
    have : ∃ arr', (w.setCell p v).heap[p.block]? = some (.cells arr' T fr) := by simp [World.setCell, Array.getElem?_modify, hh]
    obtain ⟨arr', h'⟩ := this
    exact ⟨p.block, off, arr', fr, e, h'⟩
  · exact ⟨b, off, arr, fr, e, by rw [Below.heap_setCell w p v b (fun h => hp h.symm)]; exact hh⟩

theorem own_typ {w : World} {base T size N n d : Nat} {ao : Option Addr} {xs : List Value} (h : w.ownsRow base T size (.slice ao N d) n xs) : xs = [] ∨ Typ w T ao := by
  rcases h.2 with ⟨_, h2⟩ | ⟨g, cap, cur, hv, _, hh, _⟩
  · left
    have h1 := h.1
    rw [h2] at h1
    simpa using h1
  · right
    injection hv with e1 e2 e3
    exact ⟨g, 0, cur, (0, 0), e1, hh⟩

/-- cells lie there, and their series -/
structure CsIn (w : World) (co : Option Addr) (l : List CT) : Prop where
  seg : Seg w co (ccells l)
  ser : ∀ c ∈ l, Seg w c.sa (lcells c.ser)
  ty : ccells l = [] ∨ Typ w 57 co
  tl : ∀ c ∈ l, lcells c.ser = [] ∨ Typ w 88 c.sa

theorem CsIn.below {w w' : World} {co : Option Addr} {l : List CT} (h : CsIn w co l) (hb : Below w.heap.size w w') : CsIn w' co l := ⟨h.seg.below hb, fun c hc => (h.ser c hc).below hb, h.ty.imp id (·.below hb), fun c hc => (h.tl c hc).imp id (·.below hb)⟩

/-- labels lie there -/
def SegL (w : World) (ao : Option Addr) (l : Lb) : Prop := Seg w ao (lcells l) ∧ (lcells l = [] ∨ Typ w 88 ao)
theorem SegL.below {w w' : World} {ao : Option Addr} {l : Lb} (h : SegL w ao l) (hb : Below w.heap.size w w') : SegL w' ao l := ⟨h.1.below hb, h.2.imp id (·.below hb)⟩

theorem take_ct {l : List CT} {k : Nat} (h : k < l.length) : l.take (k + 1) = l.take k ++ [ct l k] := by
  rw [List.take_add_one, List.getElem?_eq_getElem h]
  simp only [ct, List.getD, List.getElem?_eq_getElem h, Option.getD_some, Option.toList_some]
theorem take_lt {l : List LT} {k : Nat} (h : k < l.length) : l.take (k + 1) = l.take k ++ [lt l k] := by
  rw [List.take_add_one, List.getElem?_eq_getElem h]
  simp only [lt, List.getD, List.getElem?_eq_getElem h, Option.getD_some, Option.toList_some]
theorem drop_ct {l : List CT} {k : Nat} (h : k < l.length) : l.drop k = ct l k :: l.drop (k + 1) := by
  rw [List.drop_eq_getElem_cons h]
  simp only [ct, List.getD, List.getElem?_eq_getElem h, Option.getD_some]
theorem drop_lt {l : List LT} {k : Nat} (h : k < l.length) : l.drop k = lt l k :: l.drop (k + 1) := by
  rw [List.drop_eq_getElem_cons h]
  simp only [lt, List.getD, List.getElem?_eq_getElem h, Option.getD_some]

/-- labels that can be read, in a block other than the row's -/
def SegN (w : World) (r : Option Nat) (ao : Option Addr) (xs : List Value) : Prop :=
  xs = [] ∨ ∃ b off, ao = some ⟨b, off, none⟩ ∧ r ≠ some b ∧ (∃ arr fr, w.heap[b]? = some (.cells arr 88 fr)) ∧ ∀ j, j < xs.length → w.cell? ⟨b, off + j, none⟩ = xs[j]?

theorem SegN.seg {w : World} {r : Option Nat} {ao : Option Addr} {xs : List Value} (h : SegN w r ao xs) : Seg w ao xs := by
  rcases h with h | ⟨b, off, e, _, _, hc⟩
  · exact .inl h
  · exact .inr ⟨b, off, e, hc⟩

theorem SegN.typ {w : World} {r : Option Nat} {ao : Option Addr} {xs : List Value} (h : SegN w r ao xs) : xs = [] ∨ Typ w 88 ao := by
  rcases h with h | ⟨b, off, e, _, ⟨arr, fr, hh⟩, hc⟩
  · exact .inl h
  · exact .inr ⟨b, off, arr, fr, e, hh⟩

theorem cell_of_block {w w' : World} {b o : Nat} (h : w'.heap[b]? = w.heap[b]?) : w'.cell? ⟨b, o, none⟩ = w.cell? ⟨b, o, none⟩ := by simp [World.cell?, h]

/-- .. behind an append to the row: it is the old one, or a new one -/
theorem SegN.grown {w w' : World} {r r' : Option Nat} {ao : Option Addr} {xs : List Value} (h : SegN w r ao xs) (hg : w.grownBy w' r) (hr : ∀ g, r' = some g → r = some g ∨ w.heap.size ≤ g) : SegN w' r' ao xs := by
  rcases h with h | ⟨b, off, rfl, hne, ⟨arr, fr, hh⟩, hc⟩
  · exact .inl h
  · have hl := lt_of_block hh
    have hb := hg.block b hl (fun e => hne e.symm)
    refine .inr ⟨b, off, rfl, fun e => ?_, ⟨arr, fr, by rw [hb]; exact hh⟩, fun j hj => ?_⟩
    · rcases hr b e with e1 | e1
      · exact hne e1
      · omega
    · rw [cell_of_block hb]; exact hc j hj

theorem SegN.below {w w' : World} {r : Option Nat} {ao : Option Addr} {xs : List Value} (h : SegN w r ao xs) (hb : Below w.heap.size w w') : SegN w' r ao xs := by
  rcases h with h | ⟨b, off, rfl, hne, ⟨arr, fr, hh⟩, hc⟩
  · exact .inl h
  · exact .inr ⟨b, off, rfl, hne, ⟨arr, fr, below_block hb hh⟩, fun j hj => (hb.cell (p := ⟨b, off + j, none⟩) (lt_of_block hh)).trans (hc j hj)⟩

theorem own_base {w : World} {base e size n : Nat} {v : Value} {xs : List Value} (h : w.ownsRow base e size v n xs) : ∀ g, v.ownBlock = some g → base ≤ g ∧ g < w.heap.size := fun g hg => by
  have := h.lt g hg
  exact this

/-- a row that a call made lies above what was there -/
theorem segN_own {w : World} {base size N d : Nat} {ao : Option Addr} {xs : List Value} (h : w.ownsRow base 88 size (.slice ao N d) N xs) {r : Option Nat} (hr : ∀ g, r = some g → g < base) : SegN w r ao xs := by
  by_cases hx : xs = []
  · exact .inl hx
  · rcases own_open h with ⟨ao', c, hv, hs, _⟩
    simp only [Value.slice.injEq] at hv
    obtain ⟨rfl, -, rfl⟩ := hv
    rcases hs with hs | ⟨b, off, rfl, hc⟩
    · exact .inl hs
    · rcases h.2 with ⟨h0, _⟩ | ⟨g', cap', cur, h0, hb, hh, _⟩
      · cases h0
      · injection h0 with e1 e2 e3
        injection e1 with e1
        injection e1 with e1 e4
        subst e1
        refine .inr ⟨b, off, rfl, fun e => ?_, ⟨cur, (0, 0), hh⟩, hc⟩
        have h1 := hr b e
        omega

end Go.GrainU
