/-
  For every input whose bulk is at most 1048576, MeanTotals returns true: totals by all labels of series are the cells; by none at most one; counts count them. The condition: the bulk (the narrowed form).
-/
import Derived.Test.YthohkokhimdamaaMeU
import Derived.Test.YthohkokhimdamaaMeO
import Derived.Deep.CutRange
import Derived.Test.YthohkokhimdamaaRows
import Derived.Test.YthohkokhimdamaaLabU
import Derived.MapKept
import Derived.Maps.Own
import Derived.Deep.RegionHeld3
import Derived.Test.YthohkokhimdamaaOpenBulk
import Derived.Deep.CondSized
/-
  Worlds that are as they were, but for what is new and for one block of numbers. No program is named here.
-/
namespace Go.GrainU
open Go.RowKit

/-- below B, and but for the block r, the world w' is as w was -/
structure Bel (r : Option Nat) (B : Nat) (w w' : World) : Prop where
  os : w'.os = w.os
  tape : w'.tape = w.tape
  output : w'.output = w.output
  size : w.heap.size ≤ w'.heap.size
  block : ∀ k, k < B → r ≠ some k → w'.heap[k]? = w.heap[k]?

theorem Bel.of {B : Nat} {w w' : World} (h : Below B w w') (r : Option Nat) : Bel r B w w' := ⟨h.os, h.tape, h.output, h.size, fun k hk _ => h.block k hk⟩
theorem Bel.refl (r : Option Nat) (B : Nat) (w : World) : Bel r B w w := Bel.of (Below.refl _ _) r
theorem Bel.toBelow {B : Nat} {w w' : World} (h : Bel none B w w') : Below B w w' := ⟨h.os, h.tape, h.output, h.size, fun k hk => h.block k hk (by simp)⟩
theorem Bel.trans {r : Option Nat} {B : Nat} {a b c : World} (h : Bel r B a b) (k : Bel r B b c) : Bel r B a c :=
  ⟨k.os.trans h.os, k.tape.trans h.tape, k.output.trans h.output, Nat.le_trans h.size k.size, fun i hi hr => (k.block i hi hr).trans (h.block i hi hr)⟩
theorem Bel.mono {r : Option Nat} {B B' : Nat} {w w' : World} (h : Bel r B w w') (hB : B' ≤ B) : Bel r B' w w' := ⟨h.os, h.tape, h.output, h.size, fun k hk => h.block k (Nat.lt_of_lt_of_le hk hB)⟩
theorem Bel.drew {r : Option Nat} {B : Nat} {a w : World} (h : Bel r B a w) : Bel r B a w.drew := ⟨h.os, h.tape, h.output, h.size, h.block⟩
theorem Bel.alloc {r : Option Nat} {B : Nat} {a w : World} (h : Bel r B a w) (hB : B ≤ w.heap.size) (o : Obj) : Bel r B a (w.alloc o) := h.trans (Bel.of ((Below.refl _ _).alloc hB o) r)
theorem Bel.setCell {r : Option Nat} {B : Nat} {a w : World} (h : Bel r B a w) {p : Addr} (hp : B ≤ p.block) (u : Value) : Bel r B a (w.setCell p u) := h.trans (Bel.of ((Below.refl _ _).setCell hp u) r)
theorem Bel.grown {r : Option Nat} {B : Nat} {a w w' : World} {row : Option Nat} (h : Bel r B a w) (hg : w.grownBy w' row) (hB : B ≤ w.heap.size) (hr : ∀ k, row = some k → B ≤ k) : Bel r B a w' :=
  h.trans (Bel.of ((Below.refl _ _).grown hg hB hr) r)

theorem bel_step {r : Option Nat} {W V w' : World} (hb : Bel r V.heap.size V w') (h : Bel r W.heap.size W V) : Bel r W.heap.size W w' := h.trans (hb.mono h.size)
theorem bel_below {r : Option Nat} {W V w' : World} (hb : Below V.heap.size V w') (h : Bel r W.heap.size W V) : Bel r W.heap.size W w' := bel_step (Bel.of hb r) h

/-- a block above the row is as it was -/
theorem bel_block {r : Option Nat} {N : Nat} {w w' : World} (hb : Bel r w.heap.size w w') (hr : ∀ C, r = some C → C < N) {k : Nat} (hk : N ≤ k) {o : Obj} (h : w.heap[k]? = some o) : w'.heap[k]? = some o := by
  have hl : k < w.heap.size := by
    rcases Nat.lt_or_ge k w.heap.size with h1 | h1
    · exact h1
    · rw [Array.getElem?_eq_none h1] at h; cases h
  rw [hb.block k hl (fun e => by have := hr k e; omega)]; exact h

def isInt : Value → Prop
  | .int _ _ => True
  | _ => False

/-- the block has numbers alone -/
def Solo (r : Option Nat) (w : World) : Prop := ∀ C, r = some C → ∀ o v, w.cell? ⟨C, o, none⟩ = some v → isInt v

theorem Solo.no (w : World) : Solo none w := fun C h => by cases h

theorem Solo.of {C t : Nat} {w : World} {c : Int} {f : Nat × Nat} (h : w.heap[C]? = some (.cells #[.int .i64 c] t f)) : Solo (some C) w := by
  intro D e o v hv
  injection e with e
  subst e
  simp only [World.cell?, h] at hv
  match o, hv with
  | 0, hv => simp at hv; subst hv; trivial
  | o + 1, hv => simp at hv

/-- not numbers alone -/
def Wordy (xs : List Value) : Prop := xs = [] ∨ ∃ (j : Nat) (x : Value), xs[j]? = some x ∧ ¬ isInt x

theorem seg_offr {w : World} {r : Option Nat} {b off : Nat} {xs : List Value} (hc : ∀ j, j < xs.length → w.cell? ⟨b, off + j, none⟩ = xs[j]?) (hx : Wordy xs) (hne : xs ≠ []) (hs : Solo r w) : r ≠ some b := by
  intro e
  rcases hx with h | ⟨j, x, hj, hn⟩
  · exact hne h
  · have hl : j < xs.length := by
      rcases Nat.lt_or_ge j xs.length with h1 | h1
      · exact h1
      · rw [List.getElem?_eq_none h1] at hj; cases hj
    exact hn (hs b e _ x ((hc j hl).trans hj))

theorem Bel.cell {r : Option Nat} {B : Nat} {w w' : World} (h : Bel r B w w') {b o : Nat} (hb : b < B) (hr : r ≠ some b) : w'.cell? ⟨b, o, none⟩ = w.cell? ⟨b, o, none⟩ := cell_of_block (h.block b hb hr)

theorem Seg.bel {w w' : World} {r : Option Nat} {ao : Option Addr} {xs : List Value} (h : Seg w ao xs) (hx : Wordy xs) (hs : Solo r w) (hb : Bel r w.heap.size w w') : Seg w' ao xs := by
  rcases h with h | ⟨b, off, rfl, h⟩
  · exact .inl h
  · by_cases hn : xs = []
    · exact .inl hn
    · have hl := Seg.block_lt h hn
      have hr := seg_offr h hx hn hs
      exact .inr ⟨b, off, rfl, fun j hj => (hb.cell hl hr).trans (h j hj)⟩

theorem wordy_l (l : List (ByteArray × ByteArray)) : Wordy (lcells l) := by
  cases l with
  | nil => exact .inl rfl
  | cons a r => exact .inr ⟨0, .string a.1, rfl, fun h => h⟩
theorem wordy_c (l : List CT) : Wordy (ccells l) := by
  cases l with
  | nil => exact .inl rfl
  | cons a r => exact .inr ⟨0, .slice a.sa a.ser.length a.sc, rfl, fun h => h⟩
theorem wordy_m (l : List Mt) : Wordy (mcells l) := by
  cases l with
  | nil => exact .inl rfl
  | cons a r => exact .inr ⟨1, .string a.key, rfl, fun h => h⟩
theorem wordy_w (l : List ByteArray) : Wordy (wcells l) := by
  cases l with
  | nil => exact .inl rfl
  | cons a r => exact .inr ⟨0, .string a, rfl, fun h => h⟩
theorem wordy_e (l : List ET) : Wordy (ecells l) := by
  cases l with
  | nil => exact .inl rfl
  | cons a r => exact .inr ⟨3, .string a.hd.word, rfl, fun h => h⟩

theorem CsIn.bel {w w' : World} {r : Option Nat} {co : Option Addr} {l : List CT} (h : CsIn w co l) (hs : Solo r w) (hb : Bel r w.heap.size w w') : CsIn w' co l :=
  ⟨h.seg.bel (wordy_c _) hs hb, fun c hc => (h.ser c hc).bel (wordy_l _) hs hb⟩

theorem ET.In.bel {w w' : World} {r : Option Nat} (hs : Solo r w) (hb : Bel r w.heap.size w w') : ∀ t : ET, t.In w → t.In w' := by
  refine ET.ind ?_
  intro h s kids ih hin
  simp only [ET.In] at hin ⊢
  obtain ⟨⟨a, b, c⟩, d, e⟩ := hin
  exact ⟨⟨a.bel (wordy_m _) hs hb, b.bel (wordy_w _) hs hb, c.bel (wordy_e _) hs hb⟩, d, inL_of fun k hk => ih k hk (inL_mem e k hk)⟩

theorem SegN.bel {w w' : World} {r q : Option Nat} {ao : Option Addr} {xs : List Value} (h : SegN w q ao xs) (hx : Wordy xs) (hs : Solo r w) (hb : Bel r w.heap.size w w') : SegN w' q ao xs := by
  rcases h with h | ⟨b, off, rfl, hne, hl, hc⟩
  · exact .inl h
  · by_cases hn : xs = []
    · exact .inl hn
    · have hr := seg_offr hc hx hn hs
      exact .inr ⟨b, off, rfl, hne, Nat.lt_of_lt_of_le hl hb.size, fun j hj => (hb.cell hl hr).trans (hc j hj)⟩

/-- an own row above the block is as it was -/
theorem own_bel {w w' : World} {r : Option Nat} {base e size n : Nat} {v : Value} {xs : List Value} (h : w.ownsRow base e size v n xs) (hr : ∀ C, r = some C → C < base) (hb : Bel r w.heap.size w w') : w'.ownsRow base e size v n xs := by
  refine h.kept (row := r) ⟨hb.os, hb.tape, hb.output, hb.size, fun k hk hn => hb.block k hk (fun e => hn e.symm)⟩ ?_
  cases hv : v.ownBlock with
  | none => exact .inl rfl
  | some x =>
    right
    intro e
    have h1 := own_base h x hv
    have h2 := hr x (by first | exact e | exact e.symm)
    omega

/-- a series in memory -/
structure ST where
  ser : Lb
  sa : Option Addr
  sc : Nat

def hcells : List ST → List Value
  | [] => []
  | x :: r => .slice x.sa x.ser.length x.sc :: hcells r

theorem hcells_length (l : List ST) : (hcells l).length = l.length := by
  induction l with
  | nil => rfl
  | cons a r ih => simp [hcells, ih]

theorem wordy_h (l : List ST) : Wordy (hcells l) := by
  cases l with
  | nil => exact .inl rfl
  | cons a r => exact .inr ⟨0, .slice a.sa a.ser.length a.sc, rfl, fun h => h⟩

def st (l : List ST) (k : Nat) : ST := l.getD k ⟨[], none, 0⟩

theorem hcells_at : ∀ (l : List ST) (k : Nat), k < l.length → (hcells l)[k]? = some (.slice (st l k).sa (st l k).ser.length (st l k).sc)
  | [], k, h => by simp at h
  | x :: r, 0, _ => rfl
  | x :: r, k + 1, h => by
    have := hcells_at r k (by simpa using h)
    simpa [hcells, st] using this

theorem st_mem {l : List ST} {k : Nat} (hk : k < l.length) : st l k ∈ l := by
  simp only [st, List.getD, List.getElem?_eq_getElem hk, Option.getD_some]; exact List.getElem_mem hk

theorem seg_series {w : World} {ao : Option Addr} {l : List ST} {k : Nat} (h : Seg w ao (hcells l)) (hk : k < l.length) :
    ∃ b off, ao = some ⟨b, off, none⟩ ∧ b < w.heap.size ∧ ∀ j, j < l.length → w.cell? ⟨b, off + j, none⟩ = some (.slice (st l j).sa (st l j).ser.length (st l j).sc) := by
  have hs := hcells_length l
  rcases h with h | ⟨b, off, rfl, h⟩
  · rw [h] at hs; simp at hs; omega
  · have hc : ∀ j, j < l.length → w.cell? ⟨b, off + j, none⟩ = some (.slice (st l j).sa (st l j).ser.length (st l j).sc) := fun j hj => (h j (by omega)).trans (hcells_at l j hj)
    exact ⟨b, off, rfl, World.block_lt_of_cell? w ⟨b, off + k, none⟩ (hc k hk), hc⟩

/-- series lie there, and are few and short enough -/
structure SsIn (w : World) (ao : Option Addr) (l : List ST) : Prop where
  seg : Seg w ao (hcells l)
  ser : ∀ x ∈ l, Seg w x.sa (lcells x.ser)
  nil : ∀ x ∈ l, x.sa = none → x.ser.length = 0 ∧ x.sc = 0
  len : ∀ x ∈ l, x.ser.length ≤ 4

theorem SsIn.bel {w w' : World} {r : Option Nat} {ao : Option Addr} {l : List ST} (h : SsIn w ao l) (hs : Solo r w) (hb : Bel r w.heap.size w w') : SsIn w' ao l :=
  ⟨h.seg.bel (wordy_h _) hs hb, fun x hx => (h.ser x hx).bel (wordy_l _) hs hb, h.nil, h.len⟩

/-! what an expression comes to, of whatever its windows come to -/

mutual
def evG (f : Hd → Except Int (List Cl)) : Ex → Except Int Mn
  | .mk h kids =>
    if h.kind = 1 then .ok ⟨true, [([], h.n)]⟩
    else if h.kind = 2 then (match f h with | .error x => .error x | .ok c => .ok ⟨false, c⟩)
    else
      match evGL f kids with
      | .error x => .error x
      | .ok ms => if h.kind = 3 then (match allA h.word h.bs [] (ms.getD 0 ⟨false, []⟩).cs with | none => .error 3 | some c => .ok ⟨false, c⟩) else (match binM (ms.getD 0 ⟨false, []⟩) (ms.getD 1 ⟨false, []⟩) h.word with | none => .error 3 | some m => .ok m)
def evGL (f : Hd → Except Int (List Cl)) : List Ex → Except Int (List Mn)
  | [] => .ok []
  | k :: r =>
    match evG f k with
    | .error x => .error x
    | .ok m =>
      match evGL f r with
      | .error x => .error x
      | .ok ms => .ok (m :: ms)
end

mutual
/-- what its windows cost -/
def costG (f : Hd → Nat) : Ex → Nat
  | .mk h kids => if h.kind = 1 then 0 else if h.kind = 2 then f h else costGL f kids
def costGL (f : Hd → Nat) : List Ex → Nat
  | [] => 0
  | k :: r => costG f k + costGL f r
end

def exc (o : Option Mn) : Except Int Mn := match o with | none => .error 3 | some m => .ok m

def exb (o : Except Int Mn) (g : Mn → Except Int Mn) : Except Int Mn := match o with | .error x => .error x | .ok m => g m

theorem evg_num {f : Hd → Except Int (List Cl)} {h : Hd} {kids : List Ex} (e : h.kind = 1) : evG f (.mk h kids) = .ok ⟨true, [([], h.n)]⟩ := by rw [evG, if_pos e]
theorem evg_win {f : Hd → Except Int (List Cl)} {h : Hd} {kids : List Ex} (e : h.kind = 2) : evG f (.mk h kids) = (match f h with | .error x => .error x | .ok c => .ok ⟨false, c⟩) := by rw [evG, if_neg (by omega), if_pos e]
theorem evg_all {f : Hd → Except Int (List Cl)} {h : Hd} {k : Ex} (e : h.kind = 3) : evG f (.mk h [k]) = exb (evG f k) fun m => exc ((allA h.word h.bs [] m.cs).map fun c => ⟨false, c⟩) := by
  rw [evG, if_neg (by omega), if_neg (by omega), evGL]
  cases evG f k with
  | error x => rfl
  | ok m =>
    simp only [exb, evGL, e, if_true, List.getD_cons_zero]
    cases allA h.word h.bs [] m.cs <;> rfl
theorem evg_bin {f : Hd → Except Int (List Cl)} {h : Hd} {a b : Ex} (e : h.kind = 4) : evG f (.mk h [a, b]) = exb (evG f a) fun m => exb (evG f b) fun m' => exc (binM m m' h.word) := by
  rw [evG, if_neg (by omega), if_neg (by omega), evGL]
  cases evG f a with
  | error x => rfl
  | ok m =>
    cases hb : evG f b with
    | error x => simp [evGL, hb, exb]
    | ok m' =>
      have h3 : ¬ h.kind = 3 := by omega
      simp only [exb, evGL, hb, if_neg h3, List.getD_cons_zero, List.getD_cons_succ]
      cases binM m m' h.word <;> rfl

theorem costg_num {f : Hd → Nat} {h : Hd} {kids : List Ex} (e : h.kind = 1) : costG f (.mk h kids) = 0 := by rw [costG, if_pos e]
theorem costg_win {f : Hd → Nat} {h : Hd} {kids : List Ex} (e : h.kind = 2) : costG f (.mk h kids) = f h := by rw [costG, if_neg (by omega), if_pos e]
theorem costg_all {f : Hd → Nat} {h : Hd} {k : Ex} (e : h.kind = 3) : costG f (.mk h [k]) = costG f k := by
  rw [costG, if_neg (by omega), if_neg (by omega)]; simp [costGL]
theorem costg_bin {f : Hd → Nat} {h : Hd} {a b : Ex} (e : h.kind = 4) : costG f (.mk h [a, b]) = costG f a + costG f b := by
  rw [costG, if_neg (by omega), if_neg (by omega)]; simp [costGL]

/-- of windows that all come to something it is what it was -/
theorem evg_ev (l : List Ln) (time : Int) : ∀ x : Ex, evG (fun h => .ok (winC l h time)) x = exc (ev l time x) := by
  refine Ex.ind ?_
  intro h kids ih
  have hL : ∀ ks : List Ex, (∀ k ∈ ks, evG (fun h => .ok (winC l h time)) k = exc (ev l time k)) → evGL (fun h => .ok (winC l h time)) ks = (match evL l time ks with | none => .error 3 | some m => .ok m) := by
    intro ks
    induction ks with
    | nil => intro _; rfl
    | cons a r ihr =>
      intro hk
      rw [evGL, evL, hk a (by simp), ihr (fun k hk' => hk k (by simp [hk']))]
      cases ev l time a with
      | none => rfl
      | some m =>
        cases evL l time r with
        | none => rfl
        | some ms => rfl
  rw [evG, ev, hL kids ih]
  by_cases e1 : h.kind = 1
  · rw [if_pos e1, if_pos e1]; rfl
  rw [if_neg e1, if_neg e1]
  by_cases e2 : h.kind = 2
  · rw [if_pos e2, if_pos e2]; rfl
  rw [if_neg e2, if_neg e2]
  cases evL l time kids with
  | none => rfl
  | some ms =>
    simp only
    by_cases e3 : h.kind = 3
    · rw [if_pos e3, if_pos e3]
      cases allA h.word h.bs [] (ms.getD 0 ⟨false, []⟩).cs <;> rfl
    · rw [if_neg e3, if_neg e3]
      cases binM (ms.getD 0 ⟨false, []⟩) (ms.getD 1 ⟨false, []⟩) h.word <;> rfl

/-- the cells of a window, of what each series' samples come to; and what it costs -/
def winG (S : Nat → Except Int Grain.Sm) (h : Hd) : List ST → Nat → Except Int (List Cl)
  | [], _ => .ok []
  | x :: r, i =>
    if says x.ser h.ms = true then
      match S i with
      | .error e => .error e
      | .ok s =>
        match winG S h r (i + 1) with
        | .error e => .error e
        | .ok c => .ok ((if (valP h.word s).2 = true then [(x.ser, (valP h.word s).1)] else []) ++ c)
    else winG S h r (i + 1)

def winK (K : Nat → Nat) (h : Hd) : List ST → Nat → Nat
  | [], _ => 0
  | x :: r, i => (if says x.ser h.ms = true then K i else 0) + winK K h r (i + 1)

end Go.GrainU

/-
  The walk of comesTo.
-/
namespace Go.GrainU
open Go.RowKit

/-- cells lie in another block than a meaning -/
theorem segc_far {w : World} {ao : Option Addr} {s : List CT} {B t o : Nat} {f : Bool} {a : Option Addr} {n c : Nat} {fr : Nat × Nat} (h : Seg w ao (ccells s)) (hB : w.heap[B]? = some (.cells #[.bool f, .slice a n c] t fr)) (v : Value) : Seg (w.setCell ⟨B, o, none⟩ v) ao (ccells s) := by
  rcases h with h | ⟨b, off, rfl, h⟩
  · exact .inl h
  · cases s with
    | nil => exact .inl rfl
    | cons x r =>
      have h0 := h 0 (by simp [ccells])
      have h1 := h 1 (by simp [ccells])
      have hne : b ≠ B := by
        intro e
        subst e
        simp [World.cell?, hB, ccells] at h0 h1
        match off, h0, h1 with
        | 0, h0, h1 => simp at h0
        | 1, h0, h1 => simp at h1
        | q + 2, h0, h1 => simp at h0
      refine .inr ⟨b, off, rfl, fun j hj => ?_⟩
      rw [cell_of_block (setCell_far hne)]
      exact h j hj

theorem CsIn.far {w : World} {co : Option Addr} {s : List CT} {B t o : Nat} {f : Bool} {a : Option Addr} {n c : Nat} {fr : Nat × Nat} (h : CsIn w co s) (hB : w.heap[B]? = some (.cells #[.bool f, .slice a n c] t fr)) (v : Value) : CsIn (w.setCell ⟨B, o, none⟩ v) co s :=
  ⟨segc_far h.seg hB v, fun x hx => seg_far (h.ser x hx) hB v⟩

theorem fst_set {w : World} {B : Nat} {x y : Value} {t : TypeId} (h : w.heap[B]? = some (.cells #[x, y] t (0, 0))) (q : Value) : (w.setCell ⟨B, 0, none⟩ q).heap[B]? = some (.cells #[q, y] t (0, 0)) := by
  simp [World.setCell, Array.getElem?_modify, h]

/-- nothing stored where a meaning lies, and a block made -/
theorem err_done {w : World} {R : Nat} {t : TypeId} (h : w.heap[R]? = some (.cells #[.bool false, .slice none 0 0] t (0, 0))) (o : Obj) :
    (((w.setCell ⟨R, 0, none⟩ (.bool false)).setCell ⟨R, 1, none⟩ (.slice none 0 0)).alloc o).cell? ⟨R, 0, none⟩ = some (.bool false) ∧ (((w.setCell ⟨R, 0, none⟩ (.bool false)).setCell ⟨R, 1, none⟩ (.slice none 0 0)).alloc o).cell? ⟨R, 1, none⟩ = some (.slice none 0 0) := by
  have h1 := two_set h (.bool false) (.slice none 0 0)
  have h2 : (((w.setCell ⟨R, 0, none⟩ (.bool false)).setCell ⟨R, 1, none⟩ (.slice none 0 0)).alloc o).heap[R]? = some (.cells #[.bool false, .slice none 0 0] t (0, 0)) := by
    rw [Below.heap_alloc _ _ _ (lt_of_block h1)]; exact h1
  obtain ⟨a, b, _, _⟩ := two_cells h2
  exact ⟨a, b⟩

theorem below_err {w w1 : World} {R : Nat} (bw : Below w.heap.size w w1) (hR : w.heap.size ≤ R) (o : Obj) : Below w.heap.size w (((w1.setCell ⟨R, 0, none⟩ (.bool false)).setCell ⟨R, 1, none⟩ (.slice none 0 0)).alloc o) := by
  have b2 : Below w.heap.size w ((w1.setCell ⟨R, 0, none⟩ (.bool false)).setCell ⟨R, 1, none⟩ (.slice none 0 0)) := (bw.setCell hR _).setCell hR _
  exact b2.alloc b2.size _

/-- a meaning stored where a meaning lies: the cells are where they were -/
theorem CsIn.stored {w : World} {co : Option Addr} {s : List CT} {B t : Nat} (h : CsIn w co s) (hB : w.heap[B]? = some (.cells #[.bool false, .slice none 0 0] t (0, 0))) (f : Bool) (v : Value) : CsIn ((w.setCell ⟨B, 0, none⟩ (.bool f)).setCell ⟨B, 1, none⟩ v) co s :=
  (h.far hB (.bool f)).far (fst_set hB (.bool f)) v

theorem ev_num {l : List Ln} {time : Int} {h : Hd} {kids : List Ex} (e : h.kind = 1) : ev l time (.mk h kids) = some ⟨true, [([], h.n)]⟩ := by rw [ev, if_pos e]
theorem ev_win {l : List Ln} {time : Int} {h : Hd} {kids : List Ex} (e : h.kind = 2) : ev l time (.mk h kids) = some ⟨false, winC l h time⟩ := by rw [ev, if_neg (by omega), if_pos e]
theorem ev_all {l : List Ln} {time : Int} {h : Hd} {k : Ex} (e : h.kind = 3) : ev l time (.mk h [k]) = (ev l time k).bind fun m => (allA h.word h.bs [] m.cs).map fun c => ⟨false, c⟩ := by
  rw [ev, if_neg (by omega), if_neg (by omega), evL]
  cases ev l time k with
  | none => rfl
  | some m => simp [evL, e]
theorem ev_bin {l : List Ln} {time : Int} {h : Hd} {a b : Ex} (e : h.kind = 4) : ev l time (.mk h [a, b]) = (ev l time a).bind fun m => (ev l time b).bind fun m' => binM m m' h.word := by
  rw [ev, if_neg (by omega), if_neg (by omega), evL]
  cases ev l time a with
  | none => rfl
  | some m =>
    cases hb : ev l time b with
    | none => simp [evL, hb]
    | some m' => simp [evL, hb, e]

theorem ev_gd {l : List Ln} (hl : ∀ x ∈ l, x.1.length ≤ 4 ∧ Grain.Right x.2) (h8 : l.length ≤ 8) (time : Int) : ∀ x : Ex, Rt x → ∀ m, ev l time x = some m → Gd m := by
  refine Ex.ind ?_
  intro h kids ih hr m hm
  obtain ⟨ha, hk⟩ := hr.parts
  rcases alone_cases ha with ⟨e, k0, n0, n1⟩ | ⟨e, k0, wb⟩ | ⟨e, k0, ab⟩ | ⟨e, k0, sg⟩
  · rw [ev_num e] at hm
    simp at hm
    subst hm
    refine ⟨fun c hc => ?_, by simp, fun _ => by simp⟩
    simp at hc
    rw [hc]
    exact ⟨by simp [MC]; omega, by simp [MC]; omega, by simp⟩
  · rw [ev_win e] at hm
    simp at hm
    subst hm
    exact gd_win hl h8 h time
  · match kids, k0 with
    | [k], _ =>
      rw [ev_all e] at hm
      cases hq : ev l time k with
      | none => rw [hq] at hm; simp at hm
      | some q =>
        rw [hq] at hm
        exact gd_all (ih k (by simp) (hk k (by simp)) q hq) hm
  · match kids, k0 with
    | [a, b], _ =>
      rw [ev_bin e] at hm
      cases hq : ev l time a with
      | none => rw [hq] at hm; simp at hm
      | some q =>
        rw [hq] at hm
        cases hq' : ev l time b with
        | none => rw [hq'] at hm; simp at hm
        | some q' =>
          rw [hq'] at hm
          exact gd_bin (ih a (by simp) (hk a (by simp)) q hq) (ih b (by simp) (hk b (by simp)) q' hq') hm

theorem evg_gd {f : Hd → Except Int (List Cl)} (hf : ∀ h, winBad h = 0 → ∀ c, f h = .ok c → Gd ⟨false, c⟩) : ∀ x : Ex, Rt x → ∀ m, evG f x = .ok m → Gd m := by
  refine Ex.ind ?_
  intro h kids ih hr m hm
  obtain ⟨ha, hk⟩ := hr.parts
  rcases alone_cases ha with ⟨e, k0, n0, n1⟩ | ⟨e, k0, wb⟩ | ⟨e, k0, ab⟩ | ⟨e, k0, sg⟩
  · rw [evg_num e] at hm
    simp at hm
    subst hm
    refine ⟨fun c hc => ?_, by simp, fun _ => by simp⟩
    simp at hc
    rw [hc]
    exact ⟨by simp [MC]; omega, by simp [MC]; omega, by simp⟩
  · rw [evg_win e] at hm
    cases hq : f h with
    | error x => rw [hq] at hm; cases hm
    | ok c =>
      rw [hq] at hm
      simp at hm
      subst hm
      exact hf h wb c hq
  · match kids, k0 with
    | [k], _ =>
      rw [evg_all e] at hm
      cases hq : evG f k with
      | error x => rw [hq] at hm; cases hm
      | ok q =>
        rw [hq] at hm
        simp only [exb] at hm
        cases hp : (allA h.word h.bs [] q.cs).map fun c => (⟨false, c⟩ : Mn) with
        | none => rw [hp] at hm; cases hm
        | some p =>
          rw [hp] at hm
          simp only [exc] at hm
          injection hm with hm
          subst hm
          exact gd_all (ih k (by simp) (hk k (by simp)) q hq) hp
  · match kids, k0 with
    | [a, b], _ =>
      rw [evg_bin e] at hm
      cases hq : evG f a with
      | error x => rw [hq] at hm; cases hm
      | ok q =>
        rw [hq] at hm
        cases hq' : evG f b with
        | error x => rw [hq'] at hm; cases hm
        | ok q' =>
          rw [hq'] at hm
          simp only [exb] at hm
          cases hp : binM q q' h.word with
          | none => rw [hp] at hm; cases hm
          | some p =>
            rw [hp] at hm
            simp only [exc] at hm
            injection hm with hm
            subst hm
            exact gd_bin (ih a (by simp) (hk a (by simp)) q hq) (ih b (by simp) (hk b (by simp)) q' hq') hp

/-- what goes on beside: it lies below N, and writes one block of numbers alone -/
structure Beside (r : Option Nat) (N : Nat) (I : Nat → World → Prop) : Prop where
  row : ∀ C, r = some C → C < N
  kept : ∀ c w w', I c w → Below N w w' → I c w'
  solo : ∀ c w, I c w → Solo r w

/-- what comes, or an error; and what goes on beside -/
def GPost (O : Except Int Mn) (I : Nat → World → Prop) (r : Option Nat) (c k : Nat) (w : World) (e : Ending) (w' : World) : Prop :=
  ((∃ x : Int, x ≠ 0 ∧ O = .error x ∧ e = .returned (.tuple #[.agg #[.bool false, .slice none 0 0], .int .i64 x])) ∨
   ∃ nb cts co M d, e = .returned (.tuple #[.agg #[.bool nb, .slice co M d], .int .i64 0]) ∧ O = .ok ⟨nb, cls cts⟩ ∧ M = cts.length ∧ CsIn w' co cts ∧ I (c + k) w') ∧ Bel r w.heap.size w w'

def wopt (x : Except Int (List Cl)) : Except Int Mn := match x with | .error x => .error x | .ok c => .ok ⟨false, c⟩

theorem bel_err {r : Option Nat} {w w1 : World} {R : Nat} (bw : Bel r w.heap.size w w1) (hR : w.heap.size ≤ R) (o : Obj) : Bel r w.heap.size w (((w1.setCell ⟨R, 0, none⟩ (.bool false)).setCell ⟨R, 1, none⟩ (.slice none 0 0)).alloc o) := by
  have b2 : Bel r w.heap.size w ((w1.setCell ⟨R, 0, none⟩ (.bool false)).setCell ⟨R, 1, none⟩ (.slice none 0 0)) := (bw.setCell hR _).setCell hR _
  exact b2.alloc b2.size _

end Go.GrainU
namespace Go.Proofs.Ythohkokhimdamaa
open Go.RowKit Go.GrainU

set_option maxRecDepth 100000 in
set_option maxHeartbeats 8000000 in
theorem gcomes_any (f : Hd → Except Int (List Cl)) (kf : Hd → Nat) (I : Nat → World → Prop) (r : Option Nat) (Nb B1 B2 B3 : Nat) (hB : Beside r Nb I) (hf : ∀ h, winBad h = 0 → ∀ c, f h = .ok c → Gd ⟨false, c⟩)
    (hw : ∀ (t : ET) (w : World) (c : Nat), I c w → Nb ≤ w.heap.size → t.In w → winBad t.hd = 0 → Calls Try.prog 20 #[eval t, .pointer (some ⟨B1, 0, none⟩), .pointer (some ⟨B2, 0, none⟩), .pointer (some ⟨B3, 0, none⟩)] w fun e w' => GPost (wopt (f t.hd)) I r c (kf t.hd) w e w') :
    ∀ t : ET, ∀ (w : World) (c : Nat), I c w → Nb ≤ w.heap.size → t.In w → Rt t.ex →
    Calls Try.prog 19 #[eval t, .func (.func 20) #[] #[.pointer (some ⟨B1, 0, none⟩), .pointer (some ⟨B2, 0, none⟩), .pointer (some ⟨B3, 0, none⟩)]] w fun e w' => GPost (evG f t.ex) I r c (costG kf t.ex) w e w' := by
  have HGD := hide (evg_gd hf)
  have HB := hide hB
  clear hf hB
  refine ET.ind ?_
  intro h s kids ih w cc hI hNw hin hrt
  have HSo := hide (HB.out.solo cc w hI)
  have P1 := hide (fun w' c' (hb : Below w.heap.size w w') (h' : I c' w') (hn' : Nb ≤ w'.heap.size) h0 => hw (.node h s kids) w' c' h' hn' (ET.In.below hb _ hin) h0)
  have HKp := hide (fun c' w1 w2 (h1 : I c' w1) (h2 : Below w.heap.size w1 w2) => HB.out.kept c' w1 w2 h1 (h2.mono hNw))
  have HI := hide hI
  have HNw := hide hNw
  have HIN := hide hin
  have HRT := hide hrt
  clear hI hrt hNw hw
  obtain ⟨kd, en, rg, wd, ms, bs⟩ := h
  obtain ⟨ma, mc, ba, bc, ka, kc⟩ := s
  simp only [ET.In] at hin
  obtain ⟨⟨sm, sb, sk⟩, ⟨lm, lb, lk, -⟩, hkin⟩ := hin
  obtain ⟨halone, hkr⟩ := Rt.parts (show Rt (.mk ⟨kd, en, rg, wd, ms, bs⟩ (exL kids)) from HRT.out)
  rw [exL_length] at halone
  unfold eval at P1 ⊢
  simp only [ET.hd, ET.sp, ET.kids] at P1 ⊢
  obtain ⟨ml, hml⟩ : ∃ ml, ml = ms.length := ⟨_, rfl⟩
  obtain ⟨bl, hbl⟩ : ∃ bl, bl = bs.length := ⟨_, rfl⟩
  obtain ⟨kl, hkl⟩ : ∃ kl, kl = kids.length := ⟨_, rfl⟩
  rw [← hml, ← hbl, ← hkl] at P1 ⊢
  obtain ⟨W, hW⟩ : ∃ W, W = (w.alloc (.cells #[.int .i64 kd, .int .i64 en, .int .i64 rg, .string wd, .slice ma ml mc, .slice ba bl bc, .slice ka kl kc] 27)).alloc (.cells #[.bool false, .slice none 0 0] 65) := ⟨_, rfl⟩
  have bel0 : Below w.heap.size w W := by rw [hW]; exact ((Below.refl _ _).alloc (Nat.le_refl _) _).alloc (by simp) _
  have F0 : W.heap[w.heap.size]? = some (.cells #[.int .i64 kd, .int .i64 en, .int .i64 rg, .string wd, .slice ma ml mc, .slice ba bl bc, .slice ka kl kc] 27 (0, 0)) := by rw [hW, Below.heap_alloc _ _ _ (by simp)]; exact heap_alloc_new w _
  have G0 : W.heap[w.heap.size + 1]? = some (.cells #[.bool false, .slice none 0 0] 65 (0, 0)) := by
    have := heap_alloc_new (w.alloc (.cells #[.int .i64 kd, .int .i64 en, .int .i64 rg, .string wd, .slice ma ml mc, .slice ba bl bc, .slice ka kl kc] 27)) (.cells #[.bool false, .slice none 0 0] 65)
    rw [hW]; simpa using this
  have HW := hide hW
  have HKL := hide hkl
  have HML := hide hml
  have HBL := hide hbl
  clear hml hbl hkl hW
  rcases alone_cases halone with ⟨e, k0, n0, n1⟩ | ⟨e, k0, wb⟩ | ⟨e, k0, ab⟩ | ⟨e, k0, sg⟩
  · have HE : Hid (evG f (ET.node ⟨kd, en, rg, wd, ms, bs⟩ ⟨ma, mc, ba, bc, ka, kc⟩ kids).ex = .ok ⟨true, [([], en)]⟩) := evg_num e
    have HK : Hid (costG kf (ET.node ⟨kd, en, rg, wd, ms, bs⟩ ⟨ma, mc, ba, bc, ka, kc⟩ kids).ex = 0) := costg_num e
    simp only at e
    subst e
    rw [HE.out, HK.out]
    clear HE HK ih P1 HIN HRT F0 G0 halone
    go_enter Try.func19, Try.ntmps19
    go_wp2
    refine bodyPost_ret (v := .tuple #[.agg #[.bool true, .slice (some ⟨w.heap.size + 1 + 1, 0, none⟩) 1 1], .int .i64 0]) (by simp [results, Try.results19, go_sem]) rfl ⟨.inr ⟨true, [⟨[], en, none, 0⟩], some ⟨w.heap.size + 1 + 1, 0, none⟩, 1, 1, rfl, rfl, rfl, ⟨?_, ?_⟩, HKp.out _ _ _ HI.out ?_⟩, ?_⟩
    · have := seg_new ((w.alloc (.cells #[.int .i64 1, .int .i64 en, .int .i64 rg, .string wd, .slice ma ml mc, .slice ba bl bc, .slice ka kl kc] 27)).alloc (.cells #[.bool true, .slice (some ⟨w.heap.size + 1 + 1, 0, none⟩) 1 1] 65)) #[.slice none 0 0, .int .i64 en] 44
      simpa [ccells] using this
    · intro c hc
      simp at hc
      rw [hc]
      exact .inl rfl
    · exact (((Below.refl _ _).alloc (Nat.le_refl _) _).alloc (by simp) _).alloc (by simp; omega) _
    · exact Bel.of ((((Below.refl _ _).alloc (Nat.le_refl _) _).alloc (by simp) _).alloc (by simp; omega) _) r
  · have HE : Hid (evG f (ET.node ⟨kd, en, rg, wd, ms, bs⟩ ⟨ma, mc, ba, bc, ka, kc⟩ kids).ex = wopt (f ⟨kd, en, rg, wd, ms, bs⟩)) := evg_win e
    have HK : Hid (costG kf (ET.node ⟨kd, en, rg, wd, ms, bs⟩ ⟨ma, mc, ba, bc, ka, kc⟩ kids).ex = kf ⟨kd, en, rg, wd, ms, bs⟩) := costg_win e
    have P2 := hide (P1.out W cc bel0 (HKp.out _ _ _ HI.out bel0) (Nat.le_trans HNw.out bel0.size) wb)
    generalize hRR : wopt (f ⟨kd, en, rg, wd, ms, bs⟩) = RR at P2 HE
    generalize hKK : kf ⟨kd, en, rg, wd, ms, bs⟩ = KK at P2 HK
    simp only at e
    subst e
    rw [HE.out, HK.out]
    clear HE HK ih P1 HIN HRT halone hRR hKK
    obtain ⟨p0, p1, p2, p3, p4, p5, p6⟩ := seven_cells F0
    go_enter Try.func19, Try.ntmps19
    go_wp2_with fail
    rw [← HW.out]
    refine P2.out.mono ?_
    rintro e w1 ⟨hp, b1⟩
    have G1 := bel_block b1 HB.out.row (Nat.le_trans HNw.out (Nat.le_succ _)) G0
    obtain ⟨t0, t1, t2, t3⟩ := two_cells G1
    have bw : Bel r w.heap.size w w1 := (Bel.of bel0 r).trans (b1.mono bel0.size)
    have HP := hide hp
    clear hp P2 p0 p1 p2 p3 p4 p5 p6
    rcases HP.out with ⟨x, hx, ho, he⟩ | ⟨nb2, cts2, co2, N2, d2, he, ho, hN, hC, hI2⟩
    · rw [he]
      have HE3 := hide ho
      have HX := hide hx
      clear HP ho he hx
      go_wp2
      exact bodyPost_ret (v := .tuple #[.agg #[.bool false, .slice none 0 0], .int .i64 x]) (by simp [results, Try.results19, go_sem, t0, t1]) rfl ⟨.inl ⟨x, HX.out, HE3.out, rfl⟩, (bw.setCell (by show w.heap.size ≤ w.heap.size + 1; omega) _).setCell (by show w.heap.size ≤ w.heap.size + 1; omega) _⟩
    · rw [he]
      have HE3 := hide ho
      have HN2 := hide hN
      have HI2 := hide hI2
      clear HP ho he hN hI2
      go_wp2
      exact bodyPost_ret (v := .tuple #[.agg #[.bool nb2, .slice co2 N2 d2], .int .i64 0]) (by simp [results, Try.results19, go_sem, t0, t1]) rfl ⟨.inr ⟨nb2, cts2, co2, N2, d2, rfl, HE3.out, HN2.out, hC.stored G1 nb2 _, HKp.out _ _ _ HI2.out (((Below.refl _ _).setCell (by show w.heap.size ≤ w.heap.size + 1; omega) _).setCell (by show w.heap.size ≤ w.heap.size + 1; omega) _)⟩, (bw.setCell (by show w.heap.size ≤ w.heap.size + 1; omega) _).setCell (by show w.heap.size ≤ w.heap.size + 1; omega) _⟩
  · match kids, k0, HKL, sk, hkin, hkr, ih, HRT with
    | [k], _, HKL, sk, hkin, hkr, ih, HRT =>
      have HE : Hid (evG f (ET.node ⟨kd, en, rg, wd, ms, bs⟩ ⟨ma, mc, ba, bc, ka, kc⟩ [k]).ex = exb (evG f k.ex) fun m => exc ((allA wd bs [] m.cs).map fun c => ⟨false, c⟩)) := evg_all e
      have HK : Hid (costG kf (ET.node ⟨kd, en, rg, wd, ms, bs⟩ ⟨ma, mc, ba, bc, ka, kc⟩ [k]).ex = costG kf k.ex) := costg_all e
      have hk1 : kl = 1 := by rw [HKL.out]; rfl
      obtain ⟨b, off, rfl, hb, hcell⟩ := seg_expr sk (k := 0) (by simp)
      have hc7 : Cells7 w b off k := by simpa using hcell 0 (by simp)
      obtain ⟨c0, c1, c2, c3, c4, c5, c6⟩ := hc7
      have PI := hide (fun w' (hb : Below w.heap.size w w') => ih k (by simp) w' cc (HKp.out _ _ _ HI.out hb) (Nat.le_trans HNw.out hb.size) (ET.In.below hb k (inL_mem hkin k (by simp))) (hkr k.ex (by simp [exL])))
      generalize hev : evG f k.ex = O at PI HE
      generalize hck : costG kf k.ex = K1 at PI HK
      have HO := hide hev
      have rk := hide (hkr k.ex (by simp [exL]))
      simp only at e
      subst e
      subst hk1
      rw [HE.out, HK.out]
      clear ih hev hck HIN HRT halone P1 hkr hkin sk HK
      unfold eval at PI
      obtain ⟨RES, hRES⟩ : ∃ RES, RES = exb O fun m => exc ((allA wd bs [] m.cs).map fun c => (⟨false, c⟩ : Mn)) := ⟨_, rfl⟩
      rw [← hRES]
      have HRES := hide hRES
      clear hRES
      go_enter Try.func19, Try.ntmps19
      go_wp2_with fail
      rw [← HW.out]
      refine (PI.out W bel0).mono ?_
      rintro e w1 ⟨hp, b1⟩
      have G1 := bel_block b1 HB.out.row (Nat.le_trans HNw.out (Nat.le_succ _)) G0
      have F1 := bel_block b1 HB.out.row HNw.out F0
      have bw : Bel r w.heap.size w w1 := (Bel.of bel0 r).trans (b1.mono bel0.size)
      have HP := hide hp
      clear hp c0 c1 c2 c3 c4 c5 c6 PI
      obtain ⟨t0, t1, t2, t3⟩ := two_cells G1
      rcases HP.out with ⟨x, hx, ho, he⟩ | ⟨nb, cts, co, N, d, he, ho, hN, hC, hI1⟩
      · rw [he]
        have HE2 : Hid (RES = .error x) := by show _ = _; rw [HRES.out, ho]; rfl
        have HX := hide hx
        have hxb : (x != 0) = true := by simpa using hx
        clear hx
        have l1 : w.heap.size + 1 < w1.heap.size := lt_of_block G1
        clear HP ho HRES HE he HO
        go_wp2
        exact bodyPost_ret (v := .tuple #[.agg #[.bool false, .slice none 0 0], .int .i64 x]) (by simp [results, Try.results19, go_sem, (err_done G1 (.cells #[.bool false, .slice none 0 0] 65)).1, (err_done G1 (.cells #[.bool false, .slice none 0 0] 65)).2]) rfl ⟨.inl ⟨x, HX.out, HE2.out, rfl⟩, bel_err bw (by omega) _⟩
      · rw [he]
        have HE2 : Hid (RES = exc ((allA wd bs [] (cls cts)).map fun c => (⟨false, c⟩ : Mn))) := by show _ = _; rw [HRES.out, ho]; rfl
        have gd := HGD.out k.ex rk.out ⟨nb, cls cts⟩ (HO.out.trans ho)
        obtain ⟨V, hV⟩ : ∃ V, V = w1.alloc (.cells #[.bool nb, .slice co N d] 65) := ⟨_, rfl⟩
        have bV : Below w1.heap.size w1 V := by rw [hV]; exact (Below.refl _ _).alloc (Nat.le_refl _) _
        have hN8 : N ≤ 8 := by rw [hN, ← cls_len]; exact gd.len
        have PAl := hide (mall_any cts bs wd co ba N d bl bc V (hC.below bV) ((sb.bel (wordy_w _) HSo.out bw).below bV) hN HBL.out (by rw [HBL.out]; omega) gd.fine hN8)
        have HV := hide hV
        obtain ⟨p0, p1, p2, p3, p4, p5, p6⟩ := seven_cells F1
        have l0 : w.heap.size < w1.heap.size := lt_of_block F1
        have l1 : w.heap.size + 1 < w1.heap.size := lt_of_block G1
        have G2 := below_block bV G1
        have bW : Bel r w.heap.size w V := bel_below bV bw
        have HI1 := hide (HKp.out _ _ _ hI1 (bV.mono bw.size))
        clear hI1
        clear HP ho HRES HE he HO hV gd hC hN
        go_wp2_with fail
        rw [← HV.out]
        refine PAl.out.mono ?_
        rintro e w2 ⟨hp, b2⟩
        have G3 := below_block b2 G2
        have bX : Bel r w.heap.size w w2 := bel_below b2 bW
        have HI2 := hide (HKp.out _ _ _ HI1.out (b2.mono bW.size))
        obtain ⟨t0, t1, t2, t3⟩ := two_cells G3
        have HP := hide hp
        clear hp PAl p0 p1 p2 p3 p4 p5 p6
        rcases HP.out with ⟨ho, he⟩ | ⟨nb2, cts2, co2, N2, d2, he, ho, hN, hC⟩
        · rw [he]
          have HE3 : Hid (RES = .error 3) := by show _ = _; rw [HE2.out, ho]; rfl
          clear HP ho he HE2
          go_wp2
          exact bodyPost_ret (v := .tuple #[.agg #[.bool false, .slice none 0 0], .int .i64 3]) (by simp [results, Try.results19, go_sem, t0, t1]) rfl ⟨.inl ⟨3, by decide, HE3.out, rfl⟩, (bX.setCell (by show w.heap.size ≤ w.heap.size + 1; omega) _).setCell (by show w.heap.size ≤ w.heap.size + 1; omega) _⟩
        · rw [he]
          have HE3 : Hid (RES = .ok ⟨nb2, cls cts2⟩) := by show _ = _; rw [HE2.out, ho]; rfl
          have HN2 := hide hN
          clear HP ho he HE2 hN
          go_wp2
          exact bodyPost_ret (v := .tuple #[.agg #[.bool nb2, .slice co2 N2 d2], .int .i64 0]) (by simp [results, Try.results19, go_sem, t0, t1]) rfl ⟨.inr ⟨nb2, cts2, co2, N2, d2, rfl, HE3.out, HN2.out, hC.stored G3 nb2 _, HKp.out _ _ _ HI2.out (((Below.refl _ _).setCell (by show w.heap.size ≤ w.heap.size + 1; omega) _).setCell (by show w.heap.size ≤ w.heap.size + 1; omega) _)⟩, (bX.setCell (by show w.heap.size ≤ w.heap.size + 1; omega) _).setCell (by show w.heap.size ≤ w.heap.size + 1; omega) _⟩
  · match kids, k0, HKL, sk, hkin, hkr, ih, HRT with
    | [k, j], _, HKL, sk, hkin, hkr, ih, HRT =>
      have HE : Hid (evG f (ET.node ⟨kd, en, rg, wd, ms, bs⟩ ⟨ma, mc, ba, bc, ka, kc⟩ [k, j]).ex = exb (evG f k.ex) fun m => exb (evG f j.ex) fun m' => exc (binM m m' wd)) := evg_bin e
      have HK : Hid (costG kf (ET.node ⟨kd, en, rg, wd, ms, bs⟩ ⟨ma, mc, ba, bc, ka, kc⟩ [k, j]).ex = costG kf k.ex + costG kf j.ex) := costg_bin e
      have hk1 : kl = 2 := by rw [HKL.out]; rfl
      obtain ⟨b, off, rfl, hb, hcell⟩ := seg_expr sk (k := 0) (by simp)
      have hc7 : Cells7 w b off k := by simpa using hcell 0 (by simp)
      have hd7 : Cells7 w b (off + 7) j := by simpa using hcell 1 (by simp)
      obtain ⟨c0, c1, c2, c3, c4, c5, c6⟩ := hc7
      have PI := hide (fun w' (hb : Below w.heap.size w w') => ih k (by simp) w' cc (HKp.out _ _ _ HI.out hb) (Nat.le_trans HNw.out hb.size) (ET.In.below hb k (inL_mem hkin k (by simp))) (hkr k.ex (by simp [exL])))
      have PJ := hide (fun w' c' (hb : Bel r w.heap.size w w') (h' : I c' w') => ih j (by simp) w' c' h' (Nat.le_trans HNw.out hb.size) (ET.In.bel HSo.out hb j (inL_mem hkin j (by simp))) (hkr j.ex (by simp [exL])))
      generalize hev : evG f k.ex = O at PI HE
      generalize hck : costG kf k.ex = K1 at PI HK
      generalize hev2 : evG f j.ex = O2 at PJ HE
      generalize hck2 : costG kf j.ex = K2 at PJ HK
      have HO := hide hev
      have HO2 := hide hev2
      have rk := hide (hkr k.ex (by simp [exL]))
      have rj := hide (hkr j.ex (by simp [exL]))
      simp only at e
      subst e
      subst hk1
      rw [HE.out, HK.out]
      clear ih hev hev2 hck hck2 HIN HRT halone P1 hkr hkin sk HK
      unfold eval at PI PJ
      obtain ⟨RES, hRES⟩ : ∃ RES, RES = exb O fun m => exb O2 fun m' => exc (binM m m' wd) := ⟨_, rfl⟩
      rw [← hRES]
      have HRES := hide hRES
      have HD7 := hide hd7
      clear hRES hd7
      go_enter Try.func19, Try.ntmps19
      go_wp2_with fail
      rw [← HW.out]
      refine (PI.out W bel0).mono ?_
      rintro e w1 ⟨hp, b1⟩
      have G1 := bel_block b1 HB.out.row (Nat.le_trans HNw.out (Nat.le_succ _)) G0
      have F1 := bel_block b1 HB.out.row HNw.out F0
      have bw : Bel r w.heap.size w w1 := (Bel.of bel0 r).trans (b1.mono bel0.size)
      have l0 : w.heap.size < w1.heap.size := lt_of_block F1
      have l1 : w.heap.size + 1 < w1.heap.size := lt_of_block G1
      have HP := hide hp
      clear hp c0 c1 c2 c3 c4 c5 c6 PI
      obtain ⟨t0, t1, t2, t3⟩ := two_cells G1
      rcases HP.out with ⟨x, hx, ho, he⟩ | ⟨nb, cts, co, N, d, he, ho, hN, hC, hI1⟩
      · rw [he]
        have HE2 : Hid (RES = .error x) := by show _ = _; rw [HRES.out, ho]; rfl
        have HX := hide hx
        have hxb : (x != 0) = true := by simpa using hx
        clear hx
        clear HP ho HRES HE he HO HO2
        go_wp2
        exact bodyPost_ret (v := .tuple #[.agg #[.bool false, .slice none 0 0], .int .i64 x]) (by simp [results, Try.results19, go_sem, (err_done G1 (.cells #[.bool false, .slice none 0 0] 65)).1, (err_done G1 (.cells #[.bool false, .slice none 0 0] 65)).2]) rfl ⟨.inl ⟨x, HX.out, HE2.out, rfl⟩, bel_err bw (by omega) _⟩
      · rw [he]
        have HE2 : Hid (RES = exb O2 fun m' => exc (binM ⟨nb, cls cts⟩ m' wd)) := by show _ = _; rw [HRES.out, ho]; rfl
        have gd := HGD.out k.ex rk.out ⟨nb, cls cts⟩ (HO.out.trans ho)
        obtain ⟨V, hV⟩ : ∃ V, V = w1.alloc (.cells #[.bool nb, .slice co N d] 65) := ⟨_, rfl⟩
        obtain ⟨X, hX⟩ : ∃ X, X = w1.heap.size := ⟨_, rfl⟩
        have X0 : V.heap[X]? = some (.cells #[.bool nb, .slice co N d] 65 (0, 0)) := by rw [hV, hX]; exact heap_alloc_new w1 _
        have bV : Below w1.heap.size w1 V := by rw [hV]; exact (Below.refl _ _).alloc (Nat.le_refl _) _
        have hCV := hC.below bV
        have HV := hide hV
        have HXN : Hid (Nb ≤ X) := by show _ ≤ _; rw [hX]; exact Nat.le_trans HNw.out bw.size
        have HX := hide hX
        have HN := hide hN
        have HGK := hide gd
        obtain ⟨p0, p1, p2, p3, p4, p5, p6⟩ := seven_cells F1
        have G2 := below_block bV G1
        have F2 := below_block bV F1
        have bW : Bel r w.heap.size w V := bel_below bV bw
        have HI1 := hide (HKp.out _ _ _ hI1 (bV.mono bw.size))
        clear hI1
        obtain ⟨d0, d1, d2, d3, d4, d5, d6⟩ := HD7.out
        have hrb : r ≠ some b := fun e0 => HSo.out b e0 _ _ d3
        have q0 := (bw.cell (b := b) (o := off + 7) hb hrb).trans d0
        have q1 := (bw.cell (b := b) (o := off + 7 + 1) hb hrb).trans d1
        have q2 := (bw.cell (b := b) (o := off + 7 + 2) hb hrb).trans d2
        have q3 := (bw.cell (b := b) (o := off + 7 + 3) hb hrb).trans d3
        have q4 := (bw.cell (b := b) (o := off + 7 + 4) hb hrb).trans d4
        have q5 := (bw.cell (b := b) (o := off + 7 + 5) hb hrb).trans d5
        have q6 := (bw.cell (b := b) (o := off + 7 + 6) hb hrb).trans d6
        have bl1 : b < w1.heap.size := Nat.lt_of_lt_of_le hb bw.size
        clear HP ho HRES HE he HO hV gd hC hN d0 d1 d2 d3 d4 d5 d6 hrb
        go_wp2_with fail
        rw [← HV.out]
        refine (PJ.out V _ bW HI1.out).mono ?_
        rintro e w2 ⟨hp, b2⟩
        rw [← HX.out]
        have G3 := bel_block b2 HB.out.row (Nat.le_trans HNw.out (Nat.le_succ _)) G2
        have F3 := bel_block b2 HB.out.row HNw.out F2
        have X1 := bel_block b2 HB.out.row HXN.out X0
        have hC2 := hCV.bel (HB.out.solo _ _ HI1.out) b2
        have bX : Bel r w.heap.size w w2 := bel_step b2 bW
        have l2 : w.heap.size < w2.heap.size := lt_of_block F3
        have l3 : w.heap.size + 1 < w2.heap.size := lt_of_block G3
        have l4 : X < w2.heap.size := lt_of_block X1
        obtain ⟨t0, t1, t2, t3⟩ := two_cells G3
        have HP := hide hp
        clear hp PJ p0 p1 p2 p3 p4 p5 p6 q0 q1 q2 q3 q4 q5 q6 HX hX HV
        rcases HP.out with ⟨x, hx, ho, he⟩ | ⟨nb2, cts2, co2, N2, e2, he, ho, hN, hC, hI2⟩
        · rw [he]
          have HE3 : Hid (RES = .error x) := by show _ = _; rw [HE2.out, ho]; rfl
          have HX := hide hx
          have hxb : (x != 0) = true := by simpa using hx
          clear hx
          clear HP ho he HE2
          go_wp2
          exact bodyPost_ret (v := .tuple #[.agg #[.bool false, .slice none 0 0], .int .i64 x]) (by simp [results, Try.results19, go_sem, (err_done G3 (.cells #[.bool false, .slice none 0 0] 65)).1, (err_done G3 (.cells #[.bool false, .slice none 0 0] 65)).2]) rfl ⟨.inl ⟨x, HX.out, HE3.out, rfl⟩, bel_err bX (by omega) _⟩
        · rw [he]
          have HE3 : Hid (RES = exc (binM ⟨nb, cls cts⟩ ⟨nb2, cls cts2⟩ wd)) := by show _ = _; rw [HE2.out, ho]; rfl
          have gd2 := HGD.out j.ex rj.out ⟨nb2, cls cts2⟩ (HO2.out.trans ho)
          have gd1 := HGK.out
          obtain ⟨U, hU⟩ : ∃ U, U = w2.alloc (.cells #[.bool nb2, .slice co2 N2 e2] 65) := ⟨_, rfl⟩
          have bU : Below w2.heap.size w2 U := by rw [hU]; exact (Below.refl _ _).alloc (Nat.le_refl _) _
          have PB := hide (mbin_any nb nb2 cts cts2 wd co co2 N d N2 e2 U (hC2.below bU) (hC.below bU) HN.out hN gd1.fine gd2.fine (by rw [HN.out, ← cls_len]; exact gd1.len) (by rw [hN, ← cls_len]; exact gd2.len) (fun h => by rw [HN.out, ← cls_len]; exact gd1.num h) (fun h => by rw [hN, ← cls_len]; exact gd2.num h))
          have HU := hide hU
          obtain ⟨x0, x1, _, _⟩ := two_cells X1
          obtain ⟨p0, p1, p2, p3, p4, p5, p6⟩ := seven_cells F3
          have G4 := below_block bU G3
          have bY : Bel r w.heap.size w U := bel_below bU bX
          have HI3 := hide (HKp.out _ _ _ hI2 (bU.mono bX.size))
          clear hI2
          clear HP ho he HE2 hU hN hC gd1 gd2 HO2
          go_wp2_with fail
          rw [← HU.out]
          refine PB.out.mono ?_
          rintro e w3 ⟨hp, b3⟩
          have G5 := below_block b3 G4
          have bZ : Bel r w.heap.size w w3 := bel_below b3 bY
          have HI4 := hide (HKp.out _ _ _ HI3.out (b3.mono bY.size))
          obtain ⟨t0, t1, t2, t3⟩ := two_cells G5
          have HP := hide hp
          clear hp PB p0 p1 p2 p3 p4 p5 p6 x0 x1 HU
          rcases HP.out with ⟨ho, he⟩ | ⟨nb3, cts3, co3, N3, d3, he, ho, hN, hC⟩
          · rw [he]
            have HE4 : Hid (RES = .error 3) := by show _ = _; rw [HE3.out, ho]; rfl
            clear HP ho he HE3
            go_wp2
            exact bodyPost_ret (v := .tuple #[.agg #[.bool false, .slice none 0 0], .int .i64 3]) (by simp [results, Try.results19, go_sem, t0, t1]) rfl ⟨.inl ⟨3, by decide, HE4.out, rfl⟩, (bZ.setCell (by show w.heap.size ≤ w.heap.size + 1; omega) _).setCell (by show w.heap.size ≤ w.heap.size + 1; omega) _⟩
          · rw [he]
            have HE4 : Hid (RES = .ok ⟨nb3, cls cts3⟩) := by show _ = _; rw [HE3.out, ho]; rfl
            have HN3 := hide hN
            clear HP ho he HE3 hN
            go_wp2
            exact bodyPost_ret (v := .tuple #[.agg #[.bool nb3, .slice co3 N3 d3], .int .i64 0]) (by simp [results, Try.results19, go_sem, t0, t1]) rfl ⟨.inr ⟨nb3, cts3, co3, N3, d3, rfl, HE4.out, HN3.out, hC.stored G5 nb3 _, by
              have := HKp.out _ _ _ HI4.out (((Below.refl w.heap.size w3).setCell (p := ⟨w.heap.size + 1, 0, none⟩) (by show w.heap.size ≤ w.heap.size + 1; omega) (.bool nb3)).setCell (p := ⟨w.heap.size + 1, 1, none⟩) (by show w.heap.size ≤ w.heap.size + 1; omega) (.slice co3 N3 d3))
              rw [Nat.add_assoc] at this
              exact this⟩, (bZ.setCell (by show w.heap.size ≤ w.heap.size + 1; omega) _).setCell (by show w.heap.size ≤ w.heap.size + 1; omega) _⟩

end Go.Proofs.Ythohkokhimdamaa

/-
  The walk of windowOf, of whatever the samples of each series come to.
-/
namespace Go.GrainU
open Go.RowKit

theorem OwnC.bel {w w' : World} {r : Option Nat} {base T N : Nat} {v : Value} {l : List CT} (h : OwnC w base T v N l) (hr : ∀ C, r = some C → C < base) (hs : Solo r w) (hb : Bel r w.heap.size w w') : OwnC w' base T v N l :=
  ⟨own_bel h.own hr hb, fun c hc => (h.ser c hc).bel (wordy_l _) hs hb⟩

/-- what a sum's asking answers -/
def sumv (J : Grain.Sm) (x : Int) : Value := .tuple #[.agg #[.int .i64 J.c, .int .i64 J.t, .int .i64 J.mn, .int .i64 J.mx, .int .i64 J.f, .int .i64 J.l, .int .i64 J.r], .int .i64 x]

def SPost (S : Except Int Grain.Sm) (I : Nat → World → Prop) (r : Option Nat) (c k : Nat) (w : World) (e : Ending) (w' : World) : Prop :=
  ((∃ (x : Int) (J : Grain.Sm), x ≠ 0 ∧ S = .error x ∧ e = .returned (sumv J x)) ∨
   ∃ J : Grain.Sm, S = .ok J ∧ e = .returned (sumv J 0) ∧ I (c + k) w') ∧ Bel r w.heap.size w w'

/-- the cells of the first k series -/
def winT (S : Nat → Except Int Grain.Sm) (h : Hd) (l : List ST) : Nat → Except Int (List Cl)
  | 0 => .ok []
  | k + 1 =>
    match winT S h l k with
    | .error e => .error e
    | .ok c =>
      if says (st l k).ser h.ms = true then
        match S k with
        | .error e => .error e
        | .ok s => .ok (c ++ if (valP h.word s).2 = true then [((st l k).ser, (valP h.word s).1)] else [])
      else .ok c

def winKT (K : Nat → Nat) (h : Hd) (l : List ST) : Nat → Nat
  | 0 => 0
  | k + 1 => winKT K h l k + if says (st l k).ser h.ms = true then K k else 0

theorem winT_err {S : Nat → Except Int Grain.Sm} {h : Hd} {l : List ST} {x : Int} {k : Nat} (e : winT S h l k = .error x) : ∀ n, k ≤ n → winT S h l n = .error x := by
  intro n
  induction n with
  | zero => intro hk; rw [show k = 0 from by omega] at e; exact e
  | succ n ih =>
    intro hk
    rcases Nat.lt_or_ge n k with h1 | h1
    · rw [show n + 1 = k from by omega]; exact e
    · rw [winT, ih h1]

/-! what Over comes to -/

theorem chk_zero {e : Ex} {time : Int} (h : chk e time = 0) : Rt e ∧ 0 ≤ time ∧ time ≤ 1000000 := by
  unfold chk at h
  by_cases h1 : (wr e 1 0).1 = 0
  · rw [if_pos h1] at h
    by_cases h2 : typ e = 0
    · rw [if_pos h2] at h
      by_cases h3 : time < 0 ∨ 1000000 < time
      · rw [if_pos h3] at h; simp at h
      · exact ⟨(wr_ok e 1 0 (by omega) h1).1, by omega, by omega⟩
    · rw [if_neg h2] at h; exact absurd h h2
  · rw [if_neg h1] at h; exact absurd h h1

def overW (S : Nat → Int → Int → Except Int Grain.Sm) (l : List ST) (n : Nat) (time : Int) (h : Hd) : Except Int (List Cl) := winT (fun i => S i (max 0 (time - h.range)) time) h l n
def overC (K : Nat → Int → Int → Nat) (l : List ST) (n : Nat) (time : Int) (h : Hd) : Nat := winKT (fun i => K i (max 0 (time - h.range)) time) h l n
def overE (S : Nat → Int → Int → Except Int Grain.Sm) (l : List ST) (n : Nat) (time : Int) (e : Ex) : Except Int Mn := if chk e time = 0 then evG (overW S l n time) e else .error (chk e time)
def overK (K : Nat → Int → Int → Nat) (l : List ST) (n : Nat) (time : Int) (e : Ex) : Nat := costG (overC K l n time) e

def OPost (O : Except Int Mn) (I : Nat → World → Prop) (r : Option Nat) (c k : Nat) (w : World) (e : Ending) (w' : World) : Prop :=
  ((∃ x : Int, x ≠ 0 ∧ O = .error x ∧ e = .returned (.tuple #[.slice none 0 0, .int .i64 x])) ∨
   ∃ nb cts co M d, e = .returned (.tuple #[.slice co M d, .int .i64 0]) ∧ O = .ok ⟨nb, cls cts⟩ ∧ M = cts.length ∧ CsIn w' co cts ∧ I (c + k) w') ∧ Bel r w.heap.size w w'

theorem spost_with {S : Except Int Grain.Sm} {I : Nat → World → Prop} {r : Option Nat} {c k : Nat} {V w w' : World} {e : Ending} (h : SPost S I r c k w e w') (hb : Bel r V.heap.size V w) : SPost S (fun c w' => I c w' ∧ Bel r V.heap.size V w') r c k w e w' := by
  obtain ⟨h1, h2⟩ := h
  refine ⟨?_, h2⟩
  rcases h1 with h | ⟨J, a, b, d⟩
  · exact .inl h
  · exact .inr ⟨J, a, b, d, bel_step h2 hb⟩

theorem gpost_of {O : Except Int Mn} {I J : Nat → World → Prop} {r : Option Nat} {c k : Nat} {w w' : World} {e : Ending} (h : GPost O (fun c w' => I c w' ∧ J c w') r c k w e w') : GPost O I r c k w e w' := by
  obtain ⟨h1, h2⟩ := h
  refine ⟨?_, h2⟩
  rcases h1 with h | ⟨nb, cts, co, M, d, a, b, m, f, g⟩
  · exact .inl h
  · exact .inr ⟨nb, cts, co, M, d, a, b, m, f, g.1⟩

end Go.GrainU
namespace Go.Proofs.Ythohkokhimdamaa
open Go.RowKit Go.GrainU

set_option maxRecDepth 100000 in
set_option maxHeartbeats 8000000 in
theorem gwin_any (l : List ST) (t : ET) (S : Nat → Except Int Grain.Sm) (K : Nat → Nat) (I : Nat → World → Prop) (r : Option Nat) (Nb B1 B2 B3 : Nat) (hB : Beside r Nb I) (ao : Option Addr) (n cap : Nat) (w : World) (cc : Nat) (hI : I cc w) (hNw : Nb ≤ w.heap.size) (hs : SsIn w ao l) (hin : t.In w) (hn : n = l.length) (hn8 : n ≤ 8)
    (hS : ∀ i s, S i = .ok s → -9223372036854775808 ≤ s.t ∧ s.t ≤ 9223372036854775807)
    (hsum : ∀ (i : Nat) (w' : World) (c' : Nat), i < n → I c' w' → Bel r w.heap.size w w' → Calls Try.prog 22 #[.int .i64 i, .pointer (some ⟨B1, 0, none⟩), .pointer (some ⟨B2, 0, none⟩), .pointer (some ⟨B3, 0, none⟩)] w' fun e w'' => SPost (S i) I r c' (K i) w' e w'') :
    Calls Try.prog 21 #[.slice ao n cap, eval t, .func (.func 22) #[] #[.pointer (some ⟨B1, 0, none⟩), .pointer (some ⟨B2, 0, none⟩), .pointer (some ⟨B3, 0, none⟩)]] w fun e w' => GPost (wopt (winT S t.hd l n)) I r cc (winKT K t.hd l n) w e w' := by
  obtain ⟨i0, hi, hz0, hz1, hz2⟩ := info_parts Try.infoCell
  have HN := hide hn
  have HSo := hide (hB.solo cc w hI)
  have HKp := hide (fun c' w1 w2 (h1 : I c' w1) (h2 : Below w.heap.size w1 w2) => hB.kept c' w1 w2 h1 (h2.mono hNw))
  have HNw := hide hNw
  have HB := hide hB
  have HI := hide hI
  have HS := hide hS
  have HSum := hide hsum
  have HSs := hide hs
  clear hn hB hI hS hsum hNw
  obtain ⟨ms, hms⟩ : ∃ ms, ms = t.hd.ms := ⟨_, rfl⟩
  obtain ⟨wd, hwd⟩ : ∃ wd, wd = t.hd.word := ⟨_, rfl⟩
  obtain ⟨ml, hml⟩ : ∃ ml, ml = ms.length := ⟨_, rfl⟩
  obtain ⟨kd, hkd⟩ : ∃ kd, kd = t.hd.kind := ⟨_, rfl⟩
  obtain ⟨rg, hrg⟩ : ∃ rg, rg = t.hd.range := ⟨_, rfl⟩
  obtain ⟨en, hen⟩ : ∃ en, en = t.hd.n := ⟨_, rfl⟩
  have hinp : Seg w t.sp.ma (mcells ms) ∧ ms.length ≤ 9223372036854775806 := by
    rw [hms]
    cases t with
    | node h s kids => simp only [ET.In] at hin; exact ⟨hin.1.1, hin.2.1.1⟩
  obtain ⟨smM, lM⟩ := hinp
  have HWT : Hid (∀ k, winT S t.hd l (k + 1) = match winT S t.hd l k with | .error e => .error e | .ok c => if says (st l k).ser ms = true then (match S k with | .error e => .error e | .ok s => .ok (c ++ if (valP wd s).2 = true then [((st l k).ser, (valP wd s).1)] else [])) else .ok c) := by
    intro k; rw [hms, hwd]; rfl
  have HWK : Hid (∀ k, winKT K t.hd l (k + 1) = winKT K t.hd l k + if says (st l k).ser ms = true then K k else 0) := by
    intro k; rw [hms]; rfl
  obtain ⟨hd, hhd⟩ : ∃ hd, hd = t.hd := ⟨_, rfl⟩
  have hml2 : t.hd.ms.length = ml := by rw [hml, hms]
  unfold eval
  generalize t.hd.bs.length = bl
  generalize t.kids.length = kl
  rw [hml2, ← hkd, ← hrg, ← hwd, ← hen, ← hhd]
  rw [← hhd] at HWT HWK
  clear hml2 hkd hrg hwd hen hms hin
  have HML := hide hml
  clear hml hhd hs
  have lM' : ml ≤ 9223372036854775807 := by rw [HML.out]; omega
  obtain ⟨W, hW⟩ : ∃ W, W = (w.alloc (.cells #[.int .i64 kd, .int .i64 en, .int .i64 rg, .string wd, .slice t.sp.ma ml t.sp.mc, .slice t.sp.ba bl t.sp.bc, .slice t.sp.ka kl t.sp.kc] 27)).alloc (.cells #[.bool false, .slice none 0 0] 65) := ⟨_, rfl⟩
  have bel0 : Below w.heap.size w W := by rw [hW]; exact ((Below.refl _ _).alloc (Nat.le_refl _) _).alloc (by simp) _
  have F0 : W.heap[w.heap.size]? = some (.cells #[.int .i64 kd, .int .i64 en, .int .i64 rg, .string wd, .slice t.sp.ma ml t.sp.mc, .slice t.sp.ba bl t.sp.bc, .slice t.sp.ka kl t.sp.kc] 27 (0, 0)) := by rw [hW, Below.heap_alloc _ _ _ (by simp)]; exact heap_alloc_new w _
  have G0 : W.heap[w.heap.size + 1]? = some (.cells #[.bool false, .slice none 0 0] 65 (0, 0)) := by
    have := heap_alloc_new (w.alloc (.cells #[.int .i64 kd, .int .i64 en, .int .i64 rg, .string wd, .slice t.sp.ma ml t.sp.mc, .slice t.sp.ba bl t.sp.bc, .slice t.sp.ka kl t.sp.kc] 27)) (.cells #[.bool false, .slice none 0 0] 65)
    rw [hW]; simpa using this
  have HWs : Hid (W.heap.size = w.heap.size + 2) := by show _ = _; rw [hW]; simp
  have HW := hide hW
  have HRow : Hid (∀ C, r = some C → C < W.heap.size) := fun C hC => by
    have h1 := HB.out.row C hC
    have h2 := HNw.out
    have h3 := bel0.size
    omega
  have HI0 := hide (HKp.out _ _ _ HI.out bel0)
  have HF0 := hide F0
  have HG0 := hide G0
  have HB0 := hide bel0
  clear hW F0 G0 bel0
  go_enter Try.func21, Try.ntmps21
  go_wp2
  rw [← HW.out]
  go_loopw [8, 17] (fun out i wr => ∃ (k N d : Nat) (co : Option Addr) (cts : List CT), k ≤ n ∧ i = .int .i64 k ∧ out = .slice co N d ∧ N ≤ k ∧ OwnC wr W.heap.size 44 (.slice co N d) N cts ∧ Hid (winT S hd l k = .ok (cls cts)) ∧ Hid (I (cc + winKT K hd l k) wr) ∧ Bel r w.heap.size w wr ∧ wr.heap[w.heap.size]? = some (.cells #[.int .i64 kd, .int .i64 en, .int .i64 rg, .string wd, .slice t.sp.ma ml t.sp.mc, .slice t.sp.ba bl t.sp.bc, .slice t.sp.ka kl t.sp.kc] 27 (0, 0)) ∧ wr.heap[w.heap.size + 1]? = some (.cells #[.bool false, .slice none 0 0] 65 (0, 0))) (fun _ i _ => n - (intOf i).toNat)
  case atStart => exact ⟨0, 0, 0, none, [], Nat.zero_le _, rfl, rfl, Nat.le_refl _, OwnC.nil _ _ _, rfl, HI0.out, Bel.of HB0.out r, HF0.out, HG0.out⟩
  case round =>
    obtain ⟨k, N, d, co, cts, hk, rfl, rfl, hNk, own, HC, HIk, bel, Fr, Gr⟩ := hrel
    clear HF0 HG0 HI0 HB0 HI
    have hsz := bel.size
    by_cases hlt : k < n
    · have hkl : k < l.length := by rw [← HN.out]; exact hlt
      have HSr := hide (HSs.out.bel HSo.out bel)
      obtain ⟨b, off, rfl, hb, hcell⟩ := seg_series HSr.out.seg hkl
      obtain ⟨x, hx⟩ : ∃ x, x = st l k := ⟨_, rfl⟩
      obtain ⟨sn, hsn⟩ : ∃ sn, sn = x.ser.length := ⟨_, rfl⟩
      have xm : x ∈ l := by rw [hx]; exact st_mem hkl
      have c0 : wr.cell? ⟨b, off + k, none⟩ = some (.slice x.sa sn x.sc) := by rw [hsn, hx]; exact hcell k hkl
      have HSg := hide (fun w' (hb' : Bel r w.heap.size w w') => (HSs.out.bel HSo.out hb').ser x xm)
      have HT : Hid (winT S hd l (k + 1) = if says x.ser ms = true then (match S k with | .error e => .error e | .ok s => .ok (cls cts ++ if (valP wd s).2 = true then [(x.ser, (valP wd s).1)] else [])) else .ok (cls cts)) := by
        show _ = _
        rw [HWT.out k, HC.out, ← hx]
      have HTK : Hid (winKT K hd l (k + 1) = winKT K hd l k + if says x.ser ms = true then K k else 0) := by
        show _ = _
        rw [HWK.out k, ← hx]
      have sn4 : sn ≤ 4 := by rw [hsn]; exact HSs.out.len x xm
      have HNIL : Hid (x.sa = none → sn = 0 ∧ x.sc = 0) := fun h => by rw [hsn]; exact HSs.out.nil x xm h
      have HSN := hide hsn
      have segM := smM.bel (wordy_m _) HSo.out bel
      have segS := HSg.out wr bel
      obtain ⟨p0, p1, p2, p3, p4, p5, p6⟩ := seven_cells Fr
      obtain ⟨Q, hQ⟩ : ∃ Q, Q = says x.ser ms := ⟨_, rfl⟩
      rw [← hQ] at HT HTK
      have HQ := hide hQ
      have sn63 : sn ≤ 9223372036854775807 := by omega
      obtain ⟨KA, hKA⟩ : ∃ KA, KA = winKT K hd l k := ⟨_, rfl⟩
      obtain ⟨KB, hKB⟩ : ∃ KB, KB = winKT K hd l (k + 1) := ⟨_, rfl⟩
      rw [← hKA] at HTK HIk
      rw [← hKB] at HTK
      have HKB := hide hKB
      clear hsn hx hkl hcell hQ hKA hKB xm HC
      go_wp2_with fail
      refine (nmatches_any x.ser ms x.sa t.sp.ma sn x.sc ml t.sp.mc wr segS segM HSN.out HML.out sn63 lM').mono ?_
      rintro e w1 ⟨rfl, b1⟩
      rw [← HQ.out]
      have bel1 := bel_below b1 bel
      have own1 := own.below b1
      have F1 := below_block b1 Fr
      have G1 := below_block b1 Gr
      have HI1 := hide (HKp.out _ _ _ HIk.out (b1.mono hsz))
      clear b1 own Fr Gr bel p0 p1 p2 p3 p4 p5 p6 c0 segM segS HSr HIk hb hsz
      cases Q with
      | false =>
        have HC2 : Hid (winT S hd l (k + 1) = .ok (cls cts)) := by show _ = _; rw [HT.out]; simp
        have HI2 : Hid (I (cc + winKT K hd l (k + 1)) w1) := by
          show I _ _
          rw [← HKB.out, HTK.out]; simpa using HI1.out
        clear HT HTK HI1 HKB
        go_wp2
        go_roundw
        case rel => exact ⟨k + 1, N, d, co, cts, by omega, by go_num, rfl, by omega, own1, HC2, HI2, bel1, F1, G1⟩
        case measure => simp [intOf]; omega
      | true =>
        have PS := hide (HSum.out k w1 _ hlt HI1.out bel1)
        clear HSum
        go_wp2_with fail
        refine PS.out.mono ?_
        rintro e w2 ⟨hp, b2⟩
        have F2 := bel_block b2 HB.out.row HNw.out F1
        have G2 := bel_block b2 HB.out.row (Nat.le_trans HNw.out (Nat.le_succ _)) G1
        have own2 := own1.bel HRow.out (HB.out.solo _ _ HI1.out) b2
        have bel2 := bel_step b2 bel1
        have l0 : w.heap.size < w2.heap.size := lt_of_block F2
        have l1 : w.heap.size + 1 < w2.heap.size := lt_of_block G2
        have HP := hide hp
        clear hp PS own1 F1 G1 bel1 b2 HI1
        rcases HP.out with ⟨y, J, hy, ho, he⟩ | ⟨J, ho, he, hI2⟩
        · rw [he]
          unfold sumv
          have HE2 : Hid (winT S hd l n = .error y) := winT_err (k := k + 1) (by rw [HT.out, ho]; rfl) n hlt
          have HY := hide hy
          have hyb : (y != 0) = true := by simpa using hy
          obtain ⟨t0, t1, t2, t3⟩ := two_cells G2
          clear HP ho he hy HT HTK own2
          go_wp2
          exact bodyPost_ret (v := .tuple #[.agg #[.bool false, .slice none 0 0], .int .i64 y]) (by simp [results, Try.results21, go_sem, (err_done G2 (.cells #[.int .i64 J.c, .int .i64 J.t, .int .i64 J.mn, .int .i64 J.mx, .int .i64 J.f, .int .i64 J.l, .int .i64 J.r] 54)).1, (err_done G2 (.cells #[.int .i64 J.c, .int .i64 J.t, .int .i64 J.mn, .int .i64 J.mx, .int .i64 J.f, .int .i64 J.l, .int .i64 J.r] 54)).2]) rfl ⟨.inl ⟨y, HY.out, by rw [HE2.out]; rfl, rfl⟩, bel_err bel2 (by omega) _⟩
        · rw [he]
          unfold sumv
          have tb := HS.out k J ho
          obtain ⟨v, hv⟩ : ∃ v, v = (valP wd J).1 := ⟨_, rfl⟩
          obtain ⟨ok, hok⟩ : ∃ ok, ok = (valP wd J).2 := ⟨_, rfl⟩
          have HC1 : Hid (winT S hd l (k + 1) = .ok (cls cts ++ if ok = true then [(x.ser, v)] else [])) := by
            show _ = _
            rw [HT.out, ho, hv, hok]; rfl
          have PV : Hid (∀ w', Calls Try.prog 38 #[.string wd, .agg #[.int .i64 J.c, .int .i64 J.t, .int .i64 J.mn, .int .i64 J.mx, .int .i64 J.f, .int .i64 J.l, .int .i64 J.r]] w' fun e w'' => e = .returned (.tuple #[.int .i64 v, .bool ok]) ∧ Below w'.heap.size w' w'') := fun w' => by
            rw [hv, hok]; exact mvalue_any J wd w' tb.1 tb.2
          have HI3 : Hid (I (cc + winKT K hd l (k + 1)) w2) := by
            show I _ _
            rw [← HKB.out, HTK.out]
            simpa [Nat.add_assoc] using hI2
          have bA : Below w2.heap.size w2 (w2.alloc (.cells #[.int .i64 J.c, .int .i64 J.t, .int .i64 J.mn, .int .i64 J.mx, .int .i64 J.f, .int .i64 J.l, .int .i64 J.r] 54)) := (Below.refl _ _).alloc (Nat.le_refl _) _
          have F3 := below_block bA F2
          have G3 := below_block bA G2
          have own3 := own2.below bA
          have bel3 := bel_below bA bel2
          have HI4 := hide (HKp.out _ _ _ HI3.out (bA.mono bel2.size))
          obtain ⟨p0, p1, p2, p3, p4, p5, p6⟩ := seven_cells F2
          clear hv hok tb HP ho he HT HTK hI2 HI3 own2 bel2 bA HKB G2
          go_wp2_with fail
          refine (PV.out _).mono ?_
          rintro e w8 ⟨rfl, b8⟩
          have bel8 := bel_below b8 bel3
          have own8 := own3.below b8
          have F8 := below_block b8 F3
          have G8 := below_block b8 G3
          have HI8 := hide (HKp.out _ _ _ HI4.out (b8.mono bel3.size))
          clear b8 own3 F2 F3 G3 bel3 p0 p1 p2 p3 p4 p5 p6 PV HI4 l0 l1
          cases ok with
          | false =>
            have HC2 : Hid (winT S hd l (k + 1) = .ok (cls cts)) := by show _ = _; rw [HC1.out]; simp
            clear HC1
            go_wp2
            go_roundw
            case rel => exact ⟨k + 1, N, d, co, cts, by omega, by go_num, rfl, by omega, own8, HC2, HI8, bel8, F8, G8⟩
            case measure => simp [intOf]; omega
          | true =>
            have segS8 := HSg.out w8 bel8
            go_wp2_with fail
            refine (mclone_any x.ser x.sa sn x.sc w8 segS8 HSN.out (by omega) HNIL.out).mono ?_
            rintro e w9 ⟨no, N9, d9, rfl, own9, hN9, b9⟩
            have bel9 := bel_below b9 bel8
            have hs9 := bel9.size
            have ownN := own8.below b9
            have F9 := below_block b9 F8
            have G9 := below_block b9 G8
            have HI9 := hide (HKp.out _ _ _ HI8.out (b9.mono bel8.size))
            have hlt8 : ∀ g, (Value.slice co N d).ownBlock = some g → g < w8.heap.size := fun g hg => (own_base own8.own g hg).2
            have segN9 : SegN w9 (Value.slice co N d).ownBlock no (lcells x.ser) := segN_own own9 hlt8
            have HN9 : Hid (N9 = x.ser.length) := by show _ = _; rw [hN9]; exact HSN.out
            have hW9 : W.heap.size ≤ w9.heap.size := by
              have h1 := HWs.out
              have h2 := lt_of_block G9
              omega
            clear own8 b9 own9 bel8 hN9 F8 G8 HI8 segS8
            have belA : Below w9.heap.size w9 (w9.alloc (.cells #[.slice no N9 d9, .int .i64 v] 44)) := (Below.refl _ _).alloc (Nat.le_refl _) _
            have ownA := ownN.below belA
            have segA := segN9.below belA
            go_wp2_with (at_builtin; refine wpList_append_lies _ rfl _ _ 29 rfl W.heap.size 44 i0 (.agg #[.slice none 0 0, .int .i64 0]) 2 32 Try.underlying29 hi hz0 hz1 hz2 rfl (by decide) _ _ _ rfl ownA.own ⟨w9.heap.size, 0, none⟩ 1 1 [.slice no N9 d9, .int .i64 v] rfl rfl (news_two rfl _ _ _) (by simp [Value.oneCell']) (by decide) (by unfold maxLen; omega) (by omega) (by simp; omega) (w9.heap.size + 1) (by simp) ?_)
            intro g' cp' wz ownZ grZ hatZ hltZ
            have ownP := OwnC.push ownA ⟨x.ser, v, no, d9⟩ segA (by rw [← HN9.out]; exact ownZ) grZ (by
              rcases hatZ with h | h
              · exact .inl h
              · right; simp; omega)
            have bZ : Below W.heap.size w9 wz := ((Below.refl _ _).alloc hW9 _).grown grZ (by simp; omega) (fun j hj => (own_base ownA.own j hj).1)
            have FZ : wz.heap[w.heap.size]? = _ := (bZ.block _ (by rw [HWs.out]; omega)).trans F9
            have GZ : wz.heap[w.heap.size + 1]? = _ := (bZ.block _ (by rw [HWs.out]; omega)).trans G9
            have bZ' : Below w.heap.size w9 wz := bZ.mono (by rw [HWs.out]; omega)
            have HIZ := hide (HKp.out _ _ _ HI9.out bZ')
            have belZ : Bel r w.heap.size w wz := bel9.trans (Bel.of bZ' r)
            have HC2 : Hid (winT S hd l (k + 1) = .ok (cls (cts ++ [⟨x.ser, v, no, d9⟩]))) := by
              show _ = _
              rw [HC1.out, cls_append]; simp [cls, CT.cl]
            clear HC1 ownA segA ownZ grZ hatZ hltZ ownN segN9 belA bel9 F9 G9 HI9 bZ bZ'
            go_wp2
            go_roundw
            case rel => exact ⟨k + 1, N + 1, cp', _, _, by omega, by go_num, rfl, by omega, ownP, HC2, HIZ, belZ, FZ, GZ⟩
            case measure => simp [intOf]; omega
    · have he : k = n := by omega
      subst he
      have hlen := own.len
      have cin := own.csIn
      have HLN := hide hlen
      obtain ⟨t0, t1, t2, t3⟩ := two_cells Gr
      clear HN hlen
      go_wp2
      exact bodyPost_ret (v := .tuple #[.agg #[.bool false, .slice co N d], .int .i64 0]) (by simp [results, Try.results21, go_sem, t0, t1]) rfl ⟨.inr ⟨false, cts, co, N, d, rfl, by rw [HC.out]; rfl, HLN.out, cin.stored Gr false _, HKp.out _ _ _ HIk.out (((Below.refl _ _).setCell (by show w.heap.size ≤ w.heap.size + 1; omega) _).setCell (by show w.heap.size ≤ w.heap.size + 1; omega) _)⟩, (bel.setCell (by show w.heap.size ≤ w.heap.size + 1; omega) _).setCell (by show w.heap.size ≤ w.heap.size + 1; omega) _⟩

end Go.Proofs.Ythohkokhimdamaa

/-
  The walks of Over's closures, for the sum of Ask.
-/
namespace Go.Proofs.Ythohkokhimdamaa
open Go.RowKit Go.GrainU

set_option maxRecDepth 100000 in
set_option maxHeartbeats 4000000 in
theorem msum_any (C1 : Nat) (S : Except Int Grain.Sm) (k : Nat) (I : Nat → World → Prop) (r : Option Nat) (Nb Bs Bf Bt : Nat) (hB : Beside r Nb I) (i a b : Int) (w : World) (cc : Nat) (hI : I cc w) (hNw : Nb ≤ w.heap.size)
    (cs : w.cell? ⟨Bs, 0, none⟩ = some (.func (.func 12) #[] #[.pointer (some ⟨C1, 0, none⟩)])) (cf : w.cell? ⟨Bf, 0, none⟩ = some (.int .i64 a)) (ct : w.cell? ⟨Bt, 0, none⟩ = some (.int .i64 b))
    (hsum : ∀ (w' : World), I cc w' → Below w.heap.size w w' → Calls Try.prog 12 #[.int .i64 i, .int .i64 a, .int .i64 b, .pointer (some ⟨C1, 0, none⟩)] w' fun e w'' => SPost S I r cc k w' e w'') :
    Calls Try.prog 22 #[.int .i64 i, .pointer (some ⟨Bs, 0, none⟩), .pointer (some ⟨Bf, 0, none⟩), .pointer (some ⟨Bt, 0, none⟩)] w fun e w' => SPost S I r cc k w e w' := by
  have HSum := hide hsum
  have ls : Bs < w.heap.size := World.block_lt_of_cell? w _ cs
  have lf : Bf < w.heap.size := World.block_lt_of_cell? w _ cf
  have lt' : Bt < w.heap.size := World.block_lt_of_cell? w _ ct
  obtain ⟨W, hW⟩ : ∃ W, W = w.alloc (.cells #[.int .i64 0, .int .i64 0, .int .i64 0, .int .i64 0, .int .i64 0, .int .i64 0, .int .i64 0] 54) := ⟨_, rfl⟩
  have bel0 : Below w.heap.size w W := by rw [hW]; exact (Below.refl _ _).alloc (Nat.le_refl _) _
  have F0 : W.heap[w.heap.size]? = some (.cells #[.int .i64 0, .int .i64 0, .int .i64 0, .int .i64 0, .int .i64 0, .int .i64 0, .int .i64 0] 54 (0, 0)) := by rw [hW]; exact heap_alloc_new w _
  have PS := hide (HSum.out W (hB.kept _ _ _ hI (bel0.mono hNw)) bel0)
  have HKp := hide (fun c' w1 w2 (h1 : I c' w1) (h2 : Below w.heap.size w1 w2) => hB.kept c' w1 w2 h1 (h2.mono hNw))
  have HW := hide hW
  have HB := hide hB
  have HNw := hide hNw
  clear hsum hW HSum hB hI hNw
  go_enter Try.func22, Try.ntmps22
  go_wp2_with fail
  rw [← HW.out]
  refine PS.out.mono ?_
  rintro e w1 ⟨hp, b1⟩
  have F1 := bel_block b1 HB.out.row HNw.out F0
  have bw : Bel r w.heap.size w w1 := (Bel.of bel0 r).trans (b1.mono bel0.size)
  obtain ⟨p0, p1, p2, p3, p4, p5, p6⟩ := seven_cells F1
  obtain ⟨f0, f1, f2, f3, f4, f5, f6⟩ := seven_thaw F1
  have l0 : w.heap.size < w1.heap.size := lt_of_block F1
  have HP := hide hp
  clear hp PS HB
  rcases HP.out with ⟨y, J, hy, ho, he⟩ | ⟨J, ho, he, hI2⟩
  · rw [he]
    unfold sumv
    have HO := hide ho
    have HY := hide hy
    clear HP ho he hy
    go_wp2
    exact bodyPost_ret (v := sumv J y) (by simp [sumv, results, Try.results22, go_sem, p0, p1, p2, p3, p4, p5, p6]) rfl ⟨.inl ⟨y, J, HY.out, HO.out, rfl⟩, bw.trans (Bel.of (below_set7 (Below.refl w.heap.size w1) (Nat.le_refl _) _ _ _ _ _ _ _) r)⟩
  · rw [he]
    unfold sumv
    have HO := hide ho
    have HI2 := hide hI2
    clear HP ho he hI2
    go_wp2
    exact bodyPost_ret (v := sumv J 0) (by simp [sumv, results, Try.results22, go_sem, p0, p1, p2, p3, p4, p5, p6]) rfl ⟨.inr ⟨J, HO.out, rfl, HKp.out _ _ _ HI2.out (below_set7 (Below.refl w.heap.size w1) (Nat.le_refl _) _ _ _ _ _ _ _)⟩, bw.trans (Bel.of (below_set7 (Below.refl w.heap.size w1) (Nat.le_refl _) _ _ _ _ _ _ _) r)⟩

set_option maxRecDepth 100000 in
set_option maxHeartbeats 4000000 in
theorem mover1_any (C1 : Nat) (l : List ST) (t : ET) (S : Nat → Except Int Grain.Sm) (K : Nat → Nat) (I : Nat → World → Prop) (r : Option Nat) (Nb Bt Bl Bs : Nat) (hB : Beside r Nb I) (ao : Option Addr) (n cap : Nat) (time : Int) (w : World) (cc : Nat) (hI : I cc w) (hNw : Nb ≤ w.heap.size) (hs : SsIn w ao l) (hin : t.In w) (hn : n = l.length) (hn8 : n ≤ 8)
    (ht0 : 0 ≤ time) (ht1 : time ≤ 1000000) (hr0 : 1 ≤ t.hd.range) (hr1 : t.hd.range ≤ 100000)
    (ct : w.cell? ⟨Bt, 0, none⟩ = some (.int .i64 time)) (hrt : r ≠ some Bt) (cl : w.cell? ⟨Bl, 0, none⟩ = some (.slice ao n cap)) (cs : w.cell? ⟨Bs, 0, none⟩ = some (.func (.func 12) #[] #[.pointer (some ⟨C1, 0, none⟩)]))
    (hS : ∀ i s, S i = .ok s → -9223372036854775808 ≤ s.t ∧ s.t ≤ 9223372036854775807)
    (hsum : ∀ (i : Nat) (w' : World) (c' : Nat), i < n → I c' w' → Bel r w.heap.size w w' → Calls Try.prog 12 #[.int .i64 i, .int .i64 (max 0 (time - t.hd.range)), .int .i64 time, .pointer (some ⟨C1, 0, none⟩)] w' fun e w'' => SPost (S i) I r c' (K i) w' e w'') :
    Calls Try.prog 20 #[eval t, .pointer (some ⟨Bt, 0, none⟩), .pointer (some ⟨Bl, 0, none⟩), .pointer (some ⟨Bs, 0, none⟩)] w fun e w' => GPost (wopt (winT S t.hd l n)) I r cc (winKT K t.hd l n) w e w' := by
  have HSo := hide (hB.solo cc w hI)
  have hrs : r ≠ some Bs := fun e => HSo.out Bs e _ _ cs
  have lt1 : Bt < w.heap.size := World.block_lt_of_cell? w _ ct
  have ll1 : Bl < w.heap.size := World.block_lt_of_cell? w _ cl
  have ls1 : Bs < w.heap.size := World.block_lt_of_cell? w _ cs
  obtain ⟨RR, hRR⟩ : ∃ RR, RR = wopt (winT S t.hd l n) := ⟨_, rfl⟩
  obtain ⟨KK, hKK⟩ : ∃ KK, KK = winKT K t.hd l n := ⟨_, rfl⟩
  have PW : Hid (∀ (V : World) (Bf : Nat), Below w.heap.size w V → V.heap[Bf]? = some (.cells #[.int .i64 (max 0 (time - t.hd.range))] 3 (0, 0)) → w.heap.size ≤ Bf → Calls Try.prog 21 #[.slice ao n cap, eval t, .func (.func 22) #[] #[.pointer (some ⟨Bs, 0, none⟩), .pointer (some ⟨Bf, 0, none⟩), .pointer (some ⟨Bt, 0, none⟩)]] V fun e w' => GPost RR I r cc KK V e w') := by
    intro V Bf bV hf hfl
    rw [hRR, hKK]
    have lf : Bf < V.heap.size := lt_of_block hf
    refine gwin_any l t S K I r Nb Bs Bf Bt hB ao n cap V cc (hB.kept _ _ _ hI (bV.mono hNw)) (Nat.le_trans hNw bV.size) (hs.bel HSo.out (Bel.of bV r)) (ET.In.below bV t hin) hn hn8 hS ?_
    intro i w' c' hi hI' hb
    have hb1 : Bel r w.heap.size w w' := bel_step hb (Bel.of bV r)
    refine msum_any C1 (S i) (K i) I r Nb Bs Bf Bt hB i (max 0 (time - t.hd.range)) time w' c' hI' (Nat.le_trans hNw hb1.size) ((hb1.cell ls1 hrs).trans cs) ?_ ((hb1.cell lt1 hrt).trans ct) ?_
    · rw [hb.cell lf (fun e => by have := hB.row Bf e; omega)]
      simp [World.cell?, hf]
    · intro w'' h1 h2
      exact hsum i w'' c' hi h1 (bel_below h2 hb1)
  rw [← hRR, ← hKK]
  have HKp := hide (fun c' w1 w2 (h1 : I c' w1) (h2 : Below w.heap.size w1 w2) => hB.kept c' w1 w2 h1 (h2.mono hNw))
  have HB := hide hB
  have HNw := hide hNw
  clear hsum hS hs hin hn hB hI hNw hrs hrt hRR hKK
  unfold eval at PW ⊢
  generalize t.hd.ms.length = ml at PW ⊢
  generalize t.hd.bs.length = bl at PW ⊢
  generalize t.kids.length = kl at PW ⊢
  obtain ⟨rg, hrg⟩ : ∃ rg, rg = t.hd.range := ⟨_, rfl⟩
  rw [← hrg] at hr0 hr1 PW ⊢
  have tw : IntKind.i64.wrap (time - rg) = time - rg := by rw [IntKind.wrap_i64]; omega
  obtain ⟨W, hW⟩ : ∃ W, W = (((w.alloc (.cells #[.int .i64 t.hd.kind, .int .i64 t.hd.n, .int .i64 rg, .string t.hd.word, .slice t.sp.ma ml t.sp.mc, .slice t.sp.ba bl t.sp.bc, .slice t.sp.ka kl t.sp.kc] 27)).alloc (.cells #[.bool false, .slice none 0 0] 65)).alloc (.cells #[.int .i64 (max 0 (time - rg))] 3)) := ⟨_, rfl⟩
  have bel0 : Below w.heap.size w W := by rw [hW]; exact (((Below.refl _ _).alloc (Nat.le_refl _) _).alloc (by simp) _).alloc (by simp; omega) _
  have G0 : W.heap[w.heap.size + 1]? = some (.cells #[.bool false, .slice none 0 0] 65 (0, 0)) := by
    rw [hW, Below.heap_alloc _ _ _ (by simp)]
    have := heap_alloc_new (w.alloc (.cells #[.int .i64 t.hd.kind, .int .i64 t.hd.n, .int .i64 rg, .string t.hd.word, .slice t.sp.ma ml t.sp.mc, .slice t.sp.ba bl t.sp.bc, .slice t.sp.ka kl t.sp.kc] 27)) (.cells #[.bool false, .slice none 0 0] 65)
    simpa using this
  have T0 : W.heap[w.heap.size + 1 + 1]? = some (.cells #[.int .i64 (max 0 (time - rg))] 3 (0, 0)) := by
    have := heap_alloc_new ((w.alloc (.cells #[.int .i64 t.hd.kind, .int .i64 t.hd.n, .int .i64 rg, .string t.hd.word, .slice t.sp.ma ml t.sp.mc, .slice t.sp.ba bl t.sp.bc, .slice t.sp.ka kl t.sp.kc] 27)).alloc (.cells #[.bool false, .slice none 0 0] 65)) (.cells #[.int .i64 (max 0 (time - rg))] 3)
    rw [hW]; simpa using this
  have kl1 : (((w.alloc (.cells #[.int .i64 t.hd.kind, .int .i64 t.hd.n, .int .i64 rg, .string t.hd.word, .slice t.sp.ma ml t.sp.mc, .slice t.sp.ba bl t.sp.bc, .slice t.sp.ka kl t.sp.kc] 27)).alloc (.cells #[.bool false, .slice none 0 0] 65)).alloc (.cells #[.int .i64 (max 0 (time - rg))] 3)).cell? ⟨Bl, 0, none⟩ = some (.slice ao n cap) := by
    rw [← hW]; exact (bel0.cell (p := ⟨Bl, 0, none⟩) ll1).trans cl
  have PW1 := hide (PW.out W (w.heap.size + 1 + 1) bel0 T0 (by omega))
  have HW := hide hW
  have HB0 := hide bel0
  clear hrg hW PW T0 bel0
  go_enter Try.func20, Try.ntmps20
  go_wp2_with fail
  rw [← HW.out]
  refine PW1.out.mono ?_
  rintro e w1 ⟨hp, b1⟩
  have G1 := bel_block b1 HB.out.row (Nat.le_trans HNw.out (Nat.le_succ _)) G0
  obtain ⟨t0, t1, t2, t3⟩ := two_cells G1
  have bw : Bel r w.heap.size w w1 := (Bel.of HB0.out r).trans (b1.mono HB0.out.size)
  have HP := hide hp
  clear hp PW1 kl1 G0
  rcases HP.out with ⟨x, hx, ho, he⟩ | ⟨nb2, cts2, co2, N2, d2, he, ho, hN, hC, hI2⟩
  · rw [he]
    have HE3 := hide ho
    have HX := hide hx
    clear HP ho he hx
    go_wp2
    exact bodyPost_ret (v := .tuple #[.agg #[.bool false, .slice none 0 0], .int .i64 x]) (by simp [results, Try.results20, go_sem, t0, t1]) rfl ⟨.inl ⟨x, HX.out, HE3.out, rfl⟩, (bw.setCell (by show w.heap.size ≤ w.heap.size + 1; omega) _).setCell (by show w.heap.size ≤ w.heap.size + 1; omega) _⟩
  · rw [he]
    have HE3 := hide ho
    have HN2 := hide hN
    have HI2 := hide hI2
    clear HP ho he hN hI2
    go_wp2
    exact bodyPost_ret (v := .tuple #[.agg #[.bool nb2, .slice co2 N2 d2], .int .i64 0]) (by simp [results, Try.results20, go_sem, t0, t1]) rfl ⟨.inr ⟨nb2, cts2, co2, N2, d2, rfl, HE3.out, HN2.out, hC.stored G1 nb2 _, HKp.out _ _ _ HI2.out (((Below.refl _ _).setCell (by show w.heap.size ≤ w.heap.size + 1; omega) _).setCell (by show w.heap.size ≤ w.heap.size + 1; omega) _)⟩, (bw.setCell (by show w.heap.size ≤ w.heap.size + 1; omega) _).setCell (by show w.heap.size ≤ w.heap.size + 1; omega) _⟩

set_option maxRecDepth 100000 in
set_option maxHeartbeats 4000000 in
theorem mover_any (C1 : Nat) (l : List ST) (t : ET) (S : Nat → Int → Int → Except Int Grain.Sm) (K : Nat → Int → Int → Nat) (I : Nat → World → Prop) (r : Option Nat) (Nb : Nat) (hB : Beside r Nb I) (ao : Option Addr) (n cap : Nat) (time : Int) (w : World) (cc : Nat) (hI : I cc w) (hNw : Nb ≤ w.heap.size) (hs : SsIn w ao l) (hin : t.In w) (hn : n = l.length) (hn8 : n ≤ 8)
    (hS : ∀ i a s, S i a time = .ok s → -9223372036854775808 ≤ s.t ∧ s.t ≤ 9223372036854775807)
    (hG : ∀ h, winBad h = 0 → ∀ c, overW S l n time h = .ok c → Gd ⟨false, c⟩)
    (hsum : 0 ≤ time → time ≤ 1000000 → ∀ (i : Nat) (a : Int) (w' : World) (c' : Nat), i < n → 0 ≤ a → a ≤ time → I c' w' → Bel r w.heap.size w w' → Calls Try.prog 12 #[.int .i64 i, .int .i64 a, .int .i64 time, .pointer (some ⟨C1, 0, none⟩)] w' fun e w'' => SPost (S i a time) I r c' (K i a time) w' e w'') :
    Calls Try.prog 11 #[.slice ao n cap, eval t, .int .i64 time, .func (.func 12) #[] #[.pointer (some ⟨C1, 0, none⟩)]] w fun e w' => OPost (overE S l n time t.ex) I r cc (overK K l n time t.ex) w e w' := by
  obtain ⟨C, hC⟩ : ∃ C, C = chk t.ex time := ⟨_, rfl⟩
  have PC := hide (fun w' (hb : Below w.heap.size w w') => mcheck_any t time w' (ET.In.below hb t hin))
  rw [← hC] at PC
  have PM : Hid (C = 0 → ∀ (Bt Bl Bs : Nat) (V : World), Below w.heap.size w V → w.heap.size ≤ Bt → V.cell? ⟨Bt, 0, none⟩ = some (.int .i64 time) → V.cell? ⟨Bl, 0, none⟩ = some (.slice ao n cap) → V.cell? ⟨Bs, 0, none⟩ = some (.func (.func 12) #[] #[.pointer (some ⟨C1, 0, none⟩)]) → Calls Try.prog 19 #[eval t, .func (.func 20) #[] #[.pointer (some ⟨Bt, 0, none⟩), .pointer (some ⟨Bl, 0, none⟩), .pointer (some ⟨Bs, 0, none⟩)]] V fun e w' => GPost (evG (overW S l n time) t.ex) I r cc (costG (overC K l n time) t.ex) V e w') := by
    intro h0 Bt Bl Bs V bV hBt ct cl cs
    obtain ⟨hrt, ht0, ht1⟩ := chk_zero (hC.symm.trans h0)
    have hrow2 : ∀ C, r = some C → C < V.heap.size := fun C hC => by have := hB.row C hC; have := bV.size; omega
    have hB2 : Beside r V.heap.size (fun c w' => I c w' ∧ Bel r V.heap.size V w') := ⟨hrow2, fun c w1 w2 h1 h2 => ⟨hB.kept c w1 w2 h1.1 (h2.mono (Nat.le_trans hNw bV.size)), h1.2.trans (Bel.of h2 r)⟩, fun c w1 h1 => hB.solo c w1 h1.1⟩
    have hI2 : I cc V := hB.kept _ _ _ hI (bV.mono hNw)
    have hSoV := hB.solo cc V hI2
    have hrBt : r ≠ some Bt := fun e => by have := hB.row Bt e; omega
    have lBt : Bt < V.heap.size := World.block_lt_of_cell? V _ ct
    have lBl : Bl < V.heap.size := World.block_lt_of_cell? V _ cl
    have lBs : Bs < V.heap.size := World.block_lt_of_cell? V _ cs
    have hrBl : r ≠ some Bl := fun e => hSoV Bl e _ _ cl
    have hrBs : r ≠ some Bs := fun e => hSoV Bs e _ _ cs
    refine (gcomes_any (overW S l n time) (overC K l n time) (fun c w' => I c w' ∧ Bel r V.heap.size V w') r V.heap.size Bt Bl Bs hB2 hG ?_ t V cc ⟨hI2, Bel.refl _ _ _⟩ (Nat.le_refl _) (ET.In.below bV t hin) hrt).mono ?_
    · intro t' w' c' hI' hN' hin' hwb
      obtain ⟨_, _, _, hr0, hr1⟩ := winBad_ok hwb
      exact mover1_any C1 l t' (fun i => S i (max 0 (time - t'.hd.range)) time) (fun i => K i (max 0 (time - t'.hd.range)) time) (fun c w' => I c w' ∧ Bel r V.heap.size V w') r V.heap.size Bt Bl Bs hB2 ao n cap time w' c' hI' hN' ((hs.bel (hB.solo cc w hI) (Bel.of bV r)).bel hSoV hI'.2) hin' hn hn8 ht0 ht1 hr0 hr1 ((hI'.2.cell lBt hrBt).trans ct) hrBt ((hI'.2.cell lBl hrBl).trans cl) ((hI'.2.cell lBs hrBs).trans cs) (fun i s => hS i _ s) (fun i w'' c'' hi hI'' hb => by
        refine (hsum ht0 ht1 i (max 0 (time - t'.hd.range)) w'' c'' hi (by omega) (by omega) hI''.1 (bel_step hI''.2 (Bel.of bV r))).mono ?_
        intro e w3 hp
        exact spost_with hp hI''.2)
    · intro e w' hp
      exact gpost_of hp
  obtain ⟨EE, hEE⟩ : ∃ EE, EE = evG (overW S l n time) t.ex := ⟨_, rfl⟩
  obtain ⟨KK, hKK⟩ : ∃ KK, KK = costG (overC K l n time) t.ex := ⟨_, rfl⟩
  have HR : Hid (overE S l n time t.ex = if C = 0 then EE else .error C) := by show _ = _; rw [hC, hEE]; rfl
  have HK : Hid (overK K l n time t.ex = KK) := by show _ = _; rw [hKK]; rfl
  rw [HK.out]
  rw [← hEE, ← hKK] at PM
  generalize overE S l n time t.ex = RES at HR ⊢
  have HKp := hide (fun c' w1 w2 (h1 : I c' w1) (h2 : Below w.heap.size w1 w2) => hB.kept c' w1 w2 h1 (h2.mono hNw))
  have HB := hide hB
  have HNw := hide hNw
  clear hsum hS hs hin hn hB hI hNw hG hC HK hEE hKK
  unfold eval at PC PM ⊢
  generalize t.hd.ms.length = ml at PC PM ⊢
  generalize t.hd.bs.length = bl at PC PM ⊢
  generalize t.kids.length = kl at PC PM ⊢
  obtain ⟨W, hW⟩ : ∃ W, W = (((w.alloc (.cells #[.slice ao n cap] 51)).alloc (.cells #[.int .i64 t.hd.kind, .int .i64 t.hd.n, .int .i64 t.hd.range, .string t.hd.word, .slice t.sp.ma ml t.sp.mc, .slice t.sp.ba bl t.sp.bc, .slice t.sp.ka kl t.sp.kc] 27)).alloc (.cells #[.int .i64 time] 3)).alloc (.cells #[.func (.func 12) #[] #[.pointer (some ⟨C1, 0, none⟩)]] 57) := ⟨_, rfl⟩
  have bel0 : Below w.heap.size w W := by rw [hW]; exact ((((Below.refl _ _).alloc (Nat.le_refl _) _).alloc (by simp) _).alloc (by simp; omega) _).alloc (by simp; omega) _
  have heq : ∀ w' : World, Sem.run Try.prog (binOp BinOp.eql 57 (.func (.func 12) #[] #[.pointer (some ⟨C1, 0, none⟩)]) .nilFunc) w' = .ok (.bool false) w' := fun w' => by kernel_rfl
  have A0 : W.heap[w.heap.size]? = some (.cells #[.slice ao n cap] 51 (0, 0)) := by rw [hW, Below.heap_alloc _ _ _ (by simp; omega), Below.heap_alloc _ _ _ (by simp; omega), Below.heap_alloc _ _ _ (by simp)]; exact heap_alloc_new w _
  have F0 : W.heap[w.heap.size + 1]? = some (.cells #[.int .i64 t.hd.kind, .int .i64 t.hd.n, .int .i64 t.hd.range, .string t.hd.word, .slice t.sp.ma ml t.sp.mc, .slice t.sp.ba bl t.sp.bc, .slice t.sp.ka kl t.sp.kc] 27 (0, 0)) := by
    rw [hW, Below.heap_alloc _ _ _ (by simp), Below.heap_alloc _ _ _ (by simp)]
    have := heap_alloc_new (w.alloc (.cells #[.slice ao n cap] 51)) (.cells #[.int .i64 t.hd.kind, .int .i64 t.hd.n, .int .i64 t.hd.range, .string t.hd.word, .slice t.sp.ma ml t.sp.mc, .slice t.sp.ba bl t.sp.bc, .slice t.sp.ka kl t.sp.kc] 27)
    simpa using this
  have T0 : W.heap[w.heap.size + 1 + 1]? = some (.cells #[.int .i64 time] 3 (0, 0)) := by
    rw [hW, Below.heap_alloc _ _ _ (by simp)]
    have := heap_alloc_new ((w.alloc (.cells #[.slice ao n cap] 51)).alloc (.cells #[.int .i64 t.hd.kind, .int .i64 t.hd.n, .int .i64 t.hd.range, .string t.hd.word, .slice t.sp.ma ml t.sp.mc, .slice t.sp.ba bl t.sp.bc, .slice t.sp.ka kl t.sp.kc] 27)) (.cells #[.int .i64 time] 3)
    simpa using this
  have S0 : W.heap[w.heap.size + 1 + 1 + 1]? = some (.cells #[.func (.func 12) #[] #[.pointer (some ⟨C1, 0, none⟩)]] 57 (0, 0)) := by
    have := heap_alloc_new (((w.alloc (.cells #[.slice ao n cap] 51)).alloc (.cells #[.int .i64 t.hd.kind, .int .i64 t.hd.n, .int .i64 t.hd.range, .string t.hd.word, .slice t.sp.ma ml t.sp.mc, .slice t.sp.ba bl t.sp.bc, .slice t.sp.ka kl t.sp.kc] 27)).alloc (.cells #[.int .i64 time] 3)) (.cells #[.func (.func 12) #[] #[.pointer (some ⟨C1, 0, none⟩)]] 57)
    rw [hW]; simpa using this
  have HW := hide hW
  clear hW
  go_enter Try.func11, Try.ntmps11
  go_wp2_with fail
  rw [← HW.out]
  refine (PC.out W bel0).mono ?_
  rintro e w2 ⟨rfl, b2⟩
  have A2 := below_block b2 A0
  have F2 := below_block b2 F0
  have T2 := below_block b2 T0
  have S2 := below_block b2 S0
  have bX : Below w.heap.size w w2 := bel0.trans (b2.mono bel0.size)
  clear PC A0 F0 T0 S0
  by_cases h1 : C = 0
  · subst h1
    have k1 : w2.cell? ⟨w.heap.size, 0, none⟩ = some (.slice ao n cap) := by simp [World.cell?, A2]
    have k2 : w2.cell? ⟨w.heap.size + 1 + 1, 0, none⟩ = some (.int .i64 time) := by simp [World.cell?, T2]
    have k3 : w2.cell? ⟨w.heap.size + 1 + 1 + 1, 0, none⟩ = some (.func (.func 12) #[] #[.pointer (some ⟨C1, 0, none⟩)]) := by simp [World.cell?, S2]
    have HR2 : Hid (RES = EE) := by show _ = _; rw [HR.out, if_pos rfl]
    have PM2 := hide (PM.out rfl (w.heap.size + 1 + 1) w.heap.size (w.heap.size + 1 + 1 + 1) w2 bX (by omega) k2 k1 k3)
    obtain ⟨p0, p1, p2, p3, p4, p5, p6⟩ := seven_cells F2
    clear HR PM
    go_wp2_with fail
    refine PM2.out.mono ?_
    rintro e w3 ⟨hp, b3⟩
    have bY : Bel r w.heap.size w w3 := (Bel.of bX r).trans (b3.mono bX.size)
    have HP := hide hp
    clear hp PM2 p0 p1 p2 p3 p4 p5 p6 k1 k2 k3 A2 F2 T2 S2
    rcases HP.out with ⟨x, hx, ho, he⟩ | ⟨nb, cts, co, N, d, he, ho, hN, hC, hI2⟩
    · rw [he]
      have HE2 : Hid (RES = .error x) := by show _ = _; rw [HR2.out, ho]
      have HX := hide hx
      have hxb : (x != 0) = true := by simpa using hx
      clear HP ho he HR2 hx
      go_wp2
      go_ret2
      exact ⟨.inl ⟨x, HX.out, HE2.out, rfl⟩, bY.alloc bY.size _⟩
    · rw [he]
      have HE2 : Hid (RES = .ok ⟨nb, cls cts⟩) := by show _ = _; rw [HR2.out, ho]
      have HN := hide hN
      have bz : Below w3.heap.size w3 (w3.alloc (.cells #[.bool nb, .slice co N d] 65)) := (Below.refl _ _).alloc (Nat.le_refl _) _
      have hC2 := hC.below bz
      have HI2 := hide (HKp.out _ _ _ hI2 (bz.mono bY.size))
      clear HP ho he HR2 hN hI2
      go_wp2
      go_ret2
      exact ⟨.inr ⟨nb, cts, co, N, d, rfl, HE2.out, HN.out, hC2, HI2.out⟩, bY.alloc bY.size _⟩
  · have HR2 : Hid (RES = .error C) := by show _ = _; rw [HR.out, if_neg h1]
    have hd : (C != 0) = true := by simpa using h1
    have HX := hide h1
    clear h1 HR PM
    go_wp2
    go_ret2
    exact ⟨.inl ⟨C, HX.out, HR2.out, rfl⟩, Bel.of bX r⟩
end Go.Proofs.Ythohkokhimdamaa

/-
  The walk of Ask's sum.
-/
namespace Go.Proofs.Ythohkokhimdamaa
open Go.RowKit Go.GrainU

set_option maxRecDepth 100000 in
set_option maxHeartbeats 4000000 in
theorem masksum_any (l : List LT) (ao : Option Addr) (n cap C1 i : Nat) (a b : Int) (w : World) (k1 : w.cell? ⟨C1, 0, none⟩ = some (.slice ao n cap)) (hs : Seg w ao (tcells l)) (hl : LnsIn w l) (hR : ∀ x ∈ l, LnRt x) (hn : n = l.length) (hi : i < n) (hab : a ≤ b) :
    Calls Try.prog 12 #[.int .i64 i, .int .i64 a, .int .i64 b, .pointer (some ⟨C1, 0, none⟩)] w fun e w' => e = .returned (sumv (Grain.of (Grain.win (lt l i).smp a b)) 0) ∧ Below w.heap.size w w' := by
  have hkl : i < l.length := by rw [← hn]; exact hi
  obtain ⟨B, off, rfl, hb, hcell⟩ := seg_line hs hkl
  obtain ⟨x, hx⟩ : ∃ x, x = lt l i := ⟨_, rfl⟩
  obtain ⟨pn, hpn⟩ : ∃ pn, pn = x.smp.length := ⟨_, rfl⟩
  have okx : LnOk w x := by rw [hx]; exact hl _ (lt_mem hkl)
  have rtx : LnRt x := by rw [hx]; exact hR _ (lt_mem hkl)
  have c1 : w.cell? ⟨B, off + i * 2 + 1, none⟩ = some (.slice x.pa pn x.pc) := by rw [hpn, hx]; exact (hcell i hkl).2
  rw [← hx]
  have lc : C1 < w.heap.size := World.block_lt_of_cell? w _ k1
  have i2 : (i : Int) < (n : Int) := by omega
  have HPN := hide hpn
  clear hcell hs hl hR hn hx hpn hkl
  obtain ⟨q1, hq1, bd1⟩ := bdry rtx.smp a
  obtain ⟨q2, hq2, bd2⟩ := bdry rtx.smp b
  obtain ⟨h12, hcut⟩ := win_cut hab hq1 hq2 bd1 bd2
  have hp5 : pn ≤ 500 := by rw [HPN.out]; exact rtx.smp.few
  have hpc := okx.cap
  rw [← HPN.out] at hq1 hq2 bd1 bd2
  obtain ⟨so, hso⟩ : ∃ so, so = cutA x.pa x.pc q1 := ⟨_, rfl⟩
  obtain ⟨sl, hsl⟩ : ∃ sl, sl = q2 - q1 := ⟨_, rfl⟩
  obtain ⟨sd, hsd⟩ : ∃ sd, sd = x.pc - q1 := ⟨_, rfl⟩
  have hq2c : q2 ≤ x.pc := by have := hpc.1; rw [← HPN.out] at this; omega
  have segC : Seg w so (scells (Grain.win x.smp a b)) := by
    rw [hso, ← hcut]
    exact seg_cut okx.smp hpc.1 h12 (by rw [← HPN.out]; exact hq2)
  have hlen : sl = (Grain.win x.smp a b).length := by
    rw [hsl, ← hcut, List.length_drop, List.length_take, ← HPN.out]; omega
  have hsl1 : ∀ w, Sem.run Try.prog (Instr.slice 36 (.slice x.pa pn x.pc) (some (.int .i64 q1)) (some (.int .i64 q2)) none) w = .ok (.slice so sl sd) w := by
    intro w
    rw [run_slice_lh (P := Try.prog) (t := 36) (ht := by kernel_rfl) (a := x.pa) (len := pn) (cap := x.pc) (kl := .i64) (kh := .i64) (l := (q1 : Int)) (h := (q2 : Int)) (h0 := by omega) (h1 := by omega) (h2 := by omega)]
    rw [hso, hsl, hsd]
    simp [sliced, cutA, go_sem]
  have hsl2 : ∀ w, Sem.run Try.prog (Instr.sliceAt 36 (.slice x.pa pn x.pc) (some (.int .i64 q1)) (some (.int .i64 q2)) none) w = .ok (.slice so sl sd) w := by
    intro w
    rw [run_sliceAt_slice (P := Try.prog) (t := 36) (h := by kernel_rfl)]
    exact hsl1 w
  have HSL := hide hlen
  have sl5 : sl ≤ 1152921504606846975 := by omega
  have hp6 : pn ≤ 1000000 := by omega
  have HPa : Hid (∀ w', Below w.heap.size w w' → Calls Try.prog 14 #[.slice x.pa pn x.pc, .int .i64 a] w' fun e w'' => e = .returned (.int .i64 q1) ∧ Below w'.heap.size w' w'') := fun w' hb' => mahead_any x.smp a x.pa pn x.pc q1 w' (okx.smp.below hb') HPN.out hp6 hq1 bd1
  have HPb : Hid (∀ w', Below w.heap.size w w' → Calls Try.prog 14 #[.slice x.pa pn x.pc, .int .i64 b] w' fun e w'' => e = .returned (.int .i64 q2) ∧ Below w'.heap.size w' w'') := fun w' hb' => mahead_any x.smp b x.pa pn x.pc q2 w' (okx.smp.below hb') HPN.out hp6 hq2 bd2
  have HPc : Hid (∀ w', Below w.heap.size w w' → Calls Try.prog 13 #[.slice so sl sd] w' fun e w'' => ∃ J : Grain.Sm, Hid (J = Grain.of (Grain.win x.smp a b)) ∧ e = .returned (.agg #[.int .i64 J.c, .int .i64 J.t, .int .i64 J.mn, .int .i64 J.mx, .int .i64 J.f, .int .i64 J.l, .int .i64 J.r]) ∧ Below w'.heap.size w' w'') := fun w' hb' => of_len _ so sl sd w' (segC.below hb') HSL.out sl5
  clear hsl hsd hso hlen bd1 bd2 hq1 hq2 h12 hcut hpc hq2c hp5 segC okx rtx
  obtain ⟨W, hW⟩ : ∃ W, W = w.alloc (.cells #[.int .i64 0, .int .i64 0, .int .i64 0, .int .i64 0, .int .i64 0, .int .i64 0, .int .i64 0] 54) := ⟨_, rfl⟩
  have bel0 : Below w.heap.size w W := by rw [hW]; exact (Below.refl _ _).alloc (Nat.le_refl _) _
  have F0 : W.heap[w.heap.size]? = some (.cells #[.int .i64 0, .int .i64 0, .int .i64 0, .int .i64 0, .int .i64 0, .int .i64 0, .int .i64 0] 54 (0, 0)) := by rw [hW]; exact heap_alloc_new w _
  have HW := hide hW
  clear hW
  go_enter Try.func12, Try.ntmps12
  go_wp2_with fail
  rw [← HW.out]
  refine (HPa.out W bel0).mono ?_
  rintro e w1 ⟨rfl, b1⟩
  have e1 := below_step b1 bel0
  have F1 := below_block b1 F0
  clear k1 c1 F0 b1 HPa
  go_wp2_with fail
  refine (HPb.out w1 e1).mono ?_
  rintro e w2 ⟨rfl, b2⟩
  have e2 := below_step b2 e1
  have F2 := below_block b2 F1
  clear F1 b2 HPb e1
  go_wp2_with fail
  refine (HPc.out w2 e2).mono ?_
  rintro e w3 ⟨J, HJ, rfl, b3⟩
  have e3 := below_step b3 e2
  have F3 := below_block b3 F2
  clear F2 b3 HPc e2
  obtain ⟨p0, p1, p2, p3, p4, p5, p6⟩ := seven_cells F3
  obtain ⟨f0, f1, f2, f3, f4, f5, f6⟩ := seven_thaw F3
  go_wp2
  exact bodyPost_ret (v := sumv J 0) (by simp [sumv, results, Try.results12, go_sem, p0, p1, p2, p3, p4, p5, p6]) rfl ⟨by rw [HJ.out], below_set7 e3 (Nat.le_refl _) _ _ _ _ _ _ _⟩

end Go.Proofs.Ythohkokhimdamaa

/-
  The walk of Ask.
-/
namespace Go.GrainU
open Go.RowKit

/-- what is answered of what comes -/
def askOf (o : Option Mn) : List Cl × Int := match o with | none => ([], 3) | some m => (m.cs, 0)

theorem wrLF_zero (l : List Ln) (n : Nat) : ∀ k, (wrLF l n k).1 = 0 → ∀ j, k ≤ j → j < k + n → lnBad l j = 0 := by
  induction n with
  | zero => intro k _ j h1 h2; omega
  | succ n ih =>
    intro k h j h1 h2
    by_cases hb : lnBad l k = 0
    · rw [wrLF_ok hb] at h
      rcases Nat.lt_or_ge k j with h3 | h3
      · exact ih (k + 1) h j h3 (by omega)
      · rw [show j = k from by omega]; exact hb
    · rw [wrLF_no hb] at h; exact absurd h hb

theorem wrLn_zero {l : List Ln} (h : (wrLn l).1 = 0) : l.length ≤ 8 ∧ ∀ k, k < l.length → lnBad l k = 0 := by
  unfold wrLn at h
  by_cases h8 : 8 < l.length
  · rw [if_pos h8] at h; simp at h
  · rw [if_neg h8] at h
    exact ⟨by omega, fun k hk => wrLF_zero l l.length 0 h k (Nat.zero_le _) (by omega)⟩

theorem lnBad_zero {l : List Ln} {k : Nat} (h : lnBad l k = 0) : wrongS (lser l k) = 0 ∧ (Grain.wrong (lsmp l k)).1 = 0 := by
  unfold lnBad at h
  by_cases h1 : lnAlone (lser l k, lsmp l k) = 0
  · unfold lnAlone at h1
    by_cases h2 : wrongS (lser l k) = 0
    · rw [if_pos h2] at h1; exact ⟨h2, h1⟩
    · rw [if_neg h2] at h1; exact absurd h1 h2
  · rw [if_neg h1] at h; exact absurd h h1

theorem wrongS_len {s : Lb} (h : wrongS s = 0) : s.length ≤ 4 := by
  unfold wrongS at h
  by_cases h4 : 4 < s.length
  · rw [if_pos h4] at h; simp at h
  · omega

theorem right_lines {l : List LT} (h : (wrLn (lns l)).1 = 0) : l.length ≤ 8 ∧ ∀ x ∈ l, LnRt x := by
  obtain ⟨h8, hk⟩ := wrLn_zero h
  rw [lns_len] at h8 hk
  refine ⟨h8, fun x hx => ?_⟩
  obtain ⟨k, hk', rfl⟩ := List.mem_iff_getElem.1 hx
  have hb := lnBad_zero (hk k hk')
  rw [lser_lt hk', lsmp_lt hk'] at hb
  have e : lt l k = l[k] := by simp [lt, List.getD, List.getElem?_eq_getElem hk']
  rw [e] at hb
  exact ⟨wrongS_len hb.1, Grain.right_of hb.2⟩

/-- the series of lines, as they lie there -/
def sts (l : List LT) : List ST := l.map fun x => ⟨x.ser, x.sa, x.sc⟩

theorem sts_len (l : List LT) : (sts l).length = l.length := by simp [sts]
theorem st_sts {l : List LT} {k : Nat} (hk : k < l.length) : st (sts l) k = ⟨(lt l k).ser, (lt l k).sa, (lt l k).sc⟩ := by
  simp [st, sts, lt, List.getD, List.getElem?_eq_getElem hk]

/-- the row of the first k series, and what is made behind them -/
def srow (l : List LT) (n k : Nat) : List Value := hcells (sts (l.take k)) ++ List.replicate (n - k) (.slice none 0 0)

theorem hcells_append (a b : List ST) : hcells (a ++ b) = hcells a ++ hcells b := by
  induction a with
  | nil => rfl
  | cons x r ih => simp [hcells, ih]

theorem srow_set {l : List LT} {n k : Nat} (hk : k < l.length) (hn : k < n) : (srow l n k).set k (.slice (lt l k).sa (lt l k).ser.length (lt l k).sc) = srow l n (k + 1) := by
  have h1 : (hcells (sts (l.take k))).length = k := by rw [hcells_length, sts_len, List.length_take]; omega
  unfold srow
  rw [List.set_append_right _ _ (by omega), h1, Nat.sub_self, show n - k = (n - (k + 1)) + 1 from by omega, List.replicate_succ, List.set_cons_zero, take_lt hk]
  simp only [sts, List.map_append, List.map_cons, List.map_nil]
  rw [hcells_append]
  simp [hcells]

theorem srow_at {l : List LT} {n k : Nat} (hk : k < l.length) (hn : k < n) : (srow l n k)[k]? = some (.slice none 0 0) := by
  have h1 : (hcells (sts (l.take k))).length = k := by rw [hcells_length, sts_len, List.length_take]; omega
  unfold srow
  rw [List.getElem?_append_right (by omega), h1, Nat.sub_self, List.getElem?_replicate, if_pos (by omega)]

theorem srow_all {l : List LT} {n : Nat} (hn : n = l.length) : srow l n n = hcells (sts l) := by
  unfold srow
  rw [List.take_of_length_le (by omega), Nat.sub_self]; simp

/-- no time is below 0 -/
theorem win_max {s : List (Int × Int)} (h : Grain.Right s) (a b : Int) : Grain.win s (max 0 a) b = Grain.win s a b := by
  unfold Grain.win
  apply List.filter_congr
  intro x hx
  obtain ⟨q, hq, rfl⟩ := List.mem_iff_getElem.1 hx
  have := h.rng q hq
  simp [Grain.tm, List.getD, List.getElem?_eq_getElem hq] at this
  simp only [decide_eq_decide]
  omega

/-- what Ask's sum comes to -/
def askS (l : List LT) (i : Nat) (a b : Int) : Except Int Grain.Sm := .ok (Grain.of (Grain.win (lt l i).smp a b))

theorem winT_lines {l : List LT} (hR : ∀ x ∈ l, LnRt x) (h : Hd) (time : Int) : ∀ k, k ≤ l.length → winT (fun i => askS l i (max 0 (time - h.range)) time) h (sts l) k = .ok (winC (lns (l.take k)) h time) := by
  intro k
  induction k with
  | zero => intro _; rfl
  | succ k ih =>
    intro hk
    have hk' : k < l.length := by omega
    have hx : winX (lt l k).ln h time = if says (lt l k).ser h.ms = true then (if (valP h.word (Grain.of (Grain.win (lt l k).smp (time - h.range) time))).2 = true then [((lt l k).ser, (valP h.word (Grain.of (Grain.win (lt l k).smp (time - h.range) time))).1)] else []) else [] := rfl
    rw [winT, ih (by omega), st_sts hk', lns_take hk', winC_append]
    simp only [askS]
    rw [win_max (hR _ (lt_mem hk')).smp]
    simp only [winC, List.append_nil]
    rw [hx]
    by_cases e : says (lt l k).ser h.ms = true
    · rw [if_pos e, if_pos e]
    · rw [if_neg e, if_neg e]; simp

theorem overW_lines {l : List LT} (hR : ∀ x ∈ l, LnRt x) (time : Int) : overW (askS l) (sts l) l.length time = fun h => .ok (winC (lns l) h time) := by
  funext h
  unfold overW
  rw [winT_lines hR h time l.length (Nat.le_refl _), List.take_of_length_le (Nat.le_refl _)]

theorem overE_lines {l : List LT} (hR : ∀ x ∈ l, LnRt x) (time : Int) (e : Ex) : overE (askS l) (sts l) l.length time e = if chk e time = 0 then exc (ev (lns l) time e) else .error (chk e time) := by
  unfold overE
  rw [overW_lines hR, evg_ev]

theorem ask_over {l : List LT} (h0 : (wrLn (lns l)).1 = 0) (time : Int) (e : Ex) : (∀ x, overE (askS l) (sts l) l.length time e = .error x → GrainU.ask (lns l) e time = ([], x)) ∧ (∀ m, overE (askS l) (sts l) l.length time e = .ok m → GrainU.ask (lns l) e time = (m.cs, 0)) := by
  have hR := (right_lines h0).2
  rw [overE_lines hR]
  unfold GrainU.ask
  rw [if_pos h0]
  by_cases h1 : chk e time = 0
  · rw [if_pos h1, if_pos h1]
    cases ev (lns l) time e with
    | none => exact ⟨fun x hx => by simp [exc] at hx; rw [hx], fun m hm => by simp [exc] at hm⟩
    | some q => exact ⟨fun x hx => by simp [exc] at hx, fun m hm => by simp [exc] at hm; rw [hm]⟩
  · rw [if_neg h1, if_neg h1]
    exact ⟨fun x hx => by injection hx with hx; rw [hx], fun m hm => by cases hm⟩

end Go.GrainU
namespace Go.Proofs.Ythohkokhimdamaa
open Go.RowKit Go.GrainU

/-- Over, as Ask asks it -/
theorem maskover_any (l : List LT) (t : ET) (time : Int) (ao so : Option Addr) (n cap sc C1 : Nat) (w : World) (h0 : (wrLn (lns l)).1 = 0) (k1 : w.cell? ⟨C1, 0, none⟩ = some (.slice ao n cap)) (hs : Seg w ao (tcells l)) (hl : LnsIn w l) (hso : Seg w so (hcells (sts l))) (hin : t.In w) (hn : n = l.length) :
    Calls Try.prog 11 #[.slice so n sc, eval t, .int .i64 time, .func (.func 12) #[] #[.pointer (some ⟨C1, 0, none⟩)]] w fun e w' => ∃ cts co N d, e = .returned (.tuple #[.slice co N d, .int .i64 (GrainU.ask (lns l) t.ex time).2]) ∧ cls cts = (GrainU.ask (lns l) t.ex time).1 ∧ N = cts.length ∧ CsIn w' co cts ∧ Below w.heap.size w w' := by
  obtain ⟨h8, hR⟩ := right_lines h0
  have lc : C1 < w.heap.size := World.block_lt_of_cell? w _ k1
  have hB : Beside none w.heap.size (fun _ w' => Below w.heap.size w w') := ⟨fun C h => (by cases h), fun c w1 w2 (a : Below _ _ _) b => a.trans b, fun c w1 _ => Solo.no w1⟩
  have hSs : SsIn w so (sts l) := by
    refine ⟨hso, fun x hx => ?_, fun x hx => ?_, fun x hx => ?_⟩
    · obtain ⟨y, hy, rfl⟩ := List.mem_map.1 hx; exact (hl y hy).ser
    · obtain ⟨y, hy, rfl⟩ := List.mem_map.1 hx; exact (hl y hy).nil
    · obtain ⟨y, hy, rfl⟩ := List.mem_map.1 hx; exact (hR y hy).ser
  have hgd : ∀ h, winBad h = 0 → ∀ c, overW (askS l) (sts l) n time h = .ok c → Gd ⟨false, c⟩ := by
    intro h _ c hc
    rw [hn, overW_lines hR] at hc
    injection hc with hc
    rw [← hc]
    exact gd_win (l := lns l) (fun x hx => by
      obtain ⟨y, hy, rfl⟩ := List.mem_map.1 hx
      exact ⟨(hR y hy).ser, (hR y hy).smp⟩) (by rw [lns_len]; exact h8) h time
  have hS : ∀ i a s, askS l i a time = .ok s → -9223372036854775808 ≤ s.t ∧ s.t ≤ 9223372036854775807 := by
    intro i a s hs'
    unfold askS at hs'
    injection hs' with hs'
    have hx : Grain.Right (lt l i).smp := by
      by_cases hi : i < l.length
      · exact (hR _ (lt_mem hi)).smp
      · have : (lt l i).smp = [] := by simp [lt, lt0, List.getD, List.getElem?_eq_none (Nat.le_of_not_lt hi)]
        rw [this]
        exact ⟨by simp, fun k hk => by simp at hk, fun k hk => by simp at hk⟩
    have hl5 : (Grain.win (lt l i).smp a time).length ≤ 500 := Nat.le_trans (Grain.win_len _ _ _) hx.few
    have h1 := (of_ok (Grain_win_val hx a time) hl5).t
    rw [hs'] at h1
    omega
  refine (mover_any C1 (sts l) t (askS l) (fun _ _ _ => 0) (fun _ w' => Below w.heap.size w w') none w.heap.size hB so n sc time w 0 (Below.refl _ _) (Nat.le_refl _) hSs hin (by rw [sts_len]; exact hn) (by rw [hn]; exact h8) hS hgd ?_).mono ?_
  · intro _ _ i a w' c' hi _ ha hI _
    refine (masksum_any l ao n cap C1 i a time w' ((hI.cell (p := ⟨C1, 0, none⟩) lc).trans k1) (hs.below hI) (hl.below hI) hR hn hi ha).mono ?_
    rintro e w2 ⟨rfl, b2⟩
    exact ⟨.inr ⟨_, rfl, rfl, below_step b2 hI⟩, Bel.of b2 none⟩
  · rintro e w' ⟨hp, hb⟩
    rw [hn] at hp
    obtain ⟨a1, a2⟩ := ask_over h0 time t.ex
    rcases hp with ⟨x, hx, ho, rfl⟩ | ⟨nb, cts, co, M, d, rfl, ho, hM, hC, _⟩
    · have := a1 x ho
      exact ⟨[], none, 0, 0, by rw [this], by rw [this]; rfl, rfl, ⟨.inl rfl, fun c hc => by cases hc⟩, hb.toBelow⟩
    · have := a2 _ ho
      exact ⟨cts, co, M, d, by rw [this], by rw [this], hM, hC, hb.toBelow⟩

set_option maxRecDepth 100000 in
set_option maxHeartbeats 4000000 in
theorem mask_any (l : List LT) (t : ET) (time : Int) (ao : Option Addr) (n cap : Nat) (w : World) (hs : Seg w ao (tcells l)) (hl : LnsIn w l) (hin : t.In w) (hn : n = l.length) :
    Calls Try.prog 5 #[.slice ao n cap, eval t, .int .i64 time] w fun e w' => ∃ cts co N d, e = .returned (.tuple #[.slice co N d, .int .i64 (GrainU.ask (lns l) t.ex time).2]) ∧ cls cts = (GrainU.ask (lns l) t.ex time).1 ∧ N = cts.length ∧ CsIn w' co cts ∧ Below w.heap.size w w' := by
  obtain ⟨i0, hi, hz0, hz1, hz2⟩ := info_parts (P := Try.prog) (e := 35) (z := .slice none 0 0) (size := 1) (bytes := 24) (by kernel_rfl)
  obtain ⟨E, hE⟩ : ∃ E, E = (wrLn (lns l)).1 := ⟨_, rfl⟩
  obtain ⟨A, hA⟩ : ∃ A, A = (wrLn (lns l)).2 := ⟨_, rfl⟩
  obtain ⟨R, hR⟩ : ∃ R, R = GrainU.ask (lns l) t.ex time := ⟨_, rfl⟩
  have HR : Hid (E ≠ 0 → R = ([], E)) := by
    intro h
    rw [hR]
    unfold GrainU.ask
    rw [if_neg (by rw [← hE]; exact h), ← hE]
  have PW := hide (fun w' (hb : Below w.heap.size w w') => mwrong_any l ao n cap w' (hs.below hb) (hl.below hb) hn)
  rw [← hE, ← hA] at PW
  have PO := hide (fun (h0 : E = 0) (so : Option Addr) (sc C1 : Nat) w' (hb : Below w.heap.size w w') (k1 : w'.cell? ⟨C1, 0, none⟩ = some (.slice ao n cap)) (hso : Seg w' so (hcells (sts l))) => maskover_any l t time ao so n cap sc C1 w' (hE.symm.trans h0) k1 (hs.below hb) (hl.below hb) hso (ET.In.below hb t hin) hn)
  rw [← hR] at PO ⊢
  have H8 : Hid (E = 0 → n ≤ 8) := fun h => by rw [hn]; exact (right_lines (hE.symm.trans h)).1
  have HN := hide hn
  have HS := hide hs
  clear hR hE hA hs hl hin hn
  unfold eval at PO ⊢
  generalize t.hd.ms.length = ml at PO ⊢
  generalize t.hd.bs.length = bl at PO ⊢
  generalize t.kids.length = kl at PO ⊢
  obtain ⟨W, hW⟩ : ∃ W, W = (w.alloc (.cells #[.slice ao n cap] 22)).alloc (.cells #[.int .i64 t.hd.kind, .int .i64 t.hd.n, .int .i64 t.hd.range, .string t.hd.word, .slice t.sp.ma ml t.sp.mc, .slice t.sp.ba bl t.sp.bc, .slice t.sp.ka kl t.sp.kc] 27) := ⟨_, rfl⟩
  have bel0 : Below w.heap.size w W := by rw [hW]; exact ((Below.refl _ _).alloc (Nat.le_refl _) _).alloc (by simp) _
  have A0 : W.heap[w.heap.size]? = some (.cells #[.slice ao n cap] 22 (0, 0)) := by rw [hW, Below.heap_alloc _ _ _ (by simp)]; exact heap_alloc_new w _
  have F0 : W.heap[w.heap.size + 1]? = some (.cells #[.int .i64 t.hd.kind, .int .i64 t.hd.n, .int .i64 t.hd.range, .string t.hd.word, .slice t.sp.ma ml t.sp.mc, .slice t.sp.ba bl t.sp.bc, .slice t.sp.ka kl t.sp.kc] 27 (0, 0)) := by
    have := heap_alloc_new (w.alloc (.cells #[.slice ao n cap] 22)) (.cells #[.int .i64 t.hd.kind, .int .i64 t.hd.n, .int .i64 t.hd.range, .string t.hd.word, .slice t.sp.ma ml t.sp.mc, .slice t.sp.ba bl t.sp.bc, .slice t.sp.ka kl t.sp.kc] 27)
    rw [hW]; simpa using this
  have HW := hide hW
  clear hW
  go_enter Try.func5, Try.ntmps5
  go_wp2_with fail
  rw [← HW.out]
  refine (PW.out W bel0).mono ?_
  rintro e w1 ⟨rfl, b1⟩
  have A1 := below_block b1 A0
  have F1 := below_block b1 F0
  have bw : Below w.heap.size w w1 := bel0.trans (b1.mono bel0.size)
  obtain ⟨V, hV⟩ : ∃ V, V = w1.alloc (.cells #[.int .i64 E, .int .i64 A] 49) := ⟨_, rfl⟩
  have bV : Below w1.heap.size w1 V := by rw [hV]; exact (Below.refl _ _).alloc (Nat.le_refl _) _
  have bW : Below w.heap.size w V := bw.trans (bV.mono bw.size)
  have HV := hide hV
  clear hV PW A0 F0
  by_cases h0 : E = 0
  · subst h0
    have n8 := H8.out rfl
    have A2 := below_block bV A1
    have F2 := below_block bV F1
    have k0 : w1.cell? ⟨w.heap.size, 0, none⟩ = some (.slice ao n cap) := by simp [World.cell?, A1]
    have l0 : w.heap.size < w1.heap.size := lt_of_block A1
    clear HR H8
    go_wp2_with (at_make; refine wpList_make_full _ rfl _ _ 51 rfl w1.heap.size 35 i0 (.slice none 0 0) 1 Try.underlying51 hi hz0 hz1 .i64 .i64 _ _ n rfl rfl rfl rfl (by rw [hz2]; omega) (by unfold maxLen; omega) (by simp) ?_)
    intro w4 own4 gr4
    have hmc : (madeCells #[Value.slice none 0 0] n).toList = srow l n 0 := by
      rw [toList_madeCells_one]
      simp [srow, sts, hcells]
    rw [hmc] at own4
    have b4 : Below w1.heap.size w1 w4 := ((Below.refl _ _).alloc (Nat.le_refl _) _).grown gr4 (by simp) (fun k hk => by cases hk)
    have A4 := below_block b4 A1
    have F4 := below_block b4 F1
    have bX : Below w.heap.size w w4 := bw.trans (b4.mono bw.size)
    have k4 : w4.cell? ⟨w.heap.size, 0, none⟩ = some (.slice ao n cap) := by simp [World.cell?, A4]
    clear hmc gr4 k0 l0 A2 F2 HV bV bW
    go_wp2
    go_loopw [24] (fun i wr => ∃ k : Nat, k ≤ n ∧ i = .int .i64 k ∧ wr.ownsRow w1.heap.size 35 1 (.slice (some ⟨w1.heap.size + 1, 0, none⟩) n n) n (srow l n k) ∧ Below w1.heap.size w1 wr) (fun i _ => n - (intOf i).toNat)
    case atStart => exact ⟨0, Nat.zero_le _, rfl, own4, b4⟩
    case round =>
      obtain ⟨k, hk, rfl, own, bel⟩ := hrel
      clear own4 b4 A4 F4 bX k4
      have bwr : Below w.heap.size w wr := bw.trans (bel.mono bw.size)
      by_cases hlt : k < n
      · have hkl : k < l.length := by rw [← HN.out]; exact hlt
        obtain ⟨b, off, rfl, hb, hcell⟩ := seg_line HS.out hkl
        obtain ⟨x, hx⟩ : ∃ x, x = lt l k := ⟨_, rfl⟩
        obtain ⟨sn, hsn⟩ : ∃ sn, sn = x.ser.length := ⟨_, rfl⟩
        obtain ⟨pn, hpn⟩ : ∃ pn, pn = x.smp.length := ⟨_, rfl⟩
        have c0 : wr.cell? ⟨b, off + k * 2, none⟩ = some (.slice x.sa sn x.sc) := by rw [hsn, hx]; exact (bwr.cell (by exact hb)).trans (hcell k hkl).1
        have c1 : wr.cell? ⟨b, off + k * 2 + 1, none⟩ = some (.slice x.pa pn x.pc) := by rw [hpn, hx]; exact (bwr.cell (by exact hb)).trans (hcell k hkl).2
        have bA : Below wr.heap.size wr (wr.alloc (.cells #[.slice x.sa sn x.sc, .slice x.pa pn x.pc] 38)) := (Below.refl _ _).alloc (Nat.le_refl _) _
        have ownA := own_below own bA
        have fz : (wr.alloc (.cells #[.slice x.sa sn x.sc, .slice x.pa pn x.pc] 38)).frozen? ⟨w1.heap.size + 1, k, none⟩ = false := ownA.frozenAt k
        have cz : (wr.alloc (.cells #[.slice x.sa sn x.sc, .slice x.pa pn x.pc] 38)).cell? ⟨w1.heap.size + 1, k, none⟩ = some (.slice none 0 0) := (ownA.cellAt k (by omega)).trans (srow_at hkl hlt)
        have HSet : Hid (((wr.alloc (.cells #[.slice x.sa sn x.sc, .slice x.pa pn x.pc] 38)).setCell ⟨w1.heap.size + 1, k, none⟩ (.slice x.sa sn x.sc)).ownsRow w1.heap.size 35 1 (.slice (some ⟨w1.heap.size + 1, 0, none⟩) n n) n (srow l n (k + 1))) := by
          have h1 := (ownA.stored k (.slice x.sa sn x.sc)).1
          have h2 := srow_set (l := l) hkl hlt
          rw [← hx, ← hsn] at h2
          rw [h2] at h1
          exact h1
        have HBs : Hid (Below w1.heap.size w1 ((wr.alloc (.cells #[.slice x.sa sn x.sc, .slice x.pa pn x.pc] 38)).setCell ⟨w1.heap.size + 1, k, none⟩ (.slice x.sa sn x.sc))) := (bel.alloc bel.size _).setCell (by show w1.heap.size ≤ w1.heap.size + 1; omega) _
        have k2 : (k : Int) < (n : Int) := by omega
        clear hx hsn hpn hcell hkl ownA own bA bel bwr HS
        go_wp2
        go_roundw
        case rel => exact ⟨k + 1, by omega, by go_num, HSet.out, HBs.out⟩
        case measure => simp [intOf]; omega
      · have he : k = n := by omega
        subst he
        have hsg : Seg wr (some ⟨w1.heap.size + 1, 0, none⟩) (hcells (sts l)) := by
          rw [← srow_all HN.out]
          obtain ⟨ao', c, hv, hs', _⟩ := own_open own
          simp only [Value.slice.injEq] at hv
          obtain ⟨rfl, -, rfl⟩ := hv
          exact hs'
        have A5 := below_block bel A1
        have F5 := below_block bel F1
        have k5 : wr.cell? ⟨w.heap.size, 0, none⟩ = some (.slice ao k cap) := by simp [World.cell?, A5]
        obtain ⟨p0, p1, p2, p3, p4, p5, p6⟩ := seven_cells F5
        have PO2 := hide (PO.out (by first | trivial | rfl) (some ⟨w1.heap.size + 1, 0, none⟩) k w.heap.size wr bwr k5 hsg)
        clear PO hsg own bel HN HS
        go_wp2_with fail
        refine PO2.out.mono ?_
        rintro e w9 ⟨cts, co, N, d, rfl, hC, hN, hI, b9⟩
        have HC := hide hC
        have HNN := hide hN
        have b10 := below_step b9 bwr
        clear hC hN PO2
        go_wp2
        go_ret2
        exact ⟨cts, co, N, d, rfl, HC.out, HNN.out, hI, b10⟩
  · have HR1 : Hid (R = ([], E)) := HR.out h0
    have hd : (E != 0) = true := by simpa using h0
    clear h0 HR PO H8
    go_wp2
    go_quiet (fail)
    go_wp2
    go_ret2
    exact ⟨[], none, 0, 0, by rw [HR1.out]; rfl, by rw [HR1.out]; rfl, rfl, ⟨.inl rfl, fun c hc => by cases hc⟩, by first | exact below_drewN (bw.alloc bw.size _) _ | exact (below_drewN bw _).alloc (below_drewN bw _).size _⟩

end Go.Proofs.Ythohkokhimdamaa

/-
  The walk of SameSeries.
-/
namespace Go.Proofs.Ythohkokhimdamaa
open Go.RowKit Go.GrainU

set_option maxHeartbeats 1000000 in
theorem sames_any (a b : List (ByteArray × ByteArray)) (ao bo : Option Addr) (n m c c' : Nat) (w : World) (ha : Seg w ao (lcells a)) (hb : Seg w bo (lcells b)) (hn : n = a.length) (hm : m = b.length) (hc : n ≤ 9223372036854775807) :
    Calls Try.prog 15 #[.slice ao n c, .slice bo m c'] w fun e w' => e = .returned (.bool (decide (a = b))) ∧ Below w.heap.size w w' := by
  have HN := hide hn
  have HM := hide hm
  clear hn hm
  by_cases hl : n = m
  · subst hl
    have hz : ((n : Int) != (n : Int)) = false := by simp
    go_enter Try.func15, Try.ntmps15
    go_wp2
    go_loopw [13] (fun i wr => ∃ (k : Nat), k ≤ n ∧ i = .int .i64 k ∧ Hid (a.take k = b.take k) ∧ Below w.heap.size w wr) (fun i _ => n - (intOf i).toNat)
    case atStart => exact ⟨0, Nat.zero_le _, rfl, rfl, Below.refl _ _⟩
    case round =>
      obtain ⟨k, hk, rfl, HT, bel⟩ := hrel
      by_cases hlt : k < n
      · have h1 : k < a.length := by rw [← HN.out]; exact hlt
        have h2 : k < b.length := by rw [← HM.out]; exact hlt
        obtain ⟨p, off, rfl, hbl, hcell⟩ := seg_label ha h1
        obtain ⟨p', off', rfl, hbl', hcell'⟩ := seg_label hb h2
        obtain ⟨x, hx⟩ : ∃ x, x = lk a k := ⟨_, rfl⟩
        obtain ⟨y, hy⟩ : ∃ y, y = lv a k := ⟨_, rfl⟩
        obtain ⟨x', hx'⟩ : ∃ x, x = lk b k := ⟨_, rfl⟩
        obtain ⟨y', hy'⟩ : ∃ y, y = lv b k := ⟨_, rfl⟩
        have c0 : wr.cell? ⟨p, off + k * 2, none⟩ = some (.string x) := by rw [hx]; exact (bel.cell (by exact hbl)).trans (hcell k h1).1
        have c1 : wr.cell? ⟨p, off + k * 2 + 1, none⟩ = some (.string y) := by rw [hy]; exact (bel.cell (by exact hbl)).trans (hcell k h1).2
        have d0 : wr.cell? ⟨p', off' + k * 2, none⟩ = some (.string x') := by rw [hx']; exact (bel.cell (by exact hbl')).trans (hcell' k h2).1
        have d1 : wr.cell? ⟨p', off' + k * 2 + 1, none⟩ = some (.string y') := by rw [hy']; exact (bel.cell (by exact hbl')).trans (hcell' k h2).2
        clear hcell hcell'
        have HA := take_lab h1
        have HB := take_lab h2
        rw [← hx, ← hy] at HA
        rw [← hx', ← hy'] at HB
        have HA' := hide HA
        have HB' := hide HB
        have NO : Hid ((x, y) ≠ (x', y') → decide (a = b) = false) := by
          intro hne
          have : a ≠ b := by
            intro e
            have e2 := congrArg (List.take (k + 1)) e
            rw [HA'.out, HB'.out] at e2
            have e3 := (List.append_inj' e2 rfl).2
            simp at e3
            exact hne (by rw [e3.1, e3.2])
          simpa using this
        clear HA HB h1 h2 hx hy hx' hy'
        by_cases e1 : x = x'
        · subst e1
          obtain ⟨v1, v2⟩ := word_self x
          by_cases e2 : y = y'
          · subst e2
            obtain ⟨v3, v4⟩ := word_self y
            have HT' : Hid (a.take (k + 1) = b.take (k + 1)) := by
              show a.take (k + 1) = b.take (k + 1)
              rw [HA'.out, HB'.out, HT.out]
            clear HA' HB' HT NO
            go_wp2
            go_quiet (fail)
            go_wp2
            go_roundw
            case rel => exact ⟨k + 1, by omega, by go_num, HT', below_drewN bel _⟩
            case measure => simp [intOf]; omega
          · obtain ⟨v3, v4⟩ := word_ne e2
            have NN := hide (NO.out (by intro h; simp at h; exact e2 h))
            clear HA' HB' HT NO e2
            go_wp2
            go_quiet (fail)
            go_wp2
            go_ret
            exact ⟨ret_bool NN.out.symm, below_drewN bel _⟩
        · obtain ⟨v1, v2⟩ := word_ne e1
          have NN := hide (NO.out (by intro h; simp at h; exact e1 h.1))
          clear HA' HB' HT NO e1
          go_wp2
          go_quiet (fail)
          go_wp2
          go_ret
          exact ⟨ret_bool NN.out.symm, below_drewN bel _⟩
      · have he : k = n := by omega
        subst he
        have hab : a = b := by
          have := HT.out
          rwa [List.take_of_length_le (by rw [← HN.out]; omega), List.take_of_length_le (by rw [← HM.out]; omega)] at this
        clear HT
        go_wp2
        go_ret
        exact ⟨ret_bool (by simp [hab]), bel⟩
  · have hz : ((n : Int) != (m : Int)) = true := by simp; omega
    have hab : Hid (decide (a = b) = false) := by
      show decide (a = b) = false
      have : a ≠ b := by
        intro e
        apply hl
        rw [HN.out, HM.out, e]
      simpa using this
    clear hl
    go_enter Try.func15, Try.ntmps15
    go_wp2
    go_ret
    exact ⟨ret_bool hab.out.symm, Below.refl _ _⟩

end Go.Proofs.Ythohkokhimdamaa

/-
  The walk of the document's SameCells, at cells that are the same.
-/
namespace Go.Proofs.Ythohkokhimdamaa
open Go.RowKit Go.GrainU

theorem cls_ct {a b : List CT} (h : cls a = cls b) {k : Nat} (hk : k < a.length) (hk' : k < b.length) : (ct a k).ser = (ct b k).ser ∧ (ct a k).v = (ct b k).v := by
  have e : (cls a)[k]? = (cls b)[k]? := by rw [h]
  simp [cls, List.getElem?_eq_getElem hk, List.getElem?_eq_getElem hk', CT.cl] at e
  have e1 : ct a k = a[k] := by simp [ct, List.getD, List.getElem?_eq_getElem hk]
  have e2 : ct b k = b[k] := by simp [ct, List.getD, List.getElem?_eq_getElem hk']
  rw [e1, e2]
  exact e

set_option maxRecDepth 100000 in
set_option maxHeartbeats 4000000 in
theorem rsamec_any (a b : List CT) (ao bo : Option Addr) (n m c c' : Nat) (w : World) (ha : CsIn w ao a) (hb : CsIn w bo b) (hn : n = a.length) (hm : m = b.length) (h : cls a = cls b) (h8 : ∀ x ∈ a, x.ser.length ≤ 9223372036854775807) (hn8 : n ≤ 9223372036854775806) :
    Calls Try.prog 7 #[.slice ao n c, .slice bo m c'] w fun e w' => e = .returned (.bool true) ∧ Below w.heap.size w w' := by
  have hnm : m = n := by rw [hn, hm, ← cls_len, ← cls_len, h]
  subst hnm
  have HN := hide hn
  have HM := hide hm
  have HH := hide h
  have H8 := hide h8
  clear hn hm h h8
  have hd : ((m : Int) != (m : Int)) = false := by simp
  go_enter Try.func7, Try.ntmps7
  go_wp2
  go_loopw [13] (fun i wr => ∃ k : Nat, k ≤ m ∧ i = .int .i64 k ∧ Below w.heap.size w wr) (fun i _ => m - (intOf i).toNat)
  case atStart => exact ⟨0, Nat.zero_le _, rfl, Below.refl _ _⟩
  case round =>
    obtain ⟨k, hk, rfl, bel⟩ := hrel
    have hsz := bel.size
    by_cases hlt : k < m
    · have hka : k < a.length := by rw [← HN.out]; exact hlt
      have hkb : k < b.length := by rw [← HM.out]; exact hlt
      obtain ⟨p, off, rfl, hbl, hcell⟩ := seg_cell ha.seg hka
      obtain ⟨p', off', rfl, hbl', hcell'⟩ := seg_cell hb.seg hkb
      obtain ⟨x, hx⟩ : ∃ x, x = ct a k := ⟨_, rfl⟩
      obtain ⟨y, hy⟩ : ∃ y, y = ct b k := ⟨_, rfl⟩
      obtain ⟨es, ev⟩ := cls_ct HH.out hka hkb
      rw [← hx, ← hy] at es ev
      obtain ⟨xn, hxn⟩ : ∃ xn, xn = x.ser.length := ⟨_, rfl⟩
      obtain ⟨v, hv⟩ : ∃ v, v = x.v := ⟨_, rfl⟩
      have sx : Seg w x.sa (lcells x.ser) := by rw [hx]; exact ha.ser _ (ct_mem hka)
      have sy : Seg w y.sa (lcells x.ser) := by rw [es, hy]; exact hb.ser _ (ct_mem hkb)
      have c0 : wr.cell? ⟨p, off + k * 2, none⟩ = some (.slice x.sa xn x.sc) := by rw [hxn, hx]; exact (bel.cell (by exact hbl)).trans (hcell k hka).1
      have c1 : wr.cell? ⟨p, off + k * 2 + 1, none⟩ = some (.int .i64 v) := by rw [hv, hx]; exact (bel.cell (by exact hbl)).trans (hcell k hka).2
      have d0 : wr.cell? ⟨p', off' + k * 2, none⟩ = some (.slice y.sa xn y.sc) := by rw [hxn, es, hy]; exact (bel.cell (by exact hbl')).trans (hcell' k hkb).1
      have d1 : wr.cell? ⟨p', off' + k * 2 + 1, none⟩ = some (.int .i64 v) := by rw [hv, ev, hy]; exact (bel.cell (by exact hbl')).trans (hcell' k hkb).2
      have x8 : xn ≤ 9223372036854775807 := by rw [hxn, hx]; exact H8.out _ (ct_mem hka)
      have hp1 : p < wr.heap.size := World.block_lt_of_cell? wr _ c0
      have hp2 : p' < wr.heap.size := World.block_lt_of_cell? wr _ d0
      have PS : Hid (∀ w', Below w.heap.size w w' → Calls Try.prog 15 #[.slice x.sa xn x.sc, .slice y.sa xn y.sc] w' fun e w'' => e = .returned (.bool true) ∧ Below w'.heap.size w' w'') := fun w' hb' => by
        have := sames_any x.ser x.ser x.sa y.sa xn xn x.sc y.sc w' (sx.below hb') (sy.below hb') hxn hxn x8
        simpa using this
      have HS : Hid (∀ w', Below wr.heap.size wr w' → w'.cell? ⟨p, off + k * 2, none⟩ = some (.slice x.sa xn x.sc) ∧ w'.cell? ⟨p, off + k * 2 + 1, none⟩ = some (.int .i64 v) ∧ w'.cell? ⟨p', off' + k * 2, none⟩ = some (.slice y.sa xn y.sc) ∧ w'.cell? ⟨p', off' + k * 2 + 1, none⟩ = some (.int .i64 v)) := fun w' hb' =>
        ⟨(hb'.cell (by exact hp1)).trans c0, (hb'.cell (by exact hp1)).trans c1, (hb'.cell (by exact hp2)).trans d0, (hb'.cell (by exact hp2)).trans d1⟩
      have R0 : Below wr.heap.size wr wr.drew := below_drewN (Below.refl _ _) 1
      have hvv : (v != v) = false := by simp
      clear hcell hcell' hx hy es ev hxn hv hka hkb c0 c1 d0 d1
      go_wp2_with fail
      have i7 : k < m := hlt
      have i2 : (k : Int) < (m : Int) := by omega
      go_region_held3 (fun w' => w'.cell? ⟨p, off + k * 2, none⟩ = some (.slice x.sa xn x.sc) ∧ w'.cell? ⟨p, off + k * 2 + 1, none⟩ = some (.int .i64 v) ∧ w'.cell? ⟨p', off' + k * 2, none⟩ = some (.slice y.sa xn y.sc) ∧ w'.cell? ⟨p', off' + k * 2 + 1, none⟩ = some (.int .i64 v)) (exact HS.out _ (by with_reducible assumption))
        (first | (go_at_call 15; refine (PS.out _ (bel.trans (Below.mono (by with_reducible assumption) bel.size))).mono ?_; rintro e w3 ⟨rfl, b3⟩; have R4 := below_step b3 (by with_reducible assumption)))
      all_goals
        have bel3 : Below w.heap.size w w3 := bel.trans (R4.mono bel.size)
        clear R4 b3 R0 HS PS bel
        go_wp2
        go_roundw
        case rel => exact ⟨k + 1, by omega, by go_num, bel3⟩
        case measure => simp [intOf]; omega
    · go_wp2
      go_ret
      exact ⟨rfl, bel⟩

end Go.Proofs.Ythohkokhimdamaa

/-
  The closed fact that is asked first.
-/
namespace Go.GrainU
open Go.RowKit

def aLines : List Ln := [([(⟨#[104, 111, 115, 116]⟩, ⟨#[97]⟩)], [(5, 7), (15, 9)]), ([(⟨#[104, 111, 115, 116]⟩, ⟨#[98]⟩)], [(8, 1)])]
def aSum : Hd := ⟨2, 0, 100, ⟨#[115, 117, 109]⟩, [], []⟩
def aAll : Hd := ⟨3, 0, 0, ⟨#[115, 117, 109]⟩, [], []⟩
def aEx : Ex := .mk aAll [.mk aSum []]

set_option maxRecDepth 100000 in
theorem a_ask : GrainU.ask aLines aEx 20 = ([([], 17)], 0) := by kernel_rfl

end Go.GrainU
namespace Go.Proofs.Ythohkokhimdamaa
open Go.RowKit Go.GrainU

/-- the lines, as they lie behind w -/
def aLT (A : Nat) : List LT := [⟨[(⟨#[104, 111, 115, 116]⟩, ⟨#[97]⟩)], [(5, 7), (15, 9)], some ⟨A, 0, none⟩, 1, some ⟨A + 1, 0, none⟩, 2⟩, ⟨[(⟨#[104, 111, 115, 116]⟩, ⟨#[98]⟩)], [(8, 1)], some ⟨A + 1 + 1, 0, none⟩, 1, some ⟨A + 1 + 1 + 1, 0, none⟩, 1⟩]

theorem aLT_lns (A : Nat) : lns (aLT A) = aLines := rfl

theorem seg_al {w : World} {ao : Option Addr} {xs : List Value} (h : Seg w ao xs) (o : Obj) : Seg (w.alloc o) ao xs := h.below ((Below.refl _ _).alloc (Nat.le_refl _) _)

theorem seg_at (w : World) (A : Nat) (hA : w.heap.size = A) (cs : Array Value) (t : TypeId) : Seg (w.alloc (.cells cs t)) (some ⟨A, 0, none⟩) cs.toList := by subst hA; exact seg_new w cs t

theorem fits_one (a b : ByteArray) (ha : a.size ≤ 12) (hb : b.size ≤ 12) : Fits [(a, b)] := by
  intro k hk
  simp at hk
  subst hk
  exact ⟨by show a.size ≤ _; omega, by show b.size ≤ _; omega⟩

set_option maxRecDepth 100000 in
set_option maxHeartbeats 2000000 in
theorem alines_any (w : World) : Calls Try.prog 8 #[] w fun e w' => ∃ g, e = .returned (.slice (some ⟨g, 0, none⟩) 2 2) ∧ Seg w' (some ⟨g, 0, none⟩) (tcells (aLT w.heap.size)) ∧ LnsIn w' (aLT w.heap.size) ∧ Below w.heap.size w w' := by
  go_enter Try.func8, Try.ntmps8
  go_wp2
  go_ret
  have s1 := seg_at w w.heap.size rfl #[.string ⟨#[104, 111, 115, 116]⟩, .string ⟨#[97]⟩] 40
  have s2 := seg_at (w.alloc (.cells #[.string ⟨#[104, 111, 115, 116]⟩, .string ⟨#[97]⟩] 40)) (w.heap.size + 1) (by simp) #[.int .i64 5, .int .i64 7, .int .i64 15, .int .i64 9] 60
  have s3 := seg_at ((w.alloc (.cells #[.string ⟨#[104, 111, 115, 116]⟩, .string ⟨#[97]⟩] 40)).alloc (.cells #[.int .i64 5, .int .i64 7, .int .i64 15, .int .i64 9] 60)) (w.heap.size + 1 + 1) (by simp) #[.string ⟨#[104, 111, 115, 116]⟩, .string ⟨#[98]⟩] 40
  have s4 := seg_at (((w.alloc (.cells #[.string ⟨#[104, 111, 115, 116]⟩, .string ⟨#[97]⟩] 40)).alloc (.cells #[.int .i64 5, .int .i64 7, .int .i64 15, .int .i64 9] 60)).alloc (.cells #[.string ⟨#[104, 111, 115, 116]⟩, .string ⟨#[98]⟩] 40)) (w.heap.size + 1 + 1 + 1) (by simp) #[.int .i64 8, .int .i64 1] 60
  have s5 := seg_at ((((w.alloc (.cells #[.string ⟨#[104, 111, 115, 116]⟩, .string ⟨#[97]⟩] 40)).alloc (.cells #[.int .i64 5, .int .i64 7, .int .i64 15, .int .i64 9] 60)).alloc (.cells #[.string ⟨#[104, 111, 115, 116]⟩, .string ⟨#[98]⟩] 40)).alloc (.cells #[.int .i64 8, .int .i64 1] 60)) (w.heap.size + 1 + 1 + 1 + 1) (by simp) #[.slice (some ⟨w.heap.size, 0, none⟩) 1 1, .slice (some ⟨w.heap.size + 1, 0, none⟩) 2 2, .slice (some ⟨w.heap.size + 1 + 1, 0, none⟩) 1 1, .slice (some ⟨w.heap.size + 1 + 1 + 1, 0, none⟩) 1 1] 38
  refine ⟨_, rfl, s5, ?_, ?_⟩
  · intro x hx
    simp only [aLT, List.mem_cons, List.not_mem_nil, or_false] at hx
    rcases hx with e | e
    · subst e
      exact ⟨seg_al (seg_al (seg_al (seg_al s1 _) _) _) _, seg_al (seg_al (seg_al s2 _) _) _, fits_one _ _ (by decide) (by decide), (by simp), (by simp), fun h => (by cases h), (by simp), fun h => (by cases h)⟩
    · subst e
      exact ⟨seg_al (seg_al s3 _) _, seg_al s4 _, fits_one _ _ (by decide) (by decide), (by simp), (by simp), fun h => (by cases h), (by simp), fun h => (by cases h)⟩
  · exact (((((Below.refl _ _).alloc (Nat.le_refl _) _).alloc (by simp) _).alloc (by simp; omega) _).alloc (by simp; omega) _).alloc (by simp; omega) _

set_option maxRecDepth 100000 in
set_option maxHeartbeats 2000000 in
theorem asum_any (w : World) : Calls Try.prog 9 #[] w fun e w' => e = .returned (.agg #[.int .i64 2, .int .i64 0, .int .i64 100, .string ⟨#[115, 117, 109]⟩, .slice none 0 0, .slice none 0 0, .slice none 0 0]) ∧ Below w.heap.size w w' := by
  go_enter Try.func9, Try.ntmps9
  go_wp2
  exact bodyPost_ret (v := .agg #[.int .i64 2, .int .i64 0, .int .i64 100, .string ⟨#[115, 117, 109]⟩, .slice none 0 0, .slice none 0 0, .slice none 0 0]) (by simp [results, Try.results9, go_sem]) rfl ⟨rfl, by go_grown⟩

/-- the expression, its kid in block K -/
def aKid : ET := .node aSum ⟨none, 0, none, 0, none, 0⟩ []
def aET (K : Nat) : ET := .node aAll ⟨none, 0, none, 0, some ⟨K, 0, none⟩, 1⟩ [aKid]

set_option maxRecDepth 100000 in
set_option maxHeartbeats 4000000 in
theorem malive_any (w : World) : Calls Try.prog 4 #[] w fun e w' => e = .returned (.bool true) ∧ Below w.heap.size w w' := by
  go_enter Try.func4, Try.ntmps4
  go_wp2_with fail
  refine (alines_any w).mono ?_
  rintro e w1 ⟨g, rfl, hs, hl, b1⟩
  generalize hA : aLT w.heap.size = LL at hs hl
  have HLL : Hid (lns LL = aLines ∧ LL.length = 2) := by rw [← hA]; exact ⟨rfl, rfl⟩
  clear hA
  go_wp2_with fail
  refine (asum_any w1).mono ?_
  rintro e w2 ⟨rfl, b2⟩
  have b12 : Below w.heap.size w w2 := b1.trans (b2.mono b1.size)
  obtain ⟨V, hV⟩ : ∃ V, V = w2.alloc (.cells #[.int .i64 2, .int .i64 0, .int .i64 100, .string ⟨#[115, 117, 109]⟩, .slice none 0 0, .slice none 0 0, .slice none 0 0] 27) := ⟨_, rfl⟩
  have bV : Below w2.heap.size w2 V := by rw [hV]; exact (Below.refl _ _).alloc (Nat.le_refl _) _
  have sk : Seg V (some ⟨w2.heap.size, 0, none⟩) (ecells [aKid]) := by rw [hV]; exact seg_at w2 w2.heap.size rfl _ _
  have hin : (aET w2.heap.size).In V := by
    simp only [aET, aKid, ET.In, InL, aAll, aSum, mcells, wcells, ecells, List.map_nil]
    refine ⟨⟨.inl rfl, .inl rfl, sk⟩, ⟨by decide, by decide, by decide, by decide, fun m hm => (by cases hm), fun b hb => (by cases hb), by decide, fun m hm => (by cases hm)⟩, ⟨⟨.inl rfl, .inl rfl, .inl rfl⟩, ⟨by decide, by decide, by decide, by decide, fun m hm => (by cases hm), fun b hb => (by cases hb), by decide, fun m hm => (by cases hm)⟩, trivial⟩, trivial⟩
  have PM := mask_any LL (aET w2.heap.size) 20 (some ⟨g, 0, none⟩) 2 2 V ((hs.below b2).below bV) ((hl.below b2).below bV) hin HLL.out.2.symm
  have hask : GrainU.ask (lns LL) (aET w2.heap.size).ex 20 = ([([], 17)], 0) := by rw [HLL.out.1]; exact a_ask
  rw [hask] at PM
  have HPM := hide PM
  have HV := hide hV
  clear hV PM hask sk hin hs hl HLL
  go_wp2_with fail
  rw [← HV.out]
  refine HPM.out.mono ?_
  rintro e w3 ⟨cts, co, N, d, rfl, hc, hN, hC, b3⟩
  have b4 : Below w.heap.size w w3 := b12.trans ((bV.trans (b3.mono bV.size)).mono b12.size)
  obtain ⟨c, rfl⟩ : ∃ c, cts = [c] := by
    have := congrArg List.length hc
    simp [cls] at this
    exact List.length_eq_one_iff.1 this
  simp [cls, CT.cl] at hc
  obtain ⟨h1, h2⟩ := hc
  obtain ⟨b, off, rfl, hb, hcell⟩ := seg_cell hC.seg (k := 0) (by simp)
  have k0 := (hcell 0 (by simp)).1
  have k1 := (hcell 0 (by simp)).2
  simp [ct, h1, h2] at k0 k1
  simp at hN
  subst hN
  clear hcell hC h1 h2 HPM
  go_wp2
  go_ret
  exact ⟨rfl, b4⟩

end Go.Proofs.Ythohkokhimdamaa

/-
  All later is the same, later. No program is named here.
-/
namespace Go.GrainU
open Go.RowKit

/-- what comes hangs on the windows alone -/
theorem ev_same {l l' : List Ln} {time time' : Int} (hw : ∀ h, winC l h time = winC l' h time') : ∀ x : Ex, ev l time x = ev l' time' x := by
  refine Ex.ind ?_
  intro h kids ih
  have hL : ∀ ks : List Ex, (∀ k ∈ ks, ev l time k = ev l' time' k) → evL l time ks = evL l' time' ks := by
    intro ks
    induction ks with
    | nil => intro _; rfl
    | cons a r ihr =>
      intro hk
      rw [evL, evL, hk a (by simp), ihr (fun k hk' => hk k (by simp [hk']))]
  rw [ev, ev, hw h, hL kids ih]

/-- samples so much later -/
def latS (b : Int) (s : List (Int × Int)) : List (Int × Int) := s.map fun x => (x.1 + b, x.2)
def latL (b : Int) (l : List Ln) : List Ln := l.map fun x => (x.1, latS b x.2)

theorem latS_tm {b : Int} {s : List (Int × Int)} {k : Nat} (hk : k < s.length) : Grain.tm (latS b s) k = Grain.tm s k + b := by
  simp [Grain.tm, latS, List.getD, List.getElem?_eq_getElem hk]
theorem latS_vl {b : Int} {s : List (Int × Int)} (k : Nat) : Grain.vl (latS b s) k = Grain.vl s k := by
  simp only [Grain.vl, latS, List.getD, List.getElem?_map]
  cases s[k]? <;> rfl
theorem latS_len (b : Int) (s : List (Int × Int)) : (latS b s).length = s.length := by simp [latS]

theorem lat_ofN (b : Int) (s : List (Int × Int)) : ∀ k, Grain.ofN (latS b s) k = Grain.ofN s k
  | 0 => rfl
  | k + 1 => by rw [Grain.ofN, Grain.ofN, lat_ofN b s k, latS_vl]

theorem lat_of (b : Int) (s : List (Int × Int)) : Grain.of (latS b s) = Grain.of s := by
  unfold Grain.of
  rw [latS_len, lat_ofN]

theorem lat_win (b f t : Int) (s : List (Int × Int)) : Grain.win (latS b s) (f + b) (t + b) = latS b (Grain.win s f t) := by
  unfold Grain.win latS
  rw [List.filter_map]
  congr 1
  apply List.filter_congr
  intro x _
  simp

theorem lat_winC (b : Int) (h : Hd) (time : Int) : ∀ l : List Ln, winC (latL b l) h (time + b) = winC l h time
  | [] => rfl
  | x :: r => by
    have e : winX (x.1, latS b x.2) h (time + b) = winX x h time := by
      have hv : winV (x.1, latS b x.2) h (time + b) = winV x h time := by
        unfold winV
        rw [show time + b - h.range = (time - h.range) + b from by omega]
        simp only [lat_win, lat_of]
      unfold winX
      rw [hv]
    show winX (x.1, latS b x.2) h (time + b) ++ winC (latL b r) h (time + b) = _
    rw [e, lat_winC b h time r]
    rfl

/-- times that stay in their range -/
def LatOk (b : Int) (s : List (Int × Int)) : Prop := ∀ x ∈ s, 0 ≤ x.1 ∧ x.1 + b ≤ 1000000

theorem lat_bad {b : Int} (hb : 0 ≤ b) {s : List (Int × Int)} (h : LatOk b s) {k : Nat} (hk : k < s.length) : Grain.bad (latS b s) k = Grain.bad s k := by
  have hx := h s[k] (List.getElem_mem hk)
  have e1 : Grain.tm s k = (s[k]).1 := tm_get hk
  have hr : Grain.inR (Grain.tm (latS b s) k) (Grain.vl (latS b s) k) = Grain.inR (Grain.tm s k) (Grain.vl s k) := by
    rw [latS_tm hk, latS_vl, e1]
    unfold Grain.inR
    rw [decide_eq_decide]
    omega
  unfold Grain.bad
  rw [hr]
  have ht : (0 < k ∧ Grain.tm (latS b s) k ≤ Grain.tm (latS b s) (k - 1)) ↔ (0 < k ∧ Grain.tm s k ≤ Grain.tm s (k - 1)) := by
    rw [latS_tm hk, latS_tm (show k - 1 < s.length by omega)]
    omega
  simp only [ht]

theorem lat_wrongF {b : Int} (hb : 0 ≤ b) {s : List (Int × Int)} (h : LatOk b s) : ∀ n k, k + n ≤ s.length → Grain.wrongF (latS b s) n k = Grain.wrongF s n k
  | 0, _, _ => rfl
  | n + 1, k, hk => by
    rw [Grain.wrongF, Grain.wrongF, lat_bad hb h (by omega), lat_wrongF hb h n (k + 1) (by omega)]

theorem lat_wrong {b : Int} (hb : 0 ≤ b) {s : List (Int × Int)} (h : LatOk b s) : Grain.wrong (latS b s) = Grain.wrong s := by
  unfold Grain.wrong
  rw [latS_len, lat_wrongF hb h _ _ (by omega)]

theorem latL_ser (b : Int) (l : List Ln) (k : Nat) : lser (latL b l) k = lser l k := by
  simp only [lser, latL, List.getD, List.getElem?_map]
  cases l[k]? <;> rfl
theorem latL_smp (b : Int) (l : List Ln) (k : Nat) : lsmp (latL b l) k = latS b (lsmp l k) := by
  simp only [lsmp, latL, List.getD, List.getElem?_map]
  cases l[k]? <;> rfl

theorem lat_lnBad {b : Int} (hb : 0 ≤ b) {l : List Ln} (h : ∀ x ∈ l, LatOk b x.2) (k : Nat) : lnBad (latL b l) k = lnBad l k := by
  have ho : LatOk b (lsmp l k) := by
    unfold lsmp
    simp only [List.getD]
    cases hq : l[k]? with
    | none => intro x hx; cases hx
    | some q => exact h q (List.mem_of_getElem? hq)
  unfold lnBad lnAlone
  simp only [latL_ser, latL_smp, lat_wrong hb ho]

theorem lat_wrLF {b : Int} (hb : 0 ≤ b) {l : List Ln} (h : ∀ x ∈ l, LatOk b x.2) : ∀ n k, wrLF (latL b l) n k = wrLF l n k
  | 0, _ => rfl
  | n + 1, k => by rw [wrLF, wrLF, lat_lnBad hb h k, lat_wrLF hb h n (k + 1)]

theorem lat_wrLn {b : Int} (hb : 0 ≤ b) {l : List Ln} (h : ∀ x ∈ l, LatOk b x.2) : wrLn (latL b l) = wrLn l := by
  unfold wrLn
  rw [lat_wrLF hb h]
  simp [latL]

/-- ALL LATER IS THE SAME, LATER -/
theorem lat_ask {b time : Int} (hb : 0 ≤ b) (h0 : 0 ≤ time) (h1 : time + b ≤ 1000000) {l : List Ln} (h : ∀ x ∈ l, LatOk b x.2) (e : Ex) : GrainU.ask (latL b l) e (time + b) = GrainU.ask l e time := by
  have hc : chk e (time + b) = chk e time := by
    unfold chk
    rw [if_neg (show ¬ (time + b < 0 ∨ 1000000 < time + b) by omega), if_neg (show ¬ (time < 0 ∨ 1000000 < time) by omega)]
  unfold GrainU.ask
  rw [lat_wrLn hb h, hc, ev_same (fun hd => lat_winC b hd time l) e]

end Go.GrainU

/-
  Lines that are made anew: a row of lines, each with a row of samples of its own.
-/
namespace Go.GrainU
open Go.RowKit

/-- what is asked has few cells, of few labels -/
theorem ask_gd (l : List LT) (e : Ex) (time : Int) : (∀ c ∈ (GrainU.ask (lns l) e time).1, c.1.length ≤ 4) ∧ (GrainU.ask (lns l) e time).1.length ≤ 8 := by
  unfold GrainU.ask
  by_cases h1 : (wrLn (lns l)).1 = 0
  · rw [if_pos h1]
    by_cases h2 : chk e time = 0
    · rw [if_pos h2]
      cases hev : ev (lns l) time e with
      | none => exact ⟨fun c hc => (by cases hc), by simp⟩
      | some m =>
        have r1 := right_lines h1
        have g := ev_gd (l := lns l) (fun x hx => by
          obtain ⟨y, hy, rfl⟩ := List.mem_map.1 hx
          exact ⟨(r1.2 y hy).ser, (r1.2 y hy).smp⟩) (by rw [lns_len]; exact r1.1) time e (chk_zero h2).1 m hev
        exact ⟨fun c hc => (g.fine c hc).2.2, g.len⟩
    · rw [if_neg h2]; exact ⟨fun c hc => (by cases hc), by simp⟩
  · rw [if_neg h1]; exact ⟨fun c hc => (by cases hc), by simp⟩

theorem tcells_append (a b : List LT) : tcells (a ++ b) = tcells a ++ tcells b := by
  induction a with
  | nil => rfl
  | cons x r ih => simp [tcells, ih]

/-- a row's block is none of another type -/
theorem mown_far {w : World} {base e size n : Nat} {v : Value} {xs : List Value} (h : w.ownsRow base e size v n xs) {k : Nat} {c : Array Value} {t : TypeId} {fr : Nat × Nat} (hk : w.heap[k]? = some (.cells c t fr)) (ht : t ≠ e) : v.ownBlock ≠ some k := by
  intro hv
  rcases h.2 with ⟨h2, _⟩ | ⟨g, cap, cur, h2, _, hg, _⟩
  · rw [h2] at hv; simp [Value.ownBlock] at hv
  · rw [h2] at hv
    simp [Value.ownBlock] at hv
    subst hv
    rw [hk] at hg
    simp at hg
    exact ht hg.2.1

theorem mown_keep {w w' : World} {base e size n : Nat} {v : Value} {xs : List Value} {r : Option Nat} (h : w.ownsRow base e size v n xs) (hg : w.grownBy w' r) (hne : ∀ k, v.ownBlock = some k → r ≠ some k) : w'.ownsRow base e size v n xs := by
  obtain ⟨h1, h2⟩ := h
  refine ⟨h1, ?_⟩
  rcases h2 with h2 | ⟨g, cap, cur, hv, hb, hh, rest⟩
  · exact Or.inl h2
  · have hl : g < w.heap.size := by
      rcases Nat.lt_or_ge g w.heap.size with h | h
      · exact h
      · rw [Array.getElem?_eq_none h] at hh; cases hh
    refine Or.inr ⟨g, cap, cur, hv, hb, ?_, rest⟩
    rw [hg.block g hl (fun e => hne g (by rw [hv]; rfl) e.symm)]; exact hh

theorem mown_types {w : World} {base base' e e' size size' n n' : Nat} {v v' : Value} {xs xs' : List Value} (h : w.ownsRow base e size v n xs) (h' : w.ownsRow base' e' size' v' n' xs') (ht : e ≠ e') : ∀ k, v.ownBlock = some k → v'.ownBlock ≠ some k := by
  intro k hk
  rcases h.2 with ⟨h2, _⟩ | ⟨g, cap, cur, h2, _, hg, _⟩
  · rw [h2] at hk; simp [Value.ownBlock] at hk
  · rw [h2] at hk
    simp [Value.ownBlock] at hk
    subst hk
    exact mown_far h' hg ht

theorem mown_down {w : World} {base base' e size n : Nat} {v : Value} {xs : List Value} (h : w.ownsRow base e size v n xs) (hb : base' ≤ base) : w.ownsRow base' e size v n xs := by
  obtain ⟨h1, h2⟩ := h
  refine ⟨h1, ?_⟩
  rcases h2 with h2 | ⟨g, cap, cur, hv, hg, r⟩
  · exact Or.inl h2
  · exact Or.inr ⟨g, cap, cur, hv, Nat.le_trans hb hg, r⟩

theorem mown_facts {w : World} {base e size n c : Nat} {ao : Option Addr} {xs : List Value} (h : w.ownsRow base e size (.slice ao n c) n xs) : Seg w ao xs ∧ (ao = none → n = 0 ∧ c = 0) ∧ n ≤ c ∧ c ≤ 9223372036854775807 := by
  obtain ⟨ao', c', hv, hs, hc⟩ := own_open h
  simp at hv
  obtain ⟨rfl, rfl⟩ := hv
  refine ⟨hs, ?_, hc, ?_⟩
  · intro hn
    subst hn
    rcases h.2 with ⟨h2, _⟩ | ⟨g, cap, cur, hv, _⟩
    · simp at h2; exact h2
    · simp at hv
  · rcases h.2 with ⟨h2, _⟩ | ⟨g, cap, cur, hv, _, _, _, hm, _⟩
    · simp at h2; omega
    · simp at hv
      obtain ⟨_, rfl⟩ := hv
      unfold maxLen at hm
      exact hm

end Go.GrainU
namespace Go.Proofs.Ythohkokhimdamaa
open Go.RowKit Go.GrainU

theorem Try.infoLine : (Try.prog.info? 38).map (fun i => (i.zero, i.size, i.bytes)) = some (some (.agg #[.slice none 0 0, .slice none 0 0]), 2, 48) := by kernel_rfl
theorem Try.infoSmpX : (Try.prog.info? 60).map (fun i => (i.zero, i.size, i.bytes)) = some (some (.agg #[.int .i64 0, .int .i64 0]), 2, 16) := by kernel_rfl

/-- what a new line keeps of an old one -/
structure SerOk (w : World) (x : LT) : Prop where
  ser : Seg w x.sa (lcells x.ser)
  fit : Fits x.ser
  ls : x.ser.length ≤ 9223372036854775806
  nil : x.sa = none → x.ser.length = 0 ∧ x.sc = 0

/-- the row of new lines -/
structure LI (w wr : World) (mo : Option Addr) (M mc : Nat) (ms : List LT) : Prop where
  row : wr.ownsRow w.heap.size 38 2 (.slice mo M mc) M (tcells ms)
  each : ∀ x ∈ ms, SerOk w x ∧ x.smp.length * 16 ≤ 140737488355328 ∧ wr.ownsRow w.heap.size 60 2 (.slice x.pa x.smp.length x.pc) x.smp.length (scells x.smp)
  bel : Below w.heap.size w wr

theorem LI.call {w wr w' : World} {mo : Option Addr} {M mc : Nat} {ms : List LT} (h : LI w wr mo M mc ms) (hb : Below wr.heap.size wr w') : LI w w' mo M mc ms :=
  ⟨own_below h.row hb, fun x hx => ⟨(h.each x hx).1, (h.each x hx).2.1, own_below (h.each x hx).2.2 hb⟩, h.bel.trans (hb.mono h.bel.size)⟩

theorem LI.lns {w wr : World} {mo : Option Addr} {M mc : Nat} {ms : List LT} (h : LI w wr mo M mc ms) : LnsIn wr ms := by
  intro x hx
  obtain ⟨s, hb, o⟩ := h.each x hx
  obtain ⟨f1, f2, f3, f4⟩ := mown_facts o
  exact ⟨s.ser.below h.bel, f1, s.fit, s.ls, by omega, s.nil, ⟨f3, f4⟩, f2⟩

/-- a new line put behind the others -/
theorem LI.push {w W w5 : World} {mo : Option Addr} {M mc g' cp' : Nat} {ms : List LT} (h : LI w W mo M mc ms) (x : LT) (hs : SerOk w x) (hx : x.smp.length * 16 ≤ 140737488355328) (ho : W.ownsRow w.heap.size 60 2 (.slice x.pa x.smp.length x.pc) x.smp.length (scells x.smp))
    (own : w5.ownsRow w.heap.size 38 2 (.slice (some ⟨g', 0, none⟩) (M + 1) cp') (M + 1) (tcells ms ++ [.slice x.sa x.ser.length x.sc, .slice x.pa x.smp.length x.pc])) (gr : W.grownBy w5 (Value.slice mo M mc).ownBlock) :
    LI w w5 (some ⟨g', 0, none⟩) (M + 1) cp' (ms ++ [x]) := by
  refine ⟨by rw [tcells_append]; exact own, fun y hy => ?_, h.bel.grown gr h.bel.size (fun j hj => (h.row.lt j hj).1)⟩
  rcases List.mem_append.1 hy with e | e
  · obtain ⟨p, q, o⟩ := h.each y e
    exact ⟨p, q, mown_keep o gr (mown_types o h.row (by decide))⟩
  · simp at e
    subst e
    exact ⟨hs, hx, mown_keep ho gr (mown_types ho h.row (by decide))⟩

/-- a new line that is being made: the old one lies in a block, the new one in the next -/
structure DI (wk wr : World) (c0 c1 : Value) (po : Option Addr) (p pc : Nat) (s : List (Int × Int)) : Prop where
  cb : wr.heap[wk.heap.size]? = some (.cells #[c0, c1] 38 (0, 0))
  db : wr.heap[wk.heap.size + 1]? = some (.cells #[c0, .slice po p pc] 38 (0, 0))
  own : wr.ownsRow (wk.heap.size + 2) 60 2 (.slice po p pc) p (scells s)
  bel : Below wk.heap.size wk wr

theorem DI.start (wk : World) (c0 c1 : Value) : DI wk ((wk.alloc (.cells #[c0, c1] 38)).alloc (.cells #[c0, .slice none 0 0] 38)) c0 c1 none 0 0 [] := by
  refine ⟨?_, ?_, World.ownsRow_nil _ _ _ _, ((Below.refl _ _).alloc (Nat.le_refl _) _).alloc (by simp) _⟩
  · rw [Below.heap_alloc _ _ _ (by simp)]; exact heap_alloc_new _ _
  · have e : wk.heap.size + 1 = (wk.alloc (.cells #[c0, c1] 38)).heap.size := by simp
    rw [e]; exact heap_alloc_new _ _

theorem DI.call {wk wr w' : World} {c0 c1 : Value} {po : Option Addr} {p pc : Nat} {s : List (Int × Int)} (h : DI wk wr c0 c1 po p pc s) (hb : Below wr.heap.size wr w') : DI wk w' c0 c1 po p pc s :=
  ⟨below_block hb h.cb, below_block hb h.db, own_below h.own hb, h.bel.trans (hb.mono h.bel.size)⟩

theorem DI.grown {wk wr w' : World} {c0 c1 : Value} {po : Option Addr} {p pc : Nat} {s : List (Int × Int)} (h : DI wk wr c0 c1 po p pc s) (gr : wr.grownBy w' (Value.slice po p pc).ownBlock) :
    w'.heap[wk.heap.size]? = some (.cells #[c0, c1] 38 (0, 0)) ∧ w'.heap[wk.heap.size + 1]? = some (.cells #[c0, .slice po p pc] 38 (0, 0)) ∧ Below wk.heap.size wk w' := by
  refine ⟨?_, ?_, h.bel.grown gr h.bel.size (fun j hj => by have := (h.own.lt j hj).1; omega)⟩
  · rw [gr.block _ (lt_of_block h.cb) (fun e => mown_far h.own h.cb (by decide) e.symm)]; exact h.cb
  · rw [gr.block _ (lt_of_block h.db) (fun e => mown_far h.own h.db (by decide) e.symm)]; exact h.db

/-- a sample put behind the others -/
theorem DI.push {wk wr w' : World} {c0 c1 : Value} {po : Option Addr} {p pc g' cp' : Nat} {s : List (Int × Int)} (h : DI wk wr c0 c1 po p pc s) (t v : Int)
    (own : w'.ownsRow (wk.heap.size + 2) 60 2 (.slice (some ⟨g', 0, none⟩) (p + 1) cp') (p + 1) (scells s ++ [.int .i64 t, .int .i64 v])) (gr : wr.grownBy w' (Value.slice po p pc).ownBlock) :
    DI wk (w'.setCell ⟨wk.heap.size + 1, 1, none⟩ (.slice (some ⟨g', 0, none⟩) (p + 1) cp')) c0 c1 (some ⟨g', 0, none⟩) (p + 1) cp' (s ++ [(t, v)]) := by
  obtain ⟨k1, k2, k3⟩ := h.grown gr
  refine ⟨by rw [setCell_far (by omega)]; exact k1, two_snd k2 _, ?_, k3.setCell (by show wk.heap.size ≤ wk.heap.size + 1; omega) _⟩
  rw [scells_append]
  exact ownsRow_setCell_below own (by show wk.heap.size + 1 < wk.heap.size + 2; omega) _

end Go.Proofs.Ythohkokhimdamaa

/-
  Signs are numbers': what comes of an expression and itself. No program is named here.
-/
namespace Go.GrainU
open Go.RowKit

/-- a number, and two things with a sign -/
def numE (k : Int) : Ex := .mk ⟨1, k, 0, ⟨#[]⟩, [], []⟩ []
def twoE (w : ByteArray) (a b : Ex) : Ex := .mk ⟨4, 0, 0, w, [], []⟩ [a, b]

/-! what is wrong with them -/

theorem wr_err : ∀ x : Ex, Rt x → ∀ d n, (wr x d n).1 = 0 ∨ (wr x d n).1 = 4 := by
  refine Ex.ind ?_
  intro h kids ih hr d n
  obtain ⟨ha, hk⟩ := hr.parts
  have hL : ∀ l : List Ex, (∀ k ∈ l, k ∈ kids) → ∀ m, (wrL l (d + 1) m).1 = 0 ∨ (wrL l (d + 1) m).1 = 4 := by
    intro l
    induction l with
    | nil => intro _ m; left; rfl
    | cons a r ihr =>
      intro hm m
      rw [wrL]
      split
      · exact ihr (fun k hk' => hm k (by simp [hk'])) _
      · exact ih a (hm a (by simp)) (hk a (hm a (by simp))) _ _
  rw [wr]
  split
  · right; rfl
  · exact hL kids (fun k hk' => hk') _

theorem cnt_pos (x : Ex) : 1 ≤ cnt x := by cases x; rw [cnt]; omega

theorem wr_move : ∀ x : Ex, ∀ d n n' : Int, 0 ≤ n → 0 ≤ n' → (wr x d n).1 = 0 → n' + cnt x ≤ 100 → (wr x d n').1 = 0 := by
  refine Ex.ind ?_
  intro h kids ih d n n' hn hn' h0 hc
  rw [wr] at h0 ⊢
  split at h0
  · simp at h0
  · rename_i hg
    rw [cnt] at hc
    have hg' : ¬ (100 < n' + 1 ∨ 20 < d) := by omega
    rw [if_neg hg']
    split at h0
    · rename_i ha
      rw [if_pos ha]
      have hL : ∀ l : List Ex, (∀ k ∈ l, k ∈ kids) → ∀ m m' : Int, 0 ≤ m → 0 ≤ m' → (wrL l (d + 1) m).1 = 0 → m' + cntL l ≤ 100 → (wrL l (d + 1) m').1 = 0 := by
        intro l
        induction l with
        | nil => intro _ m m' _ _ _ _; rfl
        | cons a r ihr =>
          intro hm m m' h1 h2 h3 h4
          rw [wrL] at h3
          rw [cntL] at h4
          split at h3
          · rename_i hz
            have e1 := ih a (hm a (by simp)) (d + 1) m m' h1 h2 hz (by omega)
            have e2 := (wr_ok a (d + 1) m' h2 e1).2.1
            have e3 := (wr_ok a (d + 1) m h1 hz).2.1
            rw [wrL, if_pos e1, e2]
            rw [e3] at h3
            exact ihr (fun k hk => hm k (by simp [hk])) _ _ (by omega) (by omega) h3 (by omega)
          · rename_i hz; exact absurd h3 hz
      exact hL kids (fun k hk => hk) (n + 1) (n' + 1) (by omega) (by omega) h0 (by omega)
    · rename_i ha; exact absurd h0 ha

theorem wr_num {k : Int} (h0 : 0 ≤ k) (h1 : k ≤ 1000000) {d n : Int} (hd : d ≤ 20) (hn : n + 1 ≤ 100) : wr (numE k) d n = (0, n + 1) := by
  unfold numE
  rw [wr, if_neg (by omega)]
  have : alone ⟨1, k, 0, ⟨#[]⟩, [], []⟩ ([] : List Ex).length = 0 := by
    simp [alone]
    omega
  rw [if_pos this]
  rfl

/-- what is wrong with two things and a sign -/
theorem chk_two {w : ByteArray} (hw : has signs3 w = true) {a b : Ex} (ta : typ a = 0) (tb : typ b = 0) {time : Int} (h0 : 0 ≤ time) (h1 : time ≤ 1000000) : chk (twoE w a b) time = (wrL [a, b] 2 1).1 := by
  have e : wr (twoE w a b) 1 0 = wrL [a, b] 2 1 := by
    unfold twoE
    rw [wr, if_neg (by omega)]
    have : alone ⟨4, 0, 0, w, [], []⟩ [a, b].length = 0 := by
      simp [alone, hw]
    rw [if_pos this]
    rfl
  have et : typ (twoE w a b) = 0 := by
    unfold twoE
    rw [typ, if_neg (by simp), typL, if_pos ta, typL, if_pos tb, typL]
  unfold chk
  rw [e, et]
  by_cases hz : (wrL [a, b] 2 1).1 = 0
  · rw [if_pos hz, if_pos rfl, if_neg (by omega), hz]
  · rw [if_neg hz]

theorem two_err {a b : Ex} (ra : Rt a) (rb : Rt b) : (wrL [a, b] 2 1).1 = 0 ∨ (wrL [a, b] 2 1).1 = 4 := by
  rw [wrL]
  split
  · rw [wrL]
    split
    · left; rw [wrL]
    · exact wr_err b rb _ _
  · exact wr_err a ra _ _

theorem two_self {e : Ex} (h : (wrL [e, e] 2 1).1 = 0) (k : Int) (h0 : 0 ≤ k) (h1 : k ≤ 1000000) : (wrL [e, numE k] 2 1).1 = 0 ∧ (wrL [numE k, e] 2 1).1 = 0 := by
  rw [wrL] at h
  split at h
  · rename_i hz
    have e1 := (wr_ok e 2 1 (by omega) hz).2.1
    rw [e1, wrL] at h
    split at h
    · rename_i hy
      have e2 := (wr_ok e 2 (1 + cnt e) (by omega) hy).2.2.1
      have hp := cnt_pos e
      constructor
      · rw [wrL, if_pos hz, e1, wrL, wr_num h0 h1 (by omega) (by omega), if_pos rfl, wrL]
      · have hm := wr_move e 2 1 2 (by omega) (by omega) hz (by omega)
        rw [wrL, wr_num h0 h1 (by omega) (by omega), if_pos rfl, wrL]
        rw [if_pos (by simpa using hm), wrL]
    · rename_i hy; exact absurd h hy
  · rename_i hz; exact absurd h hz

theorem typ_num (k : Int) : typ (numE k) = 0 := by
  unfold numE
  rw [typ, if_neg (by simp), typL]

/-! cells rise -/

def LS (l : List Ln) : Prop := l.Pairwise fun a b => cmpS a.1 b.1 = -1

theorem ls_of {l : List Ln} (h : (wrLn l).1 = 0) : LS l := by
  unfold wrLn at h
  by_cases h8 : 8 < l.length
  · rw [if_pos h8] at h; exact absurd h (by decide)
  · rw [if_neg h8] at h
    have hall : ∀ n k, (wrLF l n k).1 = 0 → ∀ j, k ≤ j → j < k + n → lnBad l j = 0 := by
      intro n
      induction n with
      | zero => intro k _ j h1 h2; omega
      | succ n ih =>
        intro k hk j h1 h2
        by_cases hb : lnBad l k = 0
        · rw [wrLF_ok hb] at hk
          rcases (show j = k ∨ k + 1 ≤ j from by omega) with e | e
          · subst e; exact hb
          · exact ih (k + 1) hk j e (by omega)
        · rw [wrLF_no hb] at hk; exact absurd hk hb
    have hstep : ∀ k, k + 1 < l.length → cmpS (lser l k) (lser l (k + 1)) = -1 := by
      intro k hk
      have hb := hall l.length 0 h (k + 1) (by omega) (by omega)
      unfold lnBad at hb
      split at hb
      · split at hb
        · simp at hb
        · rename_i hc
          have : ¬ (0 ≤ cmpS (lser l k) (lser l (k + 1))) := fun hh => hc ⟨by omega, by simpa using hh⟩
          rcases cmpS_cases (lser l k) (lser l (k + 1)) with e | ⟨e, _⟩ | e <;> omega
      · rename_i ha; exact absurd hb ha
    have hfar : ∀ d i, i + d + 1 < l.length → cmpS (lser l i) (lser l (i + d + 1)) = -1 := by
      intro d
      induction d with
      | zero => intro i hi; exact hstep i hi
      | succ d ih =>
        intro i hi
        exact cmpS_trans (ih i (by omega)) (hstep (i + d + 1) (by omega))
    refine List.pairwise_iff_getElem.2 fun i j hi hj hij => ?_
    obtain ⟨d, rfl⟩ : ∃ d, j = i + d + 1 := ⟨j - i - 1, by omega⟩
    have := hfar d i hj
    simpa [lser, List.getD, List.getElem?_eq_getElem hi, List.getElem?_eq_getElem hj] using this

theorem winC_from (h : Hd) (time : Int) : ∀ (l : List Ln), ∀ c ∈ winC l h time, ∃ y ∈ l, c.1 = y.1
  | [], c, hc => by cases hc
  | x :: r, c, hc => by
    rw [winC] at hc
    rcases List.mem_append.1 hc with e | e
    · refine ⟨x, by simp, ?_⟩
      unfold winX at e
      split at e
      · split at e
        · simp at e; rw [e]
        · cases e
      · cases e
    · obtain ⟨y, hy, ey⟩ := winC_from h time r c e
      exact ⟨y, by simp [hy], ey⟩

theorem winC_srt (h : Hd) (time : Int) : ∀ l : List Ln, LS l → Srt (winC l h time)
  | [], _ => List.Pairwise.nil
  | x :: r, hl => by
    have hl' := List.pairwise_cons.1 hl
    rw [winC]
    refine List.pairwise_append.2 ⟨?_, winC_srt h time r hl'.2, fun a ha b hb => ?_⟩
    · unfold winX
      split
      · split <;> simp
      · simp
    · have ea : a.1 = x.1 := by
        unfold winX at ha
        split at ha
        · split at ha
          · simp at ha; rw [ha]
          · cases ha
        · cases ha
      obtain ⟨y, hy, ey⟩ := winC_from h time r b hb
      rw [ea, ey]
      exact hl'.1 y hy

theorem allA_srt {w : ByteArray} {ks : List ByteArray} : ∀ (l out : List Cl), Srt out → ∀ r, allA w ks out l = some r → Srt r
  | [], out, ho, r, h => by simp [allA] at h; subst h; exact ho
  | c :: q, out, ho, r, h => by
    rw [allA] at h
    cases hp : putA w (only c.1 ks) (one1 w c.2) out with
    | none => rw [hp] at h; cases h
    | some o => rw [hp] at h; exact allA_srt q o (put_srt _ _ _ _ ho _ hp).1 r h

theorem binA_srt {a b : Mn} {w : ByteArray} : ∀ (l acc : List Cl), ((acc ++ l).map Prod.fst).Pairwise (fun s t => cmpS s t = -1) → ∀ r, binA a b w acc l = some r → (r.map Prod.fst).Pairwise (fun s t => cmpS s t = -1)
  | [], acc, hp, r, h => by simp [binA] at h; subst h; simpa using hp
  | c :: q, acc, hp, r, h => by
    have hskip : ((acc ++ q).map Prod.fst).Pairwise (fun s t => cmpS s t = -1) := by
      refine List.Pairwise.sublist ?_ hp
      exact List.Sublist.map _ (List.Sublist.append (List.Sublist.refl _) (List.sublist_cons_self _ _))
    cases h1 : atM a c.1 with
    | none => rw [binA_no (.inl h1)] at h; exact binA_srt q acc hskip r h
    | some x =>
      cases h2 : atM b c.1 with
      | none => rw [binA_no (.inr h2)] at h; exact binA_srt q acc hskip r h
      | some y =>
        cases h3 : wkd w x y with
        | none => rw [binA_bad h1 h2 h3] at h; cases h
        | some v =>
          rw [binA_yes h1 h2 h3] at h
          exact binA_srt q (acc ++ [(c.1, v)]) (by simpa using hp) r h

theorem srt_map (l : List Cl) : Srt l ↔ (l.map Prod.fst).Pairwise (fun s t => cmpS s t = -1) := by
  unfold Srt
  rw [List.pairwise_map]

/-- a number is one cell of no label -/
def NumOk (m : Mn) : Prop := m.num = true → ∃ v, m.cs = [([], v)]

theorem ev_srt {l : List Ln} (hl : LS l) (time : Int) : ∀ x : Ex, Rt x → ∀ m, ev l time x = some m → Srt m.cs ∧ NumOk m := by
  refine Ex.ind ?_
  intro h kids ih hr m hm
  obtain ⟨ha, hk⟩ := hr.parts
  rcases alone_cases ha with ⟨e, k0, _⟩ | ⟨e, k0, wb⟩ | ⟨e, k0, ab⟩ | ⟨e, k0, sg⟩
  · rw [ev_num e] at hm
    simp at hm
    subst hm
    exact ⟨by simp [Srt], fun _ => ⟨_, rfl⟩⟩
  · rw [ev_win e] at hm
    simp at hm
    subst hm
    exact ⟨winC_srt h time l hl, fun hn => by cases hn⟩
  · match kids, k0 with
    | [k], _ =>
      rw [ev_all e] at hm
      cases hq : ev l time k with
      | none => rw [hq] at hm; simp at hm
      | some q =>
        rw [hq] at hm
        simp only [Option.bind_some] at hm
        cases hr' : allA h.word h.bs [] q.cs with
        | none => rw [hr'] at hm; cases hm
        | some r =>
          rw [hr'] at hm
          simp at hm
          subst hm
          exact ⟨allA_srt _ _ List.Pairwise.nil _ hr', fun hn => by cases hn⟩
  · match kids, k0 with
    | [a, b], _ =>
      rw [ev_bin e] at hm
      cases hq : ev l time a with
      | none => rw [hq] at hm; simp at hm
      | some q =>
        rw [hq] at hm
        cases hq' : ev l time b with
        | none => rw [hq'] at hm; simp at hm
        | some q' =>
          rw [hq'] at hm
          simp only [Option.bind_some] at hm
          have ga := ih a (by simp) (hk a (by simp)) q hq
          have gb := ih b (by simp) (hk b (by simp)) q' hq'
          unfold binM at hm
          cases hr' : binA q q' h.word [] (fromM q q').cs with
          | none => rw [hr'] at hm; cases hm
          | some r =>
            rw [hr'] at hm
            simp at hm
            subst hm
            have gf : Srt (fromM q q').cs := by unfold fromM; split; exact gb.1; exact ga.1
            refine ⟨(srt_map _).2 (binA_srt _ [] (by simpa using (srt_map _).1 gf) r hr'), fun hn => ?_⟩
            have hqa : q.num = true := by
              unfold fromM at hn
              split at hn
              · assumption
              · rename_i hc; exact absurd hn hc
            have hqb : q'.num = true := by unfold fromM at hn; rw [if_pos hqa] at hn; exact hn
            obtain ⟨v, ev'⟩ := gb.2 hqb
            have hf : fromM q q' = q' := by unfold fromM; rw [if_pos hqa]
            rw [hf, ev'] at hr'
            have a1 : atM q [] = some (cl0 q.cs) := by unfold atM; rw [if_pos hqa]
            have a2 : atM q' [] = some (cl0 q'.cs) := by unfold atM; rw [if_pos hqb]
            cases h3 : wkd h.word (cl0 q.cs) (cl0 q'.cs) with
            | none => rw [binA_bad a1 a2 h3] at hr'; cases hr'
            | some u =>
              rw [binA_yes a1 a2 h3] at hr'
              simp [binA] at hr'
              exact ⟨u, hr'.symm⟩

/-! values with signs -/

theorem cellOf_srt : ∀ {l : List Cl}, Srt l → ∀ c ∈ l, cellOf l c.1 = some c.2
  | [], _, c, hc => by cases hc
  | a :: r, hs, c, hc => by
    have hs' := List.pairwise_cons.1 hs
    rw [cellOf]
    rcases List.mem_cons.1 hc with e | e
    · rw [e, if_pos (cmpS_self _)]
    · rw [if_neg (by rw [hs'.1 c e]; decide)]; exact cellOf_srt hs'.2 c e

theorem wkd_twice {v : Int} : wkd (lit [42]) v 2 = wkd (lit [43]) v v := by
  unfold wkd
  rw [if_neg (by decide), if_neg (by decide), if_pos rfl]
  by_cases hv : v = 0
  · subst hv; decide
  · have hm : 0 < max v (-v) := by omega
    have key : (v ≠ 0 ∧ MC / max v (-v) < max 2 (-2)) ↔ big (v + v) = true := by
      unfold big
      rw [decide_eq_true_eq, Int.ediv_lt_iff_lt_mul hm, show max (2 : Int) (-2) = 2 from by decide]
      unfold MC
      omega
    by_cases hb : big (v + v) = true
    · rw [if_pos (key.2 hb), if_pos hb]
    · rw [if_neg (fun h => hb (key.1 h)), if_neg hb, show v * 2 = v + v from by omega]

theorem wkd_less (v : Int) : wkd (lit [45]) v v = some 0 := by
  unfold wkd
  rw [if_neg (by decide), if_pos rfl, show v - v = 0 from by omega, if_neg (by decide)]

theorem wkd_none {v : Int} (h1 : -MC ≤ v) (h2 : v ≤ MC) : wkd (lit [43]) 0 v = some v := by
  unfold wkd
  rw [if_pos rfl, show 0 + v = v from by omega, if_neg]
  unfold big
  rw [decide_eq_true_eq]
  omega

theorem binA_same {a b a' b' : Mn} {w w' : ByteArray} (f g f' g' : Cl → Int) : ∀ (l acc : List Cl), (∀ c ∈ l, atM a c.1 = some (f c) ∧ atM b c.1 = some (g c) ∧ atM a' c.1 = some (f' c) ∧ atM b' c.1 = some (g' c) ∧ wkd w (f c) (g c) = wkd w' (f' c) (g' c)) →
    binA a b w acc l = binA a' b' w' acc l
  | [], acc, _ => rfl
  | c :: r, acc, h => by
    obtain ⟨h1, h2, h3, h4, h5⟩ := h c (by simp)
    cases hk : wkd w (f c) (g c) with
    | none => rw [binA_bad h1 h2 hk, binA_bad h3 h4 (h5 ▸ hk)]
    | some v => rw [binA_yes h1 h2 hk, binA_yes h3 h4 (h5 ▸ hk), binA_same f g f' g' r _ (fun c hc => h c (by simp [hc]))]

theorem binA_val {a b : Mn} {w : ByteArray} (f g u : Cl → Int) : ∀ (l acc : List Cl), (∀ c ∈ l, atM a c.1 = some (f c) ∧ atM b c.1 = some (g c) ∧ wkd w (f c) (g c) = some (u c)) →
    binA a b w acc l = some (acc ++ l.map fun c => (c.1, u c))
  | [], acc, _ => by simp [binA]
  | c :: r, acc, h => by
    obtain ⟨h1, h2, h3⟩ := h c (by simp)
    rw [binA_yes h1 h2 h3, binA_val f g u r _ (fun c hc => h c (by simp [hc]))]
    simp

/-- what is at a cell's series, of a meaning of its own -/
theorem at_self {m : Mn} (hs : Srt m.cs) (hn : NumOk m) : ∀ c ∈ m.cs, atM m c.1 = some c.2 := by
  intro c hc
  unfold atM
  by_cases h : m.num = true
  · rw [if_pos h]
    obtain ⟨v, e⟩ := hn h
    rw [e] at hc ⊢
    simp at hc
    rw [hc]; rfl
  · rw [if_neg h]; exact cellOf_srt hs c hc

def numM (k : Int) : Mn := ⟨true, [([], k)]⟩

theorem bin_signs {m : Mn} (hs : Srt m.cs) (hn : NumOk m) (hf : ∀ c ∈ m.cs, Fine c) :
    (binM m (numM 2) (lit [42])).map (·.cs) = (binM m m (lit [43])).map (·.cs) ∧ (binM m m (lit [45])).map (·.cs) = some (m.cs.map fun c => (c.1, 0)) ∧ (binM (numM 0) m (lit [43])).map (·.cs) = some m.cs := by
  have hself := at_self hs hn
  have ff : fromM m m = m := by unfold fromM; split <;> rfl
  have f0 : fromM (numM 0) m = m := by unfold fromM numM; rw [if_pos rfl]
  have an : ∀ (k : Int) (s : Lb), atM (numM k) s = some k := fun k s => by unfold atM numM; rw [if_pos rfl]; rfl
  refine ⟨?_, ?_, ?_⟩
  · unfold binM
    rw [ff]
    by_cases h : m.num = true
    · have fm : fromM m (numM 2) = numM 2 := by unfold fromM; rw [if_pos h]
      obtain ⟨v, e⟩ := hn h
      rw [fm]
      have a1 : atM m [] = some v := by have := hself ([], v) (by rw [e]; simp); exact this
      have e2 : (numM 2).cs = [([], 2)] := rfl
      rw [e2, e]
      cases hk : wkd (lit [42]) v 2 with
      | none => rw [binA_bad a1 (an 2 []) hk, binA_bad a1 a1 (wkd_twice ▸ hk)]; rfl
      | some u => rw [binA_yes a1 (an 2 []) hk, binA_yes a1 a1 (wkd_twice ▸ hk)]; simp [binA]
    · have fm : fromM m (numM 2) = m := by unfold fromM; rw [if_neg h]
      rw [fm, binA_same (a := m) (b := numM 2) (a' := m) (b' := m) (w := lit [42]) (w' := lit [43]) (fun c => c.2) (fun _ => 2) (fun c => c.2) (fun c => c.2) m.cs [] (fun c hc => ⟨hself c hc, an 2 _, hself c hc, hself c hc, wkd_twice⟩)]
  · unfold binM
    rw [ff, binA_val (fun c => c.2) (fun c => c.2) (fun _ => 0) m.cs [] (fun c hc => ⟨hself c hc, hself c hc, wkd_less _⟩)]
    simp
  · unfold binM
    rw [f0, binA_val (fun _ => 0) (fun c => c.2) (fun c => c.2) m.cs [] (fun c hc => ⟨an 0 _, hself c hc, wkd_none (hf c hc).1 (hf c hc).2.1⟩)]
    simp

/-- SIGNS ARE NUMBERS' -/
theorem signs_ask {l : List LT} {e : Ex} {time : Int} (hok : (GrainU.ask (lns l) e time).2 = 0) :
    (GrainU.ask (lns l) (twoE (lit [43]) e e) time).2 = 4 ∨
    ((GrainU.ask (lns l) (twoE (lit [42]) e (numE 2)) time).2 = (GrainU.ask (lns l) (twoE (lit [43]) e e) time).2 ∧ (GrainU.ask (lns l) (twoE (lit [42]) e (numE 2)) time).1 = (GrainU.ask (lns l) (twoE (lit [43]) e e) time).1 ∧
     (GrainU.ask (lns l) (twoE (lit [45]) e e) time) = ((GrainU.ask (lns l) e time).1.map fun c => (c.1, 0), 0) ∧ (GrainU.ask (lns l) (twoE (lit [43]) (numE 0) e) time) = ((GrainU.ask (lns l) e time).1, 0)) := by
  have h1 : (wrLn (lns l)).1 = 0 := by
    by_cases h : (wrLn (lns l)).1 = 0
    · exact h
    · unfold GrainU.ask at hok; rw [if_neg h] at hok; exact absurd hok h
  have h2 : chk e time = 0 := by
    by_cases h : chk e time = 0
    · exact h
    · unfold GrainU.ask at hok; rw [if_pos h1, if_neg h] at hok; exact absurd hok h
  obtain ⟨m, hm⟩ : ∃ m, ev (lns l) time e = some m := by
    cases hev : ev (lns l) time e with
    | none => unfold GrainU.ask at hok; rw [if_pos h1, if_pos h2, hev] at hok; exact absurd hok (by decide)
    | some m => exact ⟨m, rfl⟩
  obtain ⟨rt, t0, t1⟩ := chk_zero h2
  have ty : typ e = 0 := by
    unfold chk at h2
    split at h2
    · split at h2
      · assumption
      · rename_i h; exact absurd h2 h
    · rename_i h; exact absurd h2 h
  have hA : GrainU.ask (lns l) e time = (m.cs, 0) := by unfold GrainU.ask; rw [if_pos h1, if_pos h2, hm]
  have r1 := right_lines h1
  have gd := ev_gd (l := lns l) (fun x hx => by
    obtain ⟨y, hy, rfl⟩ := List.mem_map.1 hx
    exact ⟨(r1.2 y hy).ser, (r1.2 y hy).smp⟩) (by rw [lns_len]; exact r1.1) time e rt m hm
  obtain ⟨sr, no⟩ := ev_srt (ls_of h1) time e rt m hm
  obtain ⟨b1, b2, b3⟩ := bin_signs sr no gd.fine
  have s1 : has signs3 (lit [43]) = true := by decide
  have s2 : has signs3 (lit [42]) = true := by decide
  have s3 : has signs3 (lit [45]) = true := by decide
  rcases two_err rt rt with hz | hz
  · right
    obtain ⟨w1, _⟩ := two_self hz 2 (by decide) (by decide)
    obtain ⟨_, w2⟩ := two_self hz 0 (by decide) (by decide)
    have en : ∀ k, ev (lns l) time (numE k) = some (numM k) := fun k => ev_num rfl
    have eb : ∀ w a b ma mb, ev (lns l) time a = some ma → ev (lns l) time b = some mb → ev (lns l) time (twoE w a b) = binM ma mb w := fun w a b ma mb ha hb => by
      unfold twoE
      rw [ev_bin rfl, ha, hb]; rfl
    have ask2 : ∀ w a b ma mb, has signs3 w = true → typ a = 0 → typ b = 0 → (wrL [a, b] 2 1).1 = 0 → ev (lns l) time a = some ma → ev (lns l) time b = some mb →
        GrainU.ask (lns l) (twoE w a b) time = (match (binM ma mb w).map (·.cs) with | none => ([], 3) | some c => (c, 0)) := fun w a b ma mb hw ta tb hwr ha hb => by
      unfold GrainU.ask
      rw [if_pos h1, if_pos ((chk_two hw ta tb t0 t1).trans hwr), eb w a b ma mb ha hb]
      cases binM ma mb w <;> rfl
    have p := ask2 (lit [42]) e (numE 2) m (numM 2) s2 ty (typ_num 2) w1 hm (en 2)
    have q := ask2 (lit [43]) e e m m s1 ty ty hz hm hm
    have r := ask2 (lit [45]) e e m m s3 ty ty hz hm hm
    have s := ask2 (lit [43]) (numE 0) e (numM 0) m s1 (typ_num 0) ty w2 (en 0) hm
    rw [b1] at p
    rw [b2] at r
    rw [b3] at s
    rw [p, ← q, r, s, hA]
    exact ⟨rfl, rfl, rfl, rfl⟩
  · left
    unfold GrainU.ask
    rw [if_pos h1, chk_two s1 ty ty t0 t1, if_neg (by rw [hz]; decide)]
    exact hz

end Go.GrainU

/-
  The walks of the closures of MeanSigns: a number, two things with a sign.
-/
namespace Go.GrainU
open Go.RowKit

def numT (k : Int) : ET := .node ⟨1, k, 0, ⟨#[]⟩, [], []⟩ ⟨none, 0, none, 0, none, 0⟩ []
def twoT (s : ByteArray) (K : Nat) (a b : ET) : ET := .node ⟨4, 0, 0, s, [], []⟩ ⟨none, 0, none, 0, some ⟨K, 0, none⟩, 2⟩ [a, b]

theorem numT_ex (k : Int) : (numT k).ex = numE k := rfl
theorem twoT_ex (s : ByteArray) (K : Nat) (a b : ET) : (twoT s K a b).ex = twoE s a.ex b.ex := rfl

theorem numT_in (w : World) (k : Int) : (numT k).In w := by
  simp only [numT, ET.In, InL, mcells, wcells, ecells, List.map_nil]
  exact ⟨⟨.inl rfl, .inl rfl, .inl rfl⟩, ⟨by decide, by decide, by decide, by decide, fun m hm => (by cases hm), fun b hb => (by cases hb), by decide, fun m hm => (by cases hm)⟩, trivial⟩

theorem twoT_in {w : World} {s : ByteArray} (hs : s.size ≤ 9223372036854775806) {K : Nat} {a b : ET} (ha : a.In w) (hb : b.In w) (hk : Seg w (some ⟨K, 0, none⟩) (ecells [a, b])) : (twoT s K a b).In w := by
  simp only [twoT, ET.In, InL, mcells, wcells, List.map_nil]
  exact ⟨⟨.inl rfl, .inl rfl, hk⟩, ⟨by decide, by decide, by simp, hs, fun m hm => (by cases hm), fun b hb => (by cases hb), by decide, fun m hm => (by cases hm)⟩, ha, hb, trivial⟩

/-- what fails has no cells -/
theorem ask_no {l : List Ln} {e : Ex} {time : Int} (h : (GrainU.ask l e time).2 ≠ 0) : (GrainU.ask l e time).1 = [] := by
  unfold GrainU.ask at *
  split
  · split
    · rename_i h1 h2
      rw [if_pos h1, if_pos h2] at h
      cases hev : ev l time e with
      | none => rfl
      | some m => rw [hev] at h; simp at h
    · rfl
  · rfl

end Go.GrainU
namespace Go.Proofs.Ythohkokhimdamaa
open Go.RowKit Go.GrainU

theorem below_set7' {w w' : World} {base B : Nat} (h : Below base w w') (hb : base ≤ B) (v0 v1 v2 v3 v4 v5 v6 : Value) : Below base w (((((((w'.setCell ⟨B, 0, none⟩ v0).setCell ⟨B, 1, none⟩ v1).setCell ⟨B, 2, none⟩ v2).setCell ⟨B, 3, none⟩ v3).setCell ⟨B, 4, none⟩ v4).setCell ⟨B, 5, none⟩ v5).setCell ⟨B, 6, none⟩ v6) :=
  ((((((h.setCell hb _).setCell hb _).setCell hb _).setCell hb _).setCell hb _).setCell hb _).setCell hb _

end Go.Proofs.Ythohkokhimdamaa

/-
  Totals by all labels are the cells; by none there is one; counts count. No program is named here.
-/
namespace Go.GrainU
open Go.RowKit

theorem putA_end {w : ByteArray} {s : Lb} {v : Int} : ∀ out : List Cl, (∀ c ∈ out, cmpS c.1 s = -1) → putA w s v out = some (out ++ [(s, v)])
  | [], _ => rfl
  | c :: r, h => by
    rw [putA, if_pos (by rw [h c (by simp)]; decide), putA_end r (fun x hx => h x (by simp [hx]))]; rfl

theorem only_has {s : Lb} {ks : List ByteArray} (h : ∀ x ∈ s, has ks x.1 = true) : only s ks = s := by
  unfold only; exact List.filter_eq_self.2 h

theorem only_none (s : Lb) : only s [] = [] := by
  unfold only
  rw [List.filter_eq_nil_iff]
  intro x _
  simp [has]

/-- by all labels it is itself -/
theorem allA_id {w : ByteArray} {ks : List ByteArray} (hw : w ≠ lit [99, 111, 117, 110, 116]) : ∀ (l out : List Cl), Srt (out ++ l) → (∀ c ∈ l, ∀ x ∈ c.1, has ks x.1 = true) → allA w ks out l = some (out ++ l)
  | [], out, _, _ => by simp [allA]
  | c :: q, out, hs, hk => by
    have ho : ∀ x ∈ out, cmpS x.1 c.1 = -1 := fun x hx => (List.pairwise_append.1 hs).2.2 x hx c (by simp)
    rw [allA, only_has (hk c (by simp)), show one1 w c.2 = c.2 from if_neg hw, putA_end out ho]
    show allA w ks (out ++ [(c.1, c.2)]) q = _
    rw [allA_id hw q (out ++ [c]) (by simpa using hs) (fun x hx => hk x (by simp [hx]))]
    simp

/-- by none there is one -/
theorem allA_more {w : ByteArray} : ∀ (l : List Cl) (u : Int) (k : Nat), (∀ c ∈ l, -1500000000000 ≤ c.2 ∧ c.2 ≤ 1500000000000) → -(1500000000000 * (k : Int)) ≤ u → u ≤ 1500000000000 * (k : Int) → k + l.length ≤ 8 → 1 ≤ k → ∃ u', allA w [] [([], u)] l = some [([], u')] ∧ (w = lit [99, 111, 117, 110, 116] → u' = u + l.length)
  | [], u, k, _, _, _, _, _ => ⟨u, rfl, fun _ => by simp⟩
  | c :: q, u, k, hc, h1, h2, h8, hk => by
    have hl : (c :: q).length = q.length + 1 := rfl
    have hv : -1500000000000 ≤ one1 w c.2 ∧ one1 w c.2 ≤ 1500000000000 := by
      unfold one1
      split
      · omega
      · exact hc c (by simp)
    obtain ⟨v, ev⟩ : ∃ v, v = one1 w c.2 := ⟨_, rfl⟩
    rw [← ev] at hv
    obtain ⟨x, ex⟩ : ∃ x, x = tog w u v := ⟨_, rfl⟩
    have hx : -(1500000000000 * ((k + 1 : Nat) : Int)) ≤ x ∧ x ≤ 1500000000000 * ((k + 1 : Nat) : Int) := by
      rw [ex]
      unfold tog
      split
      · omega
      · split <;> omega
    have hb : big x = false := by
      have h9 : ¬ (MC < x ∨ x < -MC) := by unfold MC; omega
      exact decide_eq_false h9
    obtain ⟨u', e1, e2⟩ := allA_more q x (k + 1) (fun y hy => hc y (by simp [hy])) hx.1 hx.2 (by omega) (by omega)
    refine ⟨u', ?_, fun hw => ?_⟩
    · rw [allA, only_none, ← ev, putA, if_neg (by rw [cmpS_self]; decide), if_pos (cmpS_self _)]
      simp only
      rw [← ex, hb]
      simpa using e1
    · rw [e2 hw, ex, ev]
      have h3 : tog w u (one1 w c.2) = u + 1 := by
        rw [hw]
        unfold tog one1
        rw [if_neg (by decide), if_neg (by decide), if_pos rfl]
      rw [h3, hl]
      omega

theorem allA_none {w : ByteArray} (l : List Cl) (hc : ∀ c ∈ l, -1500000000000 ≤ c.2 ∧ c.2 ≤ 1500000000000) (h8 : l.length ≤ 8) : ∃ r, allA w [] [] l = some r ∧ r.length = min l.length 1 ∧ (w = lit [99, 111, 117, 110, 116] → 0 < l.length → cl0 r = l.length) := by
  cases l with
  | nil => exact ⟨[], rfl, rfl, fun _ h => by simp at h⟩
  | cons c q =>
    have hl : (c :: q).length = q.length + 1 := rfl
    have hv : -1500000000000 ≤ one1 w c.2 ∧ one1 w c.2 ≤ 1500000000000 := by
      unfold one1
      split
      · omega
      · exact hc c (by simp)
    obtain ⟨u', e1, e2⟩ := allA_more (w := w) q (one1 w c.2) 1 (fun y hy => hc y (by simp [hy])) (by omega) (by omega) (by omega) (by omega)
    refine ⟨[([], u')], ?_, by simp, fun hw _ => ?_⟩
    · rw [allA, only_none, putA]; exact e1
    · show u' = _
      rw [e2 hw, hw, hl]
      unfold one1
      rw [if_pos rfl]
      omega

/-- the keys of series, each once -/
def addK (b : List ByteArray) (k : ByteArray) : List ByteArray := if has b k = true then b else b ++ [k]
def byS (b : List ByteArray) (s : Lb) : List ByteArray := s.foldl (fun b x => addK b x.1) b
def byL (b : List ByteArray) (l : List Ln) : List ByteArray := l.foldl (fun b x => byS b x.1) b

theorem has_append (a b : List ByteArray) (k : ByteArray) : has (a ++ b) k = (has a k || has b k) := by
  unfold has
  simp

theorem has_addK (b : List ByteArray) (k : ByteArray) : has (addK b k) k = true := by
  unfold addK
  split
  · assumption
  · rw [has_append]; simp [has]

theorem has_addK_of {b : List ByteArray} {k x : ByteArray} (h : has b x = true) : has (addK b k) x = true := by
  unfold addK
  split
  · exact h
  · rw [has_append, h]; rfl

theorem has_byS_of {x : ByteArray} : ∀ (s : Lb) (b : List ByteArray), has b x = true → has (byS b s) x = true
  | [], _, h => h
  | y :: r, b, h => has_byS_of r (addK b y.1) (has_addK_of h)

theorem has_byS : ∀ (s : Lb) (b : List ByteArray), ∀ x ∈ s, has (byS b s) x.1 = true
  | y :: r, b, x, hx => by
    rcases List.mem_cons.1 hx with e | e
    · rw [e]; exact has_byS_of r (addK b y.1) (has_addK b y.1)
    · exact has_byS r (addK b y.1) x e

theorem has_byL_of {x : ByteArray} : ∀ (l : List Ln) (b : List ByteArray), has b x = true → has (byL b l) x = true
  | [], _, h => h
  | y :: r, b, h => has_byL_of r (byS b y.1) (has_byS_of y.1 b h)

theorem has_byL : ∀ (l : List Ln) (b : List ByteArray), ∀ y ∈ l, ∀ x ∈ y.1, has (byL b l) x.1 = true
  | z :: r, b, y, hy, x, hx => by
    rcases List.mem_cons.1 hy with e | e
    · subst e; exact has_byL_of r (byS b y.1) (has_byS y.1 b x hx)
    · exact has_byL r (byS b z.1) y e x hx

/-- each key of series that are right is a name -/
theorem named_addK {b : List ByteArray} {k : ByteArray} (h : ∀ x ∈ b, Grain.named x = true) (hk : Grain.named k = true) : ∀ x ∈ addK b k, Grain.named x = true := by
  unfold addK
  split
  · exact h
  · intro x hx
    rcases List.mem_append.1 hx with e | e
    · exact h x e
    · simp at e; rw [e]; exact hk

theorem named_byS : ∀ (s : Lb) (b : List ByteArray), (∀ x ∈ b, Grain.named x = true) → (∀ x ∈ s, Grain.named x.1 = true) → ∀ x ∈ byS b s, Grain.named x = true
  | [], _, h, _ => h
  | y :: r, b, h, hs => named_byS r (addK b y.1) (named_addK h (hs y (by simp))) (fun x hx => hs x (by simp [hx]))

theorem named_byL : ∀ (l : List Ln) (b : List ByteArray), (∀ x ∈ b, Grain.named x = true) → (∀ y ∈ l, ∀ x ∈ y.1, Grain.named x.1 = true) → ∀ x ∈ byL b l, Grain.named x = true
  | [], _, h, _ => h
  | y :: r, b, h, hs => named_byL r (byS b y.1) (named_byS y.1 b h (hs y (by simp))) (fun z hz => hs z (by simp [hz]))

theorem ask_zero {l : List Ln} {e : Ex} {time : Int} (h : (GrainU.ask l e time).2 = 0) : (wrLn l).1 = 0 ∧ chk e time = 0 ∧ ∃ m, ev l time e = some m ∧ (GrainU.ask l e time).1 = m.cs := by
  unfold GrainU.ask at h ⊢
  by_cases h0 : (wrLn l).1 = 0
  · rw [if_pos h0] at h ⊢
    by_cases h1 : chk e time = 0
    · rw [if_pos h1] at h ⊢
      cases hv : ev l time e with
      | none => rw [hv] at h; simp at h
      | some m => exact ⟨h0, h1, m, rfl, rfl⟩
    · rw [if_neg h1] at h; exact absurd h h1
  · rw [if_neg h0] at h; exact absurd h h0

def totE (w : ByteArray) (ks : List ByteArray) (e : Ex) : Ex := .mk ⟨3, 0, 0, w, [], ks⟩ [e]

theorem win_leaf {h : Hd} {kids : List Ex} {time : Int} (he : chk (.mk h kids) time = 0) (h2 : h.kind = 2) : kids = [] ∧ winBad h = 0 := by
  obtain ⟨hr, _, _⟩ := chk_zero he
  obtain ⟨ha, _⟩ := hr.parts
  rcases alone_cases ha with ⟨e, _⟩ | ⟨_, k0, wb⟩ | ⟨e, _⟩ | ⟨e, _⟩
  · omega
  · exact ⟨List.length_eq_zero_iff.1 k0, wb⟩
  · omega
  · omega

theorem chk_tot {w : ByteArray} {ks : List ByteArray} {h : Hd} {kids : List Ex} {time : Int} (hw : has totals4 w = true) (hk : ks.length ≤ 4) (hn : ∀ x ∈ ks, Grain.named x = true) (he : chk (.mk h kids) time = 0) (h2 : h.kind = 2) : chk (totE w ks (.mk h kids)) time = 0 := by
  obtain ⟨rfl, wb⟩ := win_leaf he h2
  obtain ⟨_, t0, t1⟩ := chk_zero he
  have ha : alone h ([] : List Ex).length = 0 := by
    unfold alone
    rw [if_neg (by omega), if_pos h2]
    simpa using wb
  have hb : alone ⟨3, 0, 0, w, [], ks⟩ [Ex.mk h []].length = 0 := by
    have h4 : ¬ 4 < ks.length := by omega
    have ha' : ks.all Grain.named = true := List.all_eq_true.2 hn
    simp [alone, allBad, hw, h4, ha']
  have w1 : wr (.mk h []) 2 1 = (0, 2) := by
    rw [wr, if_neg (by omega), if_pos ha, wrL]; rfl
  have e1 : wr (totE w ks (.mk h [])) 1 0 = (0, 2) := by
    unfold totE
    rw [wr, if_neg (by omega), if_pos hb]
    show wrL [Ex.mk h []] 2 1 = (0, 2)
    rw [wrL, if_pos (by rw [w1]), w1, wrL]
  have t2 : typ (.mk h []) = 0 := by
    rw [typ, if_neg (fun hh => by have := hh.1; omega), typL]
  have e2 : typ (totE w ks (.mk h [])) = 0 := by
    unfold totE
    have hv : vecL [Ex.mk h []] = true := by simp [vecL, vec, h2]
    rw [typ, if_neg (by rw [hv]; simp), typL, if_pos t2, typL]
  unfold chk
  rw [e1, e2]
  simp only [if_true]
  rw [if_neg (by omega)]

theorem ask_tot {l : List Ln} {w : ByteArray} {ks : List ByteArray} {h : Hd} {kids : List Ex} {time : Int} (hw : has totals4 w = true) (hk : ks.length ≤ 4) (hn : ∀ x ∈ ks, Grain.named x = true) (ha : (GrainU.ask l (.mk h kids) time).2 = 0) (h2 : h.kind = 2) :
    (GrainU.ask l (.mk h kids) time).1 = winC l h time ∧ GrainU.ask l (totE w ks (.mk h kids)) time = (match allA w ks [] (winC l h time) with | none => ([], 3) | some c => (c, 0)) := by
  obtain ⟨h0, h1, m, hm, he⟩ := ask_zero ha
  rw [ev_win h2] at hm
  injection hm with hm
  refine ⟨by rw [he, ← hm], ?_⟩
  unfold GrainU.ask
  rw [if_pos h0, if_pos (chk_tot hw hk hn h1 h2)]
  unfold totE
  rw [ev_all rfl, ev_win h2]
  simp only [Option.bind_some]
  cases allA w ks [] (winC l h time) <;> rfl

/-- MeanTotals, purely -/
theorem totals_pure {l : List Ln} {h : Hd} {kids : List Ex} {time : Int} (ha : (GrainU.ask l (.mk h kids) time).2 = 0) (h2 : h.kind = 2) (h4 : (byL [] l).length ≤ 4) (hR : ∀ x ∈ l, x.1.length ≤ 4 ∧ Grain.Right x.2) (hN : ∀ y ∈ l, ∀ x ∈ y.1, Grain.named x.1 = true) :
    (∀ w, has totals4 w = true → w ≠ lit [99, 111, 117, 110, 116] → GrainU.ask l (totE w (byL [] l) (.mk h kids)) time = ((GrainU.ask l (.mk h kids) time).1, 0)) ∧
    (∀ w, has totals4 w = true → (GrainU.ask l (totE w [] (.mk h kids)) time).2 = 0 ∧ (GrainU.ask l (totE w [] (.mk h kids)) time).1.length = min (GrainU.ask l (.mk h kids) time).1.length 1 ∧ (w = lit [99, 111, 117, 110, 116] → 0 < (GrainU.ask l (.mk h kids) time).1.length → cl0 (GrainU.ask l (totE w [] (.mk h kids)) time).1 = (GrainU.ask l (.mk h kids) time).1.length)) := by
  obtain ⟨h0, _, _⟩ := ask_zero ha
  have h8 := (wrLn_zero h0).1
  constructor
  · intro w hw hc
    obtain ⟨e1, e2⟩ := ask_tot (ks := byL [] l) hw h4 (named_byL l [] (fun x hx => by cases hx) hN) ha h2
    rw [e2, e1, allA_id hc (winC l h time) [] (by simpa using winC_srt h time l (ls_of h0)) (fun c hcc x hx => by
      obtain ⟨y, hy, ey⟩ := winC_from h time l c hcc
      rw [ey] at hx
      exact has_byL l [] y hy x hx)]
    rfl
  · intro w hw
    obtain ⟨e1, e2⟩ := ask_tot (ks := []) hw (by simp) (fun x hx => by cases hx) ha h2
    obtain ⟨r, e3, e4, e5⟩ := allA_none (w := w) (winC l h time) (fun c hc => by
      have := winC_fine l hR h time c hc
      unfold W1 at this
      exact ⟨this.1, this.2.1⟩) (Nat.le_trans (winC_len l h time) h8)
    rw [e2, e1, e3]
    exact ⟨rfl, e4, e5⟩

end Go.GrainU

/-
  A map that holds words, all true: a set of words that grows.
-/
namespace Go.GrainU
open Go.RowKit

/-- the map in block M has just these words, and each is true -/
def MapKeys (w : World) (M : Nat) (ks : List ByteArray) : Prop :=
  ∃ es clock, w.heap[M]? = some (.map es clock) ∧ (∀ e ∈ es.toList, ∃ k, e.key = .string k ∧ e.val = .bool true ∧ has ks k = true) ∧ (∀ k, has ks k = true → ∃ e ∈ es.toList, e.key = .string k)

theorem MapKeys.new (w : World) : MapKeys (w.alloc (.map #[] 0)) w.heap.size [] :=
  ⟨#[], 0, heap_alloc_new w _, fun e he => by simp at he, fun k hk => by simp [has] at hk⟩

theorem MapKeys.below {w w' : World} {M : Nat} {ks : List ByteArray} (h : MapKeys w M ks) (hb : Below w.heap.size w w') : MapKeys w' M ks := by
  obtain ⟨es, c, h1, h2⟩ := h
  exact ⟨es, c, by rw [hb.block M (lt_of_block h1)]; exact h1, h2⟩

theorem MapKeys.kept {w w' : World} {M : Nat} {ks : List ByteArray} {row : Option Nat} (h : MapKeys w M ks) (hg : w.grownBy w' row) (hr : row ≠ some M) : MapKeys w' M ks := by
  obtain ⟨es, c, h1, h2⟩ := h
  exact ⟨es, c, by rw [hg.block M (lt_of_block h1) (fun e => hr e.symm)]; exact h1, h2⟩

theorem MapKeys.isKey {es : Array MapEntry} {ks : List ByteArray} (h1 : ∀ e ∈ es.toList, ∃ k, e.key = .string k ∧ e.val = .bool true ∧ has ks k = true) : ∀ x ∈ es.toList, MapKept.IsKey .string x.key := fun x hx => by
  obtain ⟨k, hk, _⟩ := h1 x hx
  rw [hk]; simp [MapKept.IsKey]

theorem keys_get {P : Program} {w : World} {M : Nat} {ks : List ByteArray} {mty kt et : TypeId} (hm : P.underlying mty = some (.map kt et)) (hk : P.underlying kt = some .string) (hz : (zeroValue et).run P w = .ok (.bool false) w) (h : MapKeys w M ks) (x : ByteArray) :
    (Instr.lookup mty (.map (some M)) (.string x) false).run P w = .ok (.bool (has ks x)) w := by
  obtain ⟨es, clock, hb, h1, h2⟩ := h
  have hkx : MapKept.IsKey .string (.string x) := by simp [MapKept.IsKey]
  have hc : (Instr.checkKey es.isEmpty 10000 kt (.string x)).run P w = .ok () w := MapKept.run_checkKey (k := .string x) hk hkx es.isEmpty 9999
  rcases MapKept.findNow_spec hkx es.toList 0 (MapKeys.isKey h1) with ⟨hf, hn⟩ | ⟨j, e, hf, hj, he⟩
  · have hx : has ks x = false := by
      cases hh : has ks x with
      | false => rfl
      | true =>
        obtain ⟨e, he, ek⟩ := h2 x hh
        exact absurd ek (hn e he)
    rw [hx]
    simp [Instr.lookup, run_underlying hm, MapKept.run_getObj_map hb, hc, MapKept.run_findKey hk hf, hz, Result.andThen]
  · obtain ⟨k, a, b, c⟩ := h1 e (List.mem_of_getElem? hj)
    rw [he] at a
    injection a with a
    subst a
    rw [c]
    rw [b] at hf
    simp [Instr.lookup, run_underlying hm, MapKept.run_getObj_map hb, hc, MapKept.run_findKey hk hf, Result.andThen]

theorem keys_put {P : Program} {w : World} {M : Nat} {ks : List ByteArray} {mty kt et : TypeId} (hm : P.underlying mty = some (.map kt et)) (hk : P.underlying kt = some .string) (h : MapKeys w M ks) (x : ByteArray) :
    ∃ w', (Instr.mapUpdate mty (.map (some M)) (.string x) (.bool true)).run P w = .ok () w' ∧ MapKeys w' M (addK ks x) ∧ w.grownBy w' (some M) := by
  obtain ⟨es, clock, hb, h1, h2⟩ := h
  have hkx : MapKept.IsKey .string (.string x) := by simp [MapKept.IsKey]
  have hc : (Instr.checkKey false 10000 kt (.string x)).run P w = .ok () w := MapKept.run_checkKey (k := .string x) hk hkx false 9999
  have hgr : ∀ o : Obj, w.grownBy { w with heap := w.heap.setIfInBounds M o } (some M) := fun o => ⟨rfl, rfl, rfl, by simp, fun k _ hne => (MapKept.heap_set hb).2 k (fun e => hne (by rw [e]))⟩
  rcases MapKept.findNow_spec hkx es.toList 0 (MapKeys.isKey h1) with ⟨hf, hn⟩ | ⟨j, e, hf, hj, he⟩
  · have hx : has ks x = false := by
      cases hh : has ks x with
      | false => rfl
      | true =>
        obtain ⟨e, he, ek⟩ := h2 x hh
        exact absurd ek (hn e he)
    have ea : addK ks x = ks ++ [x] := by unfold addK; rw [hx]; rfl
    refine ⟨_, by simp [Instr.mapUpdate, run_underlying hm, MapKept.run_getObj_map hb, hc, MapKept.run_findKey hk hf, MapKept.run_setObj_map _ hb, Result.andThen]; rfl, ?_, hgr _⟩
    refine ⟨_, _, (MapKept.heap_set hb).1, fun e he => ?_, fun k hk' => ?_⟩
    · simp at he
      rcases he with he | he
      · obtain ⟨k, a, b, c⟩ := h1 e (by simpa using he)
        exact ⟨k, a, b, by rw [ea, has_append, c]; rfl⟩
      · subst he
        exact ⟨x, rfl, rfl, has_addK ks x⟩
    · rw [ea, has_append] at hk'
      cases hh : has ks k with
      | true =>
        obtain ⟨e, he, ek⟩ := h2 k hh
        exact ⟨e, by simp; left; simpa using he, ek⟩
      | false =>
        rw [hh] at hk'
        simp [has] at hk'
        subst hk'
        exact ⟨{ key := .string x, val := .bool true, born := clock }, by simp, rfl⟩
  · have hj' : es[j]? = some e := by simpa using hj
    obtain ⟨k, a, b, c⟩ := h1 e (List.mem_of_getElem? hj)
    rw [he] at a
    injection a with a
    subst a
    have ea : addK ks x = ks := by unfold addK; rw [if_pos c]
    refine ⟨_, by simp [Instr.mapUpdate, run_underlying hm, MapKept.run_getObj_map hb, hc, MapKept.run_findKey hk hf, hj', he, MapKept.run_keyThatStays hkx, MapKept.run_setObj_map _ hb, Result.andThen]; rfl, ?_, hgr _⟩
    rw [ea]
    refine ⟨_, _, (MapKept.heap_set hb).1, fun y hy => ?_, fun k hk' => ?_⟩
    · rw [Array.mem_toList_iff, Array.mem_iff_getElem?] at hy
      obtain ⟨i, hi⟩ := hy
      rw [Array.getElem?_modify] at hi
      by_cases hij : j = i
      · subst hij
        rw [if_pos rfl, hj'] at hi
        simp at hi
        subst hi
        exact ⟨x, rfl, rfl, c⟩
      · rw [if_neg hij] at hi
        exact h1 y (by rw [Array.mem_toList_iff, Array.mem_iff_getElem?]; exact ⟨i, hi⟩)
    · obtain ⟨y, hy, ey⟩ := h2 k hk'
      rw [Array.mem_toList_iff, Array.mem_iff_getElem?] at hy
      obtain ⟨i, hi⟩ := hy
      by_cases hij : j = i
      · subst hij
        rw [hj'] at hi
        injection hi with hi
        subst hi
        rw [he] at ey
        injection ey with ey
        subst ey
        exact ⟨{ e with key := .string x, val := .bool true }, by
          rw [Array.mem_toList_iff, Array.mem_iff_getElem?]
          exact ⟨j, by rw [Array.getElem?_modify, if_pos rfl, hj']; rfl⟩, rfl⟩
      · exact ⟨y, by
          rw [Array.mem_toList_iff, Array.mem_iff_getElem?]
          exact ⟨i, by rw [Array.getElem?_modify, if_neg hij]; exact hi⟩, ey⟩

/-- the store of a word, for the walk -/
theorem wpList_keyput {P : Program} (w : World) {ops : Array Oper} {rest : List Oper} {o : Oper} {a : Act} {Q : Exit → Act → World → Prop} (hg : o.guard = none) (m x v : Operand) (t : TypeId) (hop : o.op = Op.mapUpdate t m x v)
    (kt et : TypeId) (hm : P.underlying t = some (.map kt et)) (hk : P.underlying kt = some .string) (M : Nat) (ks : List ByteArray) (k : ByteArray) (em : a.eval m = .map (some M)) (ex : a.eval x = .string k) (ev : a.eval v = .bool true) (h : MapKeys w M ks)
    (hK : ∀ w', MapKeys w' M (addK ks k) → w.grownBy w' (some M) → wpList P ops Q rest (a.put o.dst undef) w') : wpList P ops Q (o :: rest) a w := by
  refine wpList_plain hg fun K' hK' => ?_
  obtain ⟨w', hrun, r1, r2⟩ := keys_put hm hk h k
  unfold Oper.wp
  simp [execOp, hop, em, ex, ev, hrun, Result.andThen]
  exact hK' _ _ (hK w' r1 r2)

end Go.GrainU

/-
  The walk of the closure of MeanTotals.
-/
namespace Go.GrainU
open Go.RowKit

def totT (s : ByteArray) (bs : List ByteArray) (bo : Option Addr) (bc K : Nat) (a : ET) : ET := .node ⟨3, 0, 0, s, [], bs⟩ ⟨none, 0, bo, bc, some ⟨K, 0, none⟩, 1⟩ [a]

theorem totT_ex (s : ByteArray) (bs : List ByteArray) (bo : Option Addr) (bc K : Nat) (a : ET) : (totT s bs bo bc K a).ex = totE s bs a.ex := rfl

theorem totT_in {w : World} {s : ByteArray} (hs : s.size ≤ 9223372036854775806) {bs : List ByteArray} {bo : Option Addr} {bc K : Nat} {a : ET} (ha : a.In w) (hb : Seg w bo (wcells bs)) (h1 : bs.length ≤ 9223372036854775806) (h2 : ∀ b ∈ bs, b.size ≤ 9223372036854775807) (h3 : bs.length ≤ bc) (hk : Seg w (some ⟨K, 0, none⟩) (ecells [a])) : (totT s bs bo bc K a).In w := by
  simp only [totT, ET.In, InL, mcells]
  exact ⟨⟨.inl rfl, hb, hk⟩, ⟨by decide, h1, by simp, hs, fun m hm => (by cases hm), h2, h3, fun m hm => (by cases hm)⟩, ha, trivial⟩

end Go.GrainU
namespace Go.Proofs.Ythohkokhimdamaa
open Go.RowKit Go.GrainU

set_option maxRecDepth 100000 in
set_option maxHeartbeats 2000000 in
theorem mtot1_any (l : List LT) (t : ET) (time : Int) (ao bo : Option Addr) (n cap bn bc Bl Be Bt : Nat) (s : ByteArray) (bs : List ByteArray) (w : World) (cl : w.cell? ⟨Bl, 0, none⟩ = some (.slice ao n cap)) (ce : w.heap[Be]? = some (.cells #[.int .i64 t.hd.kind, .int .i64 t.hd.n, .int .i64 t.hd.range, .string t.hd.word, .slice t.sp.ma t.hd.ms.length t.sp.mc, .slice t.sp.ba t.hd.bs.length t.sp.bc, .slice t.sp.ka t.kids.length t.sp.kc] 27 (0, 0))) (ct : w.cell? ⟨Bt, 0, none⟩ = some (.int .i64 time))
    (hs : Seg w ao (tcells l)) (hl : LnsIn w l) (hin : t.In w) (hn : n = l.length) (hss : s.size ≤ 9223372036854775806) (hb : Seg w bo (wcells bs)) (h0 : bn = bs.length) (h1 : bs.length ≤ 9223372036854775806) (h2 : ∀ b ∈ bs, b.size ≤ 9223372036854775807) (h3 : bs.length ≤ bc) :
    Calls Try.prog 6 #[.string s, .slice bo bn bc, .pointer (some ⟨Bl, 0, none⟩), .pointer (some ⟨Be, 0, none⟩), .pointer (some ⟨Bt, 0, none⟩)] w fun e w' => ∃ cts co N d, e = .returned (.tuple #[.slice co N d, .int .i64 (GrainU.ask (lns l) (totE s bs t.ex) time).2]) ∧ cls cts = (GrainU.ask (lns l) (totE s bs t.ex) time).1 ∧ N = cts.length ∧ CsIn w' co cts ∧ Below w.heap.size w w' := by
  have ll : Bl < w.heap.size := World.block_lt_of_cell? w _ cl
  have lb : Bt < w.heap.size := World.block_lt_of_cell? w _ ct
  have le : Be < w.heap.size := lt_of_block ce
  obtain ⟨p0, p1, p2, p3, p4, p5, p6⟩ := seven_cells ce
  have PA := hide (fun (W : World) (K : Nat) (hb' : Below w.heap.size w W) (hk : Seg W (some ⟨K, 0, none⟩) (ecells [t])) => mask_any l (totT s bs bo bc K t) time ao n cap W (hs.below hb') (hl.below hb') (totT_in hss (ET.In.below hb' t hin) (hb.below hb') h1 h2 h3 hk) hn)
  have HE : Hid (∀ K, (totT s bs bo bc K t).ex = totE s bs t.ex) := fun K => rfl
  have HV : Hid (∀ K, eval (totT s bs bo bc K t) = .agg #[.int .i64 3, .int .i64 0, .int .i64 0, .string s, .slice none 0 0, .slice bo bn bc, .slice (some ⟨K, 0, none⟩) 1 1]) := fun K => by rw [h0]; rfl
  clear hs hl hin hn hb h0 h1 h2 h3 ce hss
  go_enter Try.func6, Try.ntmps6
  go_wp2_with fail
  obtain ⟨W, hW⟩ : ∃ W, W = w.alloc (.cells #[.int .i64 t.hd.kind, .int .i64 t.hd.n, .int .i64 t.hd.range, .string t.hd.word, .slice t.sp.ma t.hd.ms.length t.sp.mc, .slice t.sp.ba t.hd.bs.length t.sp.bc, .slice t.sp.ka t.kids.length t.sp.kc] 27) := ⟨_, rfl⟩
  have bel0 : Below w.heap.size w W := by rw [hW]; exact (Below.refl _ _).alloc (Nat.le_refl _) _
  have hk : Seg W (some ⟨w.heap.size, 0, none⟩) (ecells [t]) := by rw [hW]; exact seg_new w #[.int .i64 t.hd.kind, .int .i64 t.hd.n, .int .i64 t.hd.range, .string t.hd.word, .slice t.sp.ma t.hd.ms.length t.sp.mc, .slice t.sp.ba t.hd.bs.length t.sp.bc, .slice t.sp.ka t.kids.length t.sp.kc] 27
  have k1 := PA.out W w.heap.size bel0 hk
  rw [HV.out, HE.out] at k1
  rw [← hW]
  refine k1.mono ?_
  rintro e w1 ⟨cts, co, N, d, rfl, hc, hN, hI, b1⟩
  have b2 := below_step b1 bel0
  have HC := hide hc
  have HN := hide hN
  clear hc hN k1 hW hk PA HV HE p0 p1 p2 p3 p4 p5 p6 cl ct
  go_wp2
  go_ret2
  exact ⟨cts, co, N, d, rfl, HC.out, HN.out, hI, b2⟩

end Go.Proofs.Ythohkokhimdamaa

/-
  The walk of MeanTotals.
-/
namespace Go.GrainU
open Go.RowKit

theorem tex_mk (t : ET) : t.ex = .mk t.hd (exL t.kids) := by cases t; rfl

theorem byL_append (b : List ByteArray) (l : List Ln) (x : Ln) : byL b (l ++ [x]) = byS (byL b l) x.1 := by simp [byL]
theorem byS_take (b : List ByteArray) {s : Lb} {q : Nat} (h : q < s.length) : byS b (s.take (q + 1)) = addK (byS b (s.take q)) (lk s q) := by
  rw [take_lab h]
  simp [byS]

theorem wcells_len (l : List ByteArray) : (wcells l).length = l.length := by simp [wcells]

theorem wrongSF_zero (s : Lb) (n : Nat) : ∀ k, wrongSF s n k = 0 → ∀ j, k ≤ j → j < k + n → badS s j = 0 := by
  induction n with
  | zero => intro k _ j h1 h2; omega
  | succ n ih =>
    intro k h j h1 h2
    by_cases hb : badS s k = 0
    · rw [wrongSF_ok hb] at h
      rcases Nat.lt_or_ge k j with h3 | h3
      · exact ih (k + 1) h j h3 (by omega)
      · rw [show j = k from by omega]; exact hb
    · rw [wrongSF_no hb] at h; exact absurd h hb

theorem wrongS_named {s : Lb} (h : wrongS s = 0) : ∀ x ∈ s, Grain.named x.1 = true := by
  intro x hx
  obtain ⟨j, hj, rfl⟩ := List.mem_iff_getElem.1 hx
  unfold wrongS at h
  by_cases h4 : 4 < s.length
  · rw [if_pos h4] at h; simp at h
  · rw [if_neg h4] at h
    have hb := wrongSF_zero s s.length 0 h j (Nat.zero_le _) (by omega)
    have e : lk s j = s[j].1 := by simp [lk, List.getD, List.getElem?_eq_getElem hj]
    rw [← e]
    unfold badS at hb
    cases hn : Grain.named (lk s j) with
    | true => rfl
    | false => simp [hn] at hb

theorem named_lines {l : List Ln} (h : (wrLn l).1 = 0) : ∀ y ∈ l, ∀ x ∈ y.1, Grain.named x.1 = true := by
  intro y hy
  obtain ⟨k, hk, rfl⟩ := List.mem_iff_getElem.1 hy
  have hb := (lnBad_zero ((wrLn_zero h).2 k hk)).1
  have e : lser l k = l[k].1 := by simp [lser, List.getD, List.getElem?_eq_getElem hk]
  rw [e] at hb
  exact wrongS_named hb

/-- what the loops of MeanTotals keep: the words so far, as a row and as a map -/
structure KI (w0 wr : World) (bo : Option Addr) (bn bc : Nat) (bs : List ByteArray) : Prop where
  own : wr.ownsRow (w0.heap.size + 1) 9 1 (.slice bo bn bc) bn (wcells bs)
  map : MapKeys wr w0.heap.size bs
  bel : Below w0.heap.size w0 wr

theorem KI.start (w0 : World) : KI w0 (w0.alloc (.map #[] 0)) none 0 0 [] :=
  ⟨World.ownsRow_nil _ _ _ _, MapKeys.new w0, (Below.refl _ _).alloc (Nat.le_refl _) _⟩

theorem KI.call {w0 wr wr' : World} {bo : Option Addr} {bn bc : Nat} {bs : List ByteArray} (h : KI w0 wr bo bn bc bs) (hb : Below wr.heap.size wr wr') : KI w0 wr' bo bn bc bs :=
  ⟨own_below h.own hb, h.map.below hb, h.bel.trans (hb.mono h.bel.size)⟩

theorem KI.len {w0 wr : World} {bo : Option Addr} {bn bc : Nat} {bs : List ByteArray} (h : KI w0 wr bo bn bc bs) : bn = bs.length := by
  have := h.own.1; rw [wcells_len] at this; omega

/-- a word stored in the map -/
theorem ki_put {w0 wr wr' : World} {bo : Option Addr} {bn bc : Nat} {cs : List ByteArray} (own : wr.ownsRow (w0.heap.size + 1) 9 1 (.slice bo bn bc) bn (wcells cs)) (bel : Below w0.heap.size w0 wr) (hm : MapKeys wr' w0.heap.size cs) (hg : wr.grownBy wr' (some w0.heap.size)) : KI w0 wr' bo bn bc cs := by
  refine ⟨own.kept hg ?_, hm, bel.grown hg bel.size (fun j hj => by injection hj with hj; omega)⟩
  cases hv : (Value.slice bo bn bc).ownBlock with
  | none => exact .inl rfl
  | some x =>
    right
    intro e
    have h1 := own_base own x hv
    simp at e
    omega

theorem tnews_one {W : World} {B : Nat} (hB : W.heap.size = B) (x : Value) (t : TypeId) : ∀ j u, [x][j]? = some u → (W.alloc (.cells #[x] t)).cell? ((⟨B, 0, none⟩ : Addr).add j) = some u := by
  intro j u hj
  subst hB
  match j, hj with
  | 0, hj =>
    simp at hj
    subst hj
    have h := heap_alloc_new W (.cells #[x] t)
    show (W.alloc (.cells #[x] t)).cell? ⟨W.heap.size, 0, none⟩ = some x
    simp only [World.cell?]
    rw [h]; rfl

end Go.GrainU
namespace Go.Proofs.Ythohkokhimdamaa
open Go.RowKit Go.GrainU

set_option maxRecDepth 100000 in
set_option maxHeartbeats 8000000 in
theorem mtotals_any (l : List LT) (t : ET) (time : Int) (ao : Option Addr) (n cap : Nat) (w : World) (hs : Seg w ao (tcells l)) (hl : LnsIn w l) (hin : t.In w) (hn : n = l.length) (m : Nat) (hm : ∀ x ∈ l, x.ser.length ≤ m) (hnm : n * m * 16 ≤ 140737488355328) (hn48 : n * 48 ≤ 140737488355328) (hsz : ∀ b ∈ byL [] (lns l), b.size ≤ 9223372036854775807) :
    Calls Try.prog 3 #[.slice ao n cap, eval t, .int .i64 time] w fun e w' => e = .returned (.bool true) ∧ Below w.heap.size w w' := by
  obtain ⟨V, hV⟩ : ∃ V, V = ((w.alloc (.cells #[.slice ao n cap] 22)).alloc (.cells #[.int .i64 t.hd.kind, .int .i64 t.hd.n, .int .i64 t.hd.range, .string t.hd.word, .slice t.sp.ma t.hd.ms.length t.sp.mc, .slice t.sp.ba t.hd.bs.length t.sp.bc, .slice t.sp.ka t.kids.length t.sp.kc] 27)).alloc (.cells #[.int .i64 time] 3) := ⟨_, rfl⟩
  obtain ⟨X, hX⟩ : ∃ X, X = w.heap.size := ⟨_, rfl⟩
  have bel : Below w.heap.size w V := by rw [hV]; exact (((Below.refl _ _).alloc (Nat.le_refl _) _).alloc (by simp) _).alloc (by simp; omega) _
  have A0 : V.heap[X]? = some (.cells #[.slice ao n cap] 22 (0, 0)) := by rw [hV, hX, Below.heap_alloc _ _ _ (by simp; omega), Below.heap_alloc _ _ _ (by simp)]; exact heap_alloc_new w _
  have F0 : V.heap[X + 1]? = some (.cells #[.int .i64 t.hd.kind, .int .i64 t.hd.n, .int .i64 t.hd.range, .string t.hd.word, .slice t.sp.ma t.hd.ms.length t.sp.mc, .slice t.sp.ba t.hd.bs.length t.sp.bc, .slice t.sp.ka t.kids.length t.sp.kc] 27 (0, 0)) := by
    rw [hV, hX, Below.heap_alloc _ _ _ (by simp)]
    have := heap_alloc_new (w.alloc (.cells #[.slice ao n cap] 22)) (.cells #[.int .i64 t.hd.kind, .int .i64 t.hd.n, .int .i64 t.hd.range, .string t.hd.word, .slice t.sp.ma t.hd.ms.length t.sp.mc, .slice t.sp.ba t.hd.bs.length t.sp.bc, .slice t.sp.ka t.kids.length t.sp.kc] 27)
    simpa using this
  have T0 : V.heap[X + 1 + 1]? = some (.cells #[.int .i64 time] 3 (0, 0)) := by
    have := heap_alloc_new ((w.alloc (.cells #[.slice ao n cap] 22)).alloc (.cells #[.int .i64 t.hd.kind, .int .i64 t.hd.n, .int .i64 t.hd.range, .string t.hd.word, .slice t.sp.ma t.hd.ms.length t.sp.mc, .slice t.sp.ba t.hd.bs.length t.sp.bc, .slice t.sp.ka t.kids.length t.sp.kc] 27)) (.cells #[.int .i64 time] 3)
    rw [hV, hX]; simpa using this
  have He : Hid (eval t = .agg #[.int .i64 t.hd.kind, .int .i64 t.hd.n, .int .i64 t.hd.range, .string t.hd.word, .slice t.sp.ma t.hd.ms.length t.sp.mc, .slice t.sp.ba t.hd.bs.length t.sp.bc, .slice t.sp.ka t.kids.length t.sp.kc]) := rfl
  have HV := hide hV
  have HX := hide hX
  have HN := hide hn
  rw [He.out]
  clear hV hX hn
  go_enter Try.func3, Try.ntmps3
  go_wp2_with fail
  rw [← HV.out, ← HX.out]
  refine (malive_any V).mono ?_
  rintro e wa ⟨rfl, hba⟩
  have bela : Below w.heap.size w wa := bel.trans (hba.mono bel.size)
  have Aa := below_block hba A0
  have Fa := below_block hba F0
  have Ta := below_block hba T0
  have hsa := hs.below bela
  have hla := hl.below bela
  have hina := ET.In.below bela t hin
  clear HV hba A0 F0 T0 hs hl hin bel
  obtain ⟨p0, p1, p2, p3, p4, p5, p6⟩ := seven_cells Fa
  have q0 : wa.cell? ⟨X, 0, none⟩ = some (.slice ao n cap) := by simp [World.cell?, Aa]
  have q1 : wa.cell? ⟨X + 1 + 1, 0, none⟩ = some (.int .i64 time) := by simp [World.cell?, Ta]
  go_wp2_with fail
  rw [← He.out]
  refine (mask_any l t time ao n cap wa hsa hla hina HN.out).mono ?_
  rintro e w0 ⟨ca, co, Na, da, rfl, hca, hNa, csa, hb6⟩
  rw [He.out]
  obtain ⟨E0, hE0⟩ : ∃ E, E = (GrainU.ask (lns l) t.ex time).2 := ⟨_, rfl⟩
  rw [← hE0]
  have HE0 := hide hE0
  have A1 := below_block hb6 Aa
  have F1 := below_block hb6 Fa
  have T1 := below_block hb6 Ta
  have bel0 : Below w.heap.size w w0 := bela.trans (hb6.mono bela.size)
  have hs0 := hsa.below hb6
  have hl0 := hla.below hb6
  have hin0 := ET.In.below hb6 t hina
  have HCA := hide hca
  have HNA := hide hNa
  clear hE0 hca hNa p0 p1 p2 p3 p4 p5 p6 q0 q1 hb6 Aa Fa Ta hsa hla hina bela
  have q0 : w0.cell? ⟨X, 0, none⟩ = some (.slice ao n cap) := by simp [World.cell?, A1]
  have x0 : X < w0.heap.size := lt_of_block A1
  have hmm := @run_makeMap Try.prog
  obtain ⟨is, his, hs0', hs1', hs2'⟩ := info_parts (P := Try.prog) (e := 9) (z := .string ⟨#[]⟩) (size := 1) (bytes := 16) (by kernel_rfl)
  have HM := hide hm
  have HSz := hide hsz
  have hzb : ∀ w' : World, (zeroValue 4).run Try.prog w' = .ok (.bool false) w' := fun w' => by kernel_rfl
  clear hm hsz
  go_wp2_with fail
  go_loopw [10, 36] (fun bv i wr => ∃ (k bn bc : Nat) (bo : Option Addr), k ≤ n ∧ i = .int .i64 k ∧ bv = .slice bo bn bc ∧ bn ≤ k * m ∧ KI w0 wr bo bn bc (byL [] (lns (l.take k)))) (fun _ i _ => n - (intOf i).toNat)
  case atStart => exact ⟨0, 0, 0, none, Nat.zero_le _, rfl, rfl, Nat.zero_le _, KI.start w0⟩
  case round =>
    obtain ⟨k, bn, bc, bo, hk, rfl, rfl, hbn, ki⟩ := hrel
    by_cases hlt : k < n
    · have hkl : k < l.length := by rw [← HN.out]; exact hlt
      obtain ⟨b, off, rfl, hbl, hcell⟩ := seg_line hs0 hkl
      obtain ⟨x, hx⟩ : ∃ x, x = lt l k := ⟨_, rfl⟩
      have hxo : LnOk w0 x := by rw [hx]; exact hl0 _ (lt_mem hkl)
      have hxm : x.ser.length ≤ m := by rw [hx]; exact HM.out _ (lt_mem hkl)
      obtain ⟨sn, hsn⟩ : ∃ m, m = x.ser.length := ⟨_, rfl⟩
      obtain ⟨pn, hpn⟩ : ∃ m, m = x.smp.length := ⟨_, rfl⟩
      have c0 : wr.cell? ⟨b, off + k * 2, none⟩ = some (.slice x.sa sn x.sc) := by rw [hsn, hx]; exact (ki.bel.cell (by exact hbl)).trans (hcell k hkl).1
      have c1 : wr.cell? ⟨b, off + k * 2 + 1, none⟩ = some (.slice x.pa pn x.pc) := by rw [hpn, hx]; exact (ki.bel.cell (by exact hbl)).trans (hcell k hkl).2
      obtain ⟨bs, hbs⟩ : ∃ bs, bs = byL [] (lns (l.take k)) := ⟨_, rfl⟩
      have HT : Hid (byL [] (lns (l.take (k + 1))) = byS bs x.ser) := by show _ = _; rw [lns_take hkl, byL_append, ← hx, hbs]; rfl
      rw [← hbs] at ki
      obtain ⟨Pk, hPk⟩ : ∃ P, P = k * m := ⟨_, rfl⟩
      have hPn : Pk + m ≤ n * m := by
        rw [hPk, ← Nat.succ_mul]; exact Nat.mul_le_mul_right m hlt
      have HPk := hide hPk
      rw [← hPk] at hbn
      rw [← hsn] at hxm
      obtain ⟨NM, hNM⟩ : ∃ N, N = n * m := ⟨_, rfl⟩
      rw [← hNM] at hPn hnm
      have HSn := hide hsn
      clear hx hsn hpn hkl hcell hbs hPk hNM
      obtain ⟨wk, hwk⟩ : ∃ W, W = wr := ⟨_, rfl⟩
      rw [← hwk] at c0 c1 ki ⊢
      clear hwk
      have kiA := ki.call ((Below.refl wk.heap.size wk).alloc (Nat.le_refl _) (.cells #[.slice x.sa sn x.sc, .slice x.pa pn x.pc] 38))
      clear ki
      go_wp2_with fail
      go_loopw [10, 43] (fun bv j wi => ∃ (q bn bc : Nat) (bo : Option Addr), q ≤ sn ∧ j = .int .i64 q ∧ bv = .slice bo bn bc ∧ bn ≤ Pk + q ∧ KI w0 wi bo bn bc (byS bs (x.ser.take q))) (fun _ j _ => sn - (intOf j).toNat)
      case atStart => exact ⟨0, bn, bc, bo, Nat.zero_le _, rfl, rfl, hbn, by simpa [byS] using kiA⟩
      case round =>
        obtain ⟨q, bn, bc, bo, hq, rfl, rfl, hbn, ki⟩ := hrel
        by_cases hlq : q < sn
        · have hql : q < x.ser.length := by rw [← HSn.out]; exact hlq
          obtain ⟨b2, off2, hsa, hb2, hcell2⟩ := seg_label hxo.ser hql
          obtain ⟨ky, hky⟩ : ∃ z, z = lk x.ser q := ⟨_, rfl⟩
          obtain ⟨vy, hvy⟩ : ∃ z, z = lv x.ser q := ⟨_, rfl⟩
          have e0 : wr.cell? ⟨b2, off2 + q * 2, none⟩ = some (.string ky) := by rw [hky]; exact (ki.bel.cell (by exact hb2)).trans (hcell2 q hql).1
          have e1 : wr.cell? ⟨b2, off2 + q * 2 + 1, none⟩ = some (.string vy) := by rw [hvy]; exact (ki.bel.cell (by exact hb2)).trans (hcell2 q hql).2
          obtain ⟨cs, hcs⟩ : ∃ cs, cs = byS bs (x.ser.take q) := ⟨_, rfl⟩
          have HTq : Hid (byS bs (x.ser.take (q + 1)) = addK cs ky) := by show _ = _; rw [byS_take bs hql, hcs, hky]
          rw [← hcs] at ki
          have kiB := ki.call ((Below.refl wr.heap.size wr).alloc (Nat.le_refl _) (.cells #[.string ky, .string vy] 40))
          obtain ⟨W1, hW1⟩ : ∃ W, W = wr.alloc (.cells #[.string ky, .string vy] 40) := ⟨_, rfl⟩
          obtain ⟨Y, hY⟩ : ∃ Y, Y = wr.heap.size := ⟨_, rfl⟩
          have S1 : W1.heap[Y]? = some (.cells #[.string ky, .string vy] 40 (0, 0)) := by rw [hW1, hY]; exact heap_alloc_new wr _
          rw [← hW1] at kiB
          have HRowY : Hid (∀ j, (Value.slice bo bn bc).ownBlock = some j → j < Y) := fun j hj => by rw [hY]; exact (own_base ki.own j hj).2
          have HW1 := hide hW1
          have HY := hide hY
          have hlk := keys_get (P := Try.prog) (mty := 33) (kt := 9) (et := 4) Try.underlying33 Try.underlying9 (hzb W1) kiB.map ky
          obtain ⟨H, hH⟩ : ∃ H, H = has cs ky := ⟨_, rfl⟩
          rw [← hH] at hlk
          have HH := hide hH
          have HSA := hide hsa
          rw [hsa] at c0
          rw [hsa]
          clear hky hvy hcs hW1 hY hql hcell2 ki hH hsa
          go_upto_region 12 with fail
          rw [← HW1.out, ← HY.out]
          obtain ⟨s0, s1, _, _⟩ := two_cells S1
          cases H with
          | false =>
            have HA : Hid (addK cs ky = cs ++ [ky]) := by show _ = _; unfold addK; rw [← HH.out]; rfl
            have bnl := kiB.len
            have HBN := hide bnl
            clear bnl
            have ownA := own_below kiB.own ((Below.refl W1.heap.size W1).alloc (Nat.le_refl _) (.cells #[.string ky] 9))
            have hYl : Y < W1.heap.size := lt_of_block S1
            have hs1 := kiB.bel.size
            go_wp2_with (at_builtin; refine wpList_append_lies _ rfl _ _ 24 rfl (w0.heap.size + 1) 9 is (.string ⟨#[]⟩) 1 16 Try.underlying24 his hs0' hs1' hs2' rfl (by decide) _ _ _ rfl ownA ⟨W1.heap.size, 0, none⟩ 1 1 [.string ky] rfl rfl (tnews_one rfl _ _) (by simp [Value.oneCell']) (by decide) (by unfold maxLen; omega) (by omega) (by simp; omega) (W1.heap.size + 1) (by simp) ?_)
            intro g' cp' w5 own5 gr5 hat5 hlt5
            have own6 : w5.ownsRow (w0.heap.size + 1) 9 1 (.slice (some ⟨g', 0, none⟩) (bn + 1) cp') (bn + 1) (wcells (addK cs ky)) := by
              rw [HA.out]
              have : wcells (cs ++ [ky]) = wcells cs ++ [.string ky] := by simp [wcells]
              rw [this]; exact own5
            have bA : Below W1.heap.size W1 (W1.alloc (.cells #[.string ky] 9)) := (Below.refl _ _).alloc (Nat.le_refl _) _
            have hrow : ∀ j, (Value.slice bo bn bc).ownBlock = some j → w0.heap.size + 1 ≤ j := fun j hj => (own_base ownA j hj).1
            have bel5 : Below w0.heap.size w0 w5 := ((kiB.bel.trans (bA.mono kiB.bel.size))).grown gr5 (by simp; omega) (fun j hj => by have := hrow j hj; omega)
            have map5 : MapKeys w5 w0.heap.size cs := (kiB.map.below bA).kept gr5 (fun e => by have := hrow _ e; omega)
            have S5 : w5.heap[Y]? = some (.cells #[.string ky, .string vy] 40 (0, 0)) := by
              rw [gr5.block Y (by simp; omega) (fun e => by have := HRowY.out Y e.symm; omega)]
              exact below_block bA S1
            obtain ⟨s0', s1', _, _⟩ := two_cells S5
            clear own5 gr5 hat5 hlt5 s0 s1 S1 ownA kiB bA hlk
            go_wp2_with (at_mapUpdate; refine wpList_keyput _ rfl _ _ _ 33 rfl 9 4 Try.underlying33 Try.underlying9 w0.heap.size cs ky rfl rfl rfl map5 ?_)
            intro w6 map6 gr6
            have ki6 := ki_put own6 bel5 map6 gr6
            rw [← HTq.out] at ki6
            clear map6 gr6 own6 bel5 map5 HTq HA s0' s1' S5
            go_wp2
            go_roundw
            case rel => exact ⟨q + 1, bn + 1, cp', _, by omega, by go_num, rfl, by omega, ki6⟩
            case measure => simp [intOf]; omega
          | true =>
            have HA : Hid (addK cs ky = cs) := by show _ = _; unfold addK; rw [← HH.out]; rfl
            go_wp2_with (at_mapUpdate; refine wpList_keyput _ rfl _ _ _ 33 rfl 9 4 Try.underlying33 Try.underlying9 w0.heap.size cs ky rfl rfl rfl kiB.map ?_)
            intro w6 map6 gr6
            have own6 := kiB.own
            rw [← HA.out] at own6
            have ki6 := ki_put own6 kiB.bel map6 gr6
            rw [← HTq.out] at ki6
            clear map6 gr6 own6 kiB HTq HA s0 s1 S1 hlk
            go_wp2
            go_roundw
            case rel => exact ⟨q + 1, bn, bc, bo, by omega, by go_num, rfl, by omega, ki6⟩
            case measure => simp [intOf]; omega
        · have he : q = sn := by omega
          have HQ : Hid (x.ser.take q = x.ser) := List.take_of_length_le (by rw [← HSn.out]; omega)
          rw [HQ.out, ← HT.out] at ki
          have hb' : bn ≤ (k + 1) * m := by rw [Nat.succ_mul, ← HPk.out]; omega
          clear HQ HT
          subst he
          go_wp2
          go_roundw
          case rel => exact ⟨k + 1, bn, bc, bo, by omega, by go_num, rfl, hb', ki⟩
          case measure => simp [intOf]; omega
    · have he : k = n := by omega
      subst he
      obtain ⟨wz, hwz⟩ : ∃ W, W = wr := ⟨_, rfl⟩
      rw [← hwz] at ki ⊢
      clear hwz
      have HTk : Hid (l.take k = l) := List.take_of_length_le (by rw [← HN.out]; omega)
      rw [HTk.out] at ki
      obtain ⟨bs, hbs⟩ : ∃ bs, bs = byL [] (lns l) := ⟨_, rfl⟩
      rw [← hbs] at ki
      have HBS := hide hbs
      have A2 := below_block ki.bel A1
      have F2 := below_block ki.bel F1
      have T2 := below_block ki.bel T1
      have bw : Below w.heap.size w wz := bel0.trans (ki.bel.mono bel0.size)
      obtain ⟨p0, p1, p2, p3, p4, p5, p6⟩ := seven_cells F2
      clear hbs HTk hbn
      by_cases g1 : E0 = 0
      · by_cases g2 : bn ≤ 4
        · by_cases g3 : t.hd.kind = 2
          · have j2 : decide ((4 : Int) < (bn : Int)) = false := by simp; omega
            have p0' : wz.cell? ⟨X + 1, 0, none⟩ = some (.int .i64 2) := by rw [p0, g3]
            have HG1 := hide g1
            rw [g1]
            have HG3 := hide g3
            clear p0 g1 g3
            have hok : (GrainU.ask (lns l) (.mk t.hd (exL t.kids)) time).2 = 0 := by rw [← tex_mk]; exact HE0.out.symm.trans HG1.out
            have bnl : bn = bs.length := ki.len
            obtain ⟨z0, _, _⟩ := ask_zero hok
            have SG := hide (totals_pure (l := lns l) (h := t.hd) (kids := exL t.kids) (time := time) hok HG3.out (by rw [← HBS.out, ← bnl]; exact g2) (fun y hy => by
              obtain ⟨y', hy', rfl⟩ := List.mem_map.1 hy
              exact ⟨((right_lines z0).2 y' hy').ser, ((right_lines z0).2 y' hy').smp⟩) (named_lines z0))
            rw [← tex_mk, ← HBS.out] at SG
            obtain ⟨R, hR⟩ : ∃ R, R = GrainU.ask (lns l) t.ex time := ⟨_, rfl⟩
            rw [← hR] at SG HCA
            have hs2 := hs0.below ki.bel
            have hl2 := hl0.below ki.bel
            have hin2 := ET.In.below ki.bel t hin0
            have csa2 := csa.below ki.bel
            have HR2 := hide hR
            have q2 : wz.cell? ⟨X, 0, none⟩ = some (.slice ao k cap) := by simp [World.cell?, A2]
            have q3 : wz.cell? ⟨X + 1 + 1, 0, none⟩ = some (.int .i64 time) := by simp [World.cell?, T2]
            have lX : X < wz.heap.size := lt_of_block A2
            have lX1 : X + 1 < wz.heap.size := lt_of_block F2
            have lX2 : X + 1 + 1 < wz.heap.size := lt_of_block T2
            have segB : Seg wz bo (wcells bs) := by
              obtain ⟨ao', c, hv, hs', _⟩ := own_open ki.own
              simp only [Value.slice.injEq] at hv
              obtain ⟨rfl, -, rfl⟩ := hv
              exact hs'
            have hbc : bs.length ≤ bc := by
              rcases ki.own.2 with ⟨h1, h2⟩ | ⟨g, c, cur, h1, _, _, h3, _⟩
              · simp only [Value.slice.injEq] at h1; omega
              · simp only [Value.slice.injEq] at h1; omega
            have PA : Hid (∀ (W : World) (s : ByteArray), Below wz.heap.size wz W → s.size ≤ 9223372036854775806 → Calls Try.prog 6 #[.string s, .slice bo bn bc, .pointer (some ⟨X, 0, none⟩), .pointer (some ⟨X + 1, 0, none⟩), .pointer (some ⟨X + 1 + 1, 0, none⟩)] W fun e w' => ∃ cts co N d, e = .returned (.tuple #[.slice co N d, .int .i64 (GrainU.ask (lns l) (totE s bs t.ex) time).2]) ∧ cls cts = (GrainU.ask (lns l) (totE s bs t.ex) time).1 ∧ N = cts.length ∧ CsIn w' co cts ∧ Below W.heap.size W w') := fun W s hb hsz =>
              mtot1_any l t time ao bo k cap bn bc X (X + 1) (X + 1 + 1) s bs W ((hb.cell (p := ⟨X, 0, none⟩) lX).trans q2) (below_block hb F2) ((hb.cell (p := ⟨X + 1 + 1, 0, none⟩) lX2).trans q3) (hs2.below hb) (hl2.below hb) (ET.In.below hb t hin2) HN.out hsz (segB.below hb) bnl (by omega) (fun b hb' => HSz.out b (by rw [← HBS.out]; exact hb')) hbc
            have PB : Hid (∀ (W : World) (s : ByteArray), Below wz.heap.size wz W → s.size ≤ 9223372036854775806 → Calls Try.prog 6 #[.string s, .slice none 0 0, .pointer (some ⟨X, 0, none⟩), .pointer (some ⟨X + 1, 0, none⟩), .pointer (some ⟨X + 1 + 1, 0, none⟩)] W fun e w' => ∃ cts co N d, e = .returned (.tuple #[.slice co N d, .int .i64 (GrainU.ask (lns l) (totE s [] t.ex) time).2]) ∧ cls cts = (GrainU.ask (lns l) (totE s [] t.ex) time).1 ∧ N = cts.length ∧ CsIn w' co cts ∧ Below W.heap.size W w') := fun W s hb hsz =>
              mtot1_any l t time ao none k cap 0 0 X (X + 1) (X + 1 + 1) s [] W ((hb.cell (p := ⟨X, 0, none⟩) lX).trans q2) (below_block hb F2) ((hb.cell (p := ⟨X + 1 + 1, 0, none⟩) lX2).trans q3) (hs2.below hb) (hl2.below hb) (ET.In.below hb t hin2) HN.out hsz (.inl rfl) rfl (by simp) (fun b hb' => by cases hb') (by simp)
            clear hok z0 hR segB hbc hs2 hl2 hin2 bnl
            obtain ⟨W3, hW3⟩ : ∃ W, W = wz.alloc (.cells #[.string ⟨#[109, 97, 120]⟩, .string ⟨#[109, 105, 110]⟩, .string ⟨#[115, 117, 109]⟩] 9) := ⟨_, rfl⟩
            have b3 : Below wz.heap.size wz W3 := by rw [hW3]; exact (Below.refl _ _).alloc (Nat.le_refl _) _
            have D3 : W3.heap[wz.heap.size]? = some (.cells #[.string ⟨#[109, 97, 120]⟩, .string ⟨#[109, 105, 110]⟩, .string ⟨#[115, 117, 109]⟩] 9 (0, 0)) := by rw [hW3]; exact heap_alloc_new wz _
            have HW3 := hide hW3
            have HC2 : Hid (∀ z ∈ ca, z.ser.length ≤ 9223372036854775807) := fun z hz => by
              have ag := ask_gd l t.ex time
              have h2 : z.ser.length ≤ 4 := ag.1 z.cl (by rw [← HR2.out, ← HCA.out]; exact List.mem_map_of_mem hz)
              omega
            have hNa8 : Na ≤ 8 := by
              have ag := (ask_gd l t.ex time).2
              rw [← HR2.out, ← HCA.out, cls_len, ← HNA.out] at ag
              exact ag
            have HRl : Hid (R.1.length = Na) := by show _ = _; rw [← HCA.out, cls_len, HNA.out]
            clear hW3
            go_wp2_with fail
            rw [← HW3.out]
            go_loopw [77] (fun i wi => ∃ q : Nat, q ≤ 3 ∧ i = .int .i64 q ∧ Below W3.heap.size W3 wi) (fun i _ => 3 - (intOf i).toNat)
            case atStart => exact ⟨0, by omega, rfl, Below.refl _ _⟩
            case round =>
              obtain ⟨q, hq, rfl, bi⟩ := hrel
              have bz : Below wz.heap.size wz wr := b3.trans (bi.mono b3.size)
              by_cases hl3 : q < 3
              · obtain ⟨sw, c0, t4, nc, sz⟩ : ∃ sw : ByteArray, wr.cell? ⟨wz.heap.size, q, none⟩ = some (.string sw) ∧ has totals4 sw = true ∧ sw ≠ lit [99, 111, 117, 110, 116] ∧ sw.size ≤ 9223372036854775806 := by
                  have D4 := below_block bi D3
                  match q, hl3 with
                  | 0, _ => exact ⟨⟨#[109, 97, 120]⟩, by simp [World.cell?, D4], by decide, by decide, by decide⟩
                  | 1, _ => exact ⟨⟨#[109, 105, 110]⟩, by simp [World.cell?, D4], by decide, by decide, by decide⟩
                  | 2, _ => exact ⟨⟨#[115, 117, 109]⟩, by simp [World.cell?, D4], by decide, by decide, by decide⟩
                have e1 := SG.out.1 sw t4 nc
                obtain ⟨e2, e3, _⟩ := SG.out.2 sw t4
                have k1 := PA.out wr sw bz sz
                rw [e1] at k1
                have K1 := hide k1
                have E2 := hide e2
                have E3 := hide e3
                clear k1 e1 e2 e3 t4 nc
                have q3i : (q : Int) < 3 := by omega
                go_wp2_with fail
                refine K1.out.mono ?_
                rintro e u1 ⟨cb, bo1, N1, d1, rfl, hcb, hN1, csb, bu1⟩
                have HCB := hide hcb
                have HN1 := hide hN1
                have bz1 : Below wz.heap.size wz u1 := bz.trans (bu1.mono bz.size)
                have k2 := PB.out u1 sw bz1 sz
                rw [E2.out] at k2
                have K2 := hide k2
                clear k2 K1 c0 hcb hN1
                go_wp2_with fail
                refine K2.out.mono ?_
                rintro e u2 ⟨cc, co2, N2, d2, rfl, hcc, hN2, csc, bu2⟩
                have hN2' : N2 = min Na 1 := by
                  have h1 := congrArg List.length hcc
                  rw [cls_len, ← hN2, E3.out, HRl.out] at h1
                  exact h1
                have bz2 : Below wz.heap.size wz u2 := bz1.trans (bu2.mono bz1.size)
                have SC := hide (rsamec_any ca cb co bo1 Na N1 da d1 u2 (csa2.below bz2) (csb.below bu2) HNA.out HN1.out (by rw [HCA.out, HCB.out]) HC2.out (by omega))
                have nl : ((N2 : Int) != min (Na : Int) 1) = false := by simp; omega
                have b9 : Below W3.heap.size W3 u2 := (bi.trans (bu1.mono bi.size)).trans (bu2.mono (Nat.le_trans bi.size bu1.size))
                clear hcc hN2 hN2' K2 E2 E3 csb csc bu1 bu2 HCB HN1
                go_wp2_with fail
                refine SC.out.mono ?_
                rintro e u3 ⟨rfl, bu3⟩
                have b10 : Below W3.heap.size W3 u3 := b9.trans (bu3.mono b9.size)
                clear SC b9 bu3
                go_wp2
                go_roundw
                case rel => exact ⟨q + 1, by omega, by go_num, b10⟩
                case measure => simp [intOf]; omega
              · have he : q = 3 := by omega
                obtain ⟨e2, e3, e4⟩ := SG.out.2 (lit [99, 111, 117, 110, 116]) (by decide)
                have k2 := PB.out wr ⟨#[99, 111, 117, 110, 116]⟩ bz (by decide)
                have e2' : (GrainU.ask (lns l) (totE ⟨#[99, 111, 117, 110, 116]⟩ [] t.ex) time).2 = 0 := e2
                have E3 : Hid ((GrainU.ask (lns l) (totE ⟨#[99, 111, 117, 110, 116]⟩ [] t.ex) time).1.length = min R.1.length 1) := e3
                have E4 : Hid (0 < R.1.length → cl0 (GrainU.ask (lns l) (totE ⟨#[99, 111, 117, 110, 116]⟩ [] t.ex) time).1 = R.1.length) := e4 rfl
                rw [e2'] at k2
                have K2 := hide k2
                clear k2 e2 e3 e4 e2'
                have q3i : ¬ (q : Int) < 3 := by omega
                have bwz : Below w.heap.size w wr := bw.trans (bz.mono bw.size)
                go_wp2_with fail
                refine K2.out.mono ?_
                rintro e u1 ⟨cn, co1, N1, d1, rfl, hcn, hN1, csn, bu1⟩
                have hN1' : N1 = min Na 1 := by
                  have h1 := congrArg List.length hcn
                  rw [cls_len, ← hN1, E3.out, HRl.out] at h1
                  exact h1
                have bf := below_step bu1 bwz
                by_cases h0 : Na = 0
                · have jz : ((Na : Int) == 0) = true := by simp; omega
                  clear hcn hN1 hN1' K2 E3 E4 csn HRl HNA hNa8 SG he q3i
                  go_wp2
                  all_goals
                    go_ret
                    exact ⟨rfl, bf⟩
                · have jz : ((Na : Int) == 0) = false := by simp; omega
                  have h1 : N1 = 1 := by omega
                  have hc1 : 0 < cn.length := by omega
                  obtain ⟨bb, oo, rfl, hbb, hcc⟩ := seg_cell csn.seg hc1
                  have hv : (ct cn 0).v = (Na : Int) := by
                    have h2 := E4.out (by rw [HRl.out]; omega)
                    rw [← hcn, HRl.out] at h2
                    rw [← h2]
                    simp [cl0, cls, ct, CT.cl, List.getD, List.getElem?_eq_getElem hc1]
                  have c1 : u1.cell? ⟨bb, oo + 1, none⟩ = some (.int .i64 Na) := by
                    have := (hcc 0 hc1).2
                    rw [hv] at this
                    simpa using this
                  clear hcn hN1 hN1' K2 E3 E4 csn HRl HNA hNa8 SG he q3i hcc hv hc1
                  subst h1
                  have jn : ((Na : Int) == (Na : Int)) = true := by simp
                  go_wp2
                  all_goals
                    go_ret
                    exact ⟨rfl, bf⟩
          · have j2 : decide ((4 : Int) < (bn : Int)) = false := by simp; omega
            have j3 : (t.hd.kind == 2) = false := by simpa using g3
            rw [g1]
            clear g1 g3
            go_wp2
            go_ret
            exact ⟨rfl, bw⟩
        · have j2 : decide ((4 : Int) < (bn : Int)) = true := by simp; omega
          rw [g1]
          clear g1
          go_wp2
          go_ret
          exact ⟨rfl, bw⟩
      · have j1 : (E0 != 0) = true := by simpa using g1
        clear g1
        go_wp2
        all_goals
          go_ret
          exact ⟨rfl, bw⟩

end Go.Proofs.Ythohkokhimdamaa

/-
  For every input whose bulk is at most 1048576, MeanTotals returns true: totals by all labels of series are the cells; by none at most one; counts count them. The condition: the bulk (the narrowed form).
-/
namespace Go.Proofs.Ythohkokhimdamaa
open Go.ChangeShapes Go.WideShapes Go.ChangeAt Go.RowKit Go.GrainU

theorem mstrodAll_three {H : Type} {enc : TypeId × Value → H} {P : Program} {w : World} {base : Nat} {sp : Nat → Bool} {held : Bool} {t0 t1 t2 : TypeId} {args : Array Value} {ds : List (DataW H)} {p : List MemPlace} (h : DataW.TrodAll enc P w base sp held [t0, t1, t2] args.toList ds p) :
    ∃ v0 v1 v2 d0 d1 d2 p0 p1 p2, args = #[v0, v1, v2] ∧ ds = [d0, d1, d2] ∧ p = p0 ++ (p1 ++ (p2 ++ [])) ∧ DataW.Trod enc P w base sp held t0 v0 d0 p0 ∧ DataW.Trod enc P w base sp held t1 v1 d1 p1 ∧ DataW.Trod enc P w base sp held t2 v2 d2 p2 := by
  obtain ⟨v0, vs0, d0, ds0, p0, q0, e0, rfl, rfl, h0, r0⟩ := trodAll_cons h
  obtain ⟨v1, vs1, d1, ds1, p1, q1, e1, rfl, rfl, h1, r1⟩ := trodAll_cons r0
  obtain ⟨v2, vs2, d2, ds2, p2, q2, e2, rfl, rfl, h2, r2⟩ := trodAll_cons r1
  obtain ⟨rfl, rfl, rfl⟩ := trodAll_nil r2
  refine ⟨v0, v1, v2, d0, d1, d2, p0, p1, p2, ?_, rfl, rfl, h0, h1, h2⟩
  cases args
  simp_all

theorem addK_small {b : List ByteArray} {k : ByteArray} (h : ∀ x ∈ b, x.size ≤ 9223372036854775807) (hk : k.size ≤ 9223372036854775807) : ∀ x ∈ addK b k, x.size ≤ 9223372036854775807 := by
  intro x hx
  unfold addK at hx
  split at hx
  · exact h x hx
  · rcases List.mem_append.1 hx with h1 | h1
    · exact h x h1
    · rw [List.mem_singleton.1 h1]; exact hk

theorem byS_small : ∀ (s : Lb) (b : List ByteArray), (∀ x ∈ b, x.size ≤ 9223372036854775807) → (∀ x ∈ s, x.1.size ≤ 9223372036854775807) → ∀ x ∈ byS b s, x.size ≤ 9223372036854775807
  | [], _, h, _ => h
  | y :: r, b, h, hs => byS_small r (addK b y.1) (addK_small h (hs y (List.mem_cons_self ..))) fun x hx => hs x (List.mem_cons_of_mem _ hx)

theorem byLF_small : ∀ (l : List Ln) (b : List ByteArray), (∀ x ∈ b, x.size ≤ 9223372036854775807) → (∀ y ∈ l, ∀ x ∈ y.1, x.1.size ≤ 9223372036854775807) → ∀ x ∈ byL b l, x.size ≤ 9223372036854775807
  | [], _, h, _ => h
  | y :: r, b, h, hs => byLF_small r (byS b y.1) (byS_small y.1 b h (hs y (List.mem_cons_self ..))) fun x hx => hs x (List.mem_cons_of_mem _ hx)

theorem byL_small {l : List LT} (h : ∀ x ∈ l, Fits x.ser) : ∀ b ∈ byL [] (lns l), b.size ≤ 9223372036854775807 := by
  refine byLF_small (lns l) [] (fun x hx => by (cases hx)) ?_
  intro y hy x hx
  obtain ⟨z, hz, rfl⟩ := List.mem_map.1 hy
  have hx' : x ∈ z.ser := hx
  obtain ⟨j, hj, rfl⟩ := List.mem_iff_getElem.1 hx'
  have := (h z hz j hj).1
  rwa [show lk z.ser j = z.ser[j].1 from by simp [lk, List.getD, List.getElem?_eq_getElem hj]] at this

theorem ms_array {cs : Array Value} {l : List Value} (h : cs.toList = l) : cs = l.toArray := by rw [← h]

set_option maxRecDepth 100000 in
theorem mtotals_lifted (os : Os) (started : os.Started) (H : Type) (enc : TypeId × Value → H) (F : Stop.Interp) :
    ReturnsInHanded {} Try.checked os 3 .any ((Rows.OpenSpec.upto Rows.meanTotalsSpec).pre6 enc Try.prog Try.f3 Rows.meanTotalsUptoRow.domain false) (((Rows.OpenSpec.upto Rows.meanTotalsSpec).at F).post enc Try.prog Try.f3 false true false false) := by
  refine returnsInHanded_of_cond_sized (C := Try.checked) (s := Rows.OpenSpec.upto Rows.meanTotalsSpec) (k := Rows.uptoSmall) rfl Try.own started (by kernel_rfl) Try.func3
    (OpenSpec.witness (enc := enc) (C := Try.checked) (s := Rows.OpenSpec.upto Rows.meanTotalsSpec) (k := Rows.uptoSmall) rfl false ⟨#[], #[.slice none 0 0, .agg #[.int .i64 0, .int .i64 0, .int .i64 0, .string ⟨#[]⟩, .slice none 0 0, .slice none 0 0, .slice none 0 0], .int .i64 0], []⟩ 8 (by kernel_rfl) (by kernel_rfl) (by kernel_rfl)
      (x := ([.nil, .agg [.lit (.int .i64 0), .lit (.int .i64 0), .lit (.int .i64 0), .lit (.string []), .nil, .nil, .nil], .lit (.int .i64 0)], [], [])) (by kernel_rfl) rfl (by kernel_rfl)) ?_
  intro W base args ds gs before hval0 hW hcnd hk hsz0 _
  have hval : ∀ (j : Nat) t v, Try.f3.params[j]? = some t → args[j]? = some v → Value.okWide Try.prog W .any base t v := hval0
  have hsz : (DataW.weightsEach Try.prog (Try.f3.params.toList ++ (Rows.OpenSpec.upto Rows.meanTotalsSpec).bare.plain.varTypes Try.prog) (ds ++ gs)).all (· ≤ reachBytes) = true := hsz0
  have hW' := hW
  obtain ⟨p, q, hA0, hV, rfl, hfz, hnd⟩ := hW
  have hA : DataW.TrodAll enc Try.prog W 0 (fun _ => true) true Try.f3.params.toList args.toList ds p := hA0
  rw [Try.params3] at hA hval hsz
  obtain ⟨v0, v1, v2, d0, d1, d2, p0, p1, p2, rfl, rfl, rfl, h0, h1, h2⟩ := mstrodAll_three hA
  obtain ⟨rfl, rfl⟩ := trodVars_none hV
  have lt0 : ∀ x ∈ p0, x.block < W.heap.size := by obtain ⟨m, hm⟩ := h0; exact DataW.trod_lt m _ _ _ hm
  have lt1 : ∀ x ∈ p1, x.block < W.heap.size := by obtain ⟨m, hm⟩ := h1; exact DataW.trod_lt m _ _ _ hm
  obtain ⟨a0, len0, cap0, rfl⟩ := okWide_slice Try.underlying22 (hval 0 22 v0 rfl rfl)
  obtain ⟨cs, rfl, hcs⟩ := okWide_struct Try.underlying27 (hval 1 27 v1 rfl rfl)
  obtain ⟨z2, rfl, rfl, rfl, w2⟩ := open_int Try.underlying3 (hval 2 3 v2 rfl rfl) h2
  have k0 := h0
  have k1 := h1
  obtain ⟨f0, hf0⟩ := h0
  obtain ⟨f1, hf1⟩ := h1
  have hbk : Rows.uptoBulk d0 ≤ 1048576 := by
    have hb : Rows.uptoBulkAll ([d0, d1, .lit (.int .i64 z2)] ++ []) ≤ 1048576 := of_decide_eq_true hk
    exact Nat.le_trans (bulk_mem (List.mem_cons_self ..)) hb
  obtain ⟨l, ao, cap, e0, sg, ln, hb, hN⟩ := open_linesB (N := 1048576) hf0 (fun k hk => of_decide_eq_true (List.all_eq_true.1 hsz k (DataW.weights_mem_each (j := 0) rfl rfl k hk))) hbk
  obtain ⟨t, ht, hin⟩ := open_expr f1 _ _ hf1 (fun k hk => of_decide_eq_true (List.all_eq_true.1 hsz k (DataW.weights_mem_each (j := 1) rfl rfl k hk)))
  simp only [Value.cells, List.cons.injEq, Value.slice.injEq, and_true] at e0
  obtain ⟨rfl, rfl, rfl⟩ := e0
  have hv : Value.agg cs = eval t := by
    simp only [Value.cells] at ht
    rw [ms_array ht]
    rfl
  clear hA0 hval0 hsz0 hsz
  rw [hv] at hW' k1 ⊢
  refine (mtotals_any l t z2 a0 l.length cap0 W sg (fun x hx => (ln x hx).1.ok) hin rfl 1048576 (fun x hx => (ln x hx).2) (by omega) hb (fun b hb' => byL_small (fun x hx => (ln x hx).1.ok.fit) b hb')).mono fun e W' ⟨he, bel⟩ => ?_
  subst he
  exact ⟨_, rfl, _, _, _, [], _, [], hW', trodAll_mk1 (shut_bool Try.underlying4 _), (trodAll_cons_mk (Below.trod Try.laidOut (by kernel_rfl) (of_decide_eq_true (by kernel_rfl)) k0 bel lt0) (trodAll_cons_mk (Below.trod Try.laidOut (by kernel_rfl) (of_decide_eq_true (by kernel_rfl)) k1 bel lt1) (trodAll_cons_mk (shut_int Try.underlying3 w2) trodAll_mk0))), rfl, bel.frame _, fun h => by cases h⟩

theorem mtotals_holds : Rows.MeanTotalsUptoSaid :=
  OpenClaim.holds_of_cond 3 Try.f3 rfl rfl rfl rfl rfl rfl rfl ⟨rfl, rfl, rfl, rfl, rfl⟩ rfl rfl rfl rfl rfl (by kernel_rfl) Try.func3 (by kernel_rfl)
    (of_decide_eq_true (by kernel_rfl)) (by unfold Func.isWrapper; first | (rw [if_pos (by decide +kernel)]; kernel_rfl) | (rw [if_neg (by decide +kernel)]; exact ⟨rfl, rfl⟩))
    (fun os started H enc _ F => mtotals_lifted os started H enc F)

end Go.Proofs.Ythohkokhimdamaa
