/-
  The walk of comesTo.
-/
import Derived.Test.YthohkokhimdamaaGreatP10
import Derived.Test.YthohkokhimdamaaGreatP29
/-
  Worlds that are as they were, but for what is new and for one block of numbers. No program is named here.
-/
namespace Go.GrainU
open Go.RowKit

/-- below B, and but for the block r, the world w' is as w was -/
structure Bel (r : Option Nat) (B : Nat) (w w' : World) : Prop where
  os : w'.os = w.os
  tape : w'.tape = w.tape
  output : w'.output = w.output
  size : w.heap.size ≤ w'.heap.size
  block : ∀ k, k < B → r ≠ some k → w'.heap[k]? = w.heap[k]?

theorem Bel.of {B : Nat} {w w' : World} (h : Below B w w') (r : Option Nat) : Bel r B w w' := ⟨h.os, h.tape, h.output, h.size, fun k hk _ => h.block k hk⟩
theorem Bel.refl (r : Option Nat) (B : Nat) (w : World) : Bel r B w w := Bel.of (Below.refl _ _) r
theorem Bel.toBelow {B : Nat} {w w' : World} (h : Bel none B w w') : Below B w w' := ⟨h.os, h.tape, h.output, h.size, fun k hk => h.block k hk (by simp)⟩
theorem Bel.trans {r : Option Nat} {B : Nat} {a b c : World} (h : Bel r B a b) (k : Bel r B b c) : Bel r B a c :=
  ⟨k.os.trans h.os, k.tape.trans h.tape, k.output.trans h.output, Nat.le_trans h.size k.size, fun i hi hr => (k.block i hi hr).trans (h.block i hi hr)⟩
theorem Bel.mono {r : Option Nat} {B B' : Nat} {w w' : World} (h : Bel r B w w') (hB : B' ≤ B) : Bel r B' w w' := ⟨h.os, h.tape, h.output, h.size, fun k hk => h.block k (Nat.lt_of_lt_of_le hk hB)⟩
theorem Bel.drew {r : Option Nat} {B : Nat} {a w : World} (h : Bel r B a w) : Bel r B a w.drew := ⟨h.os, h.tape, h.output, h.size, h.block⟩
theorem Bel.alloc {r : Option Nat} {B : Nat} {a w : World} (h : Bel r B a w) (hB : B ≤ w.heap.size) (o : Obj) : Bel r B a (w.alloc o) := h.trans (Bel.of ((Below.refl _ _).alloc hB o) r)
theorem Bel.setCell {r : Option Nat} {B : Nat} {a w : World} (h : Bel r B a w) {p : Addr} (hp : B ≤ p.block) (u : Value) : Bel r B a (w.setCell p u) := h.trans (Bel.of ((Below.refl _ _).setCell hp u) r)
theorem Bel.grown {r : Option Nat} {B : Nat} {a w w' : World} {row : Option Nat} (h : Bel r B a w) (hg : w.grownBy w' row) (hB : B ≤ w.heap.size) (hr : ∀ k, row = some k → B ≤ k) : Bel r B a w' :=
  h.trans (Bel.of ((Below.refl _ _).grown hg hB hr) r)

theorem bel_step {r : Option Nat} {W V w' : World} (hb : Bel r V.heap.size V w') (h : Bel r W.heap.size W V) : Bel r W.heap.size W w' := h.trans (hb.mono h.size)
theorem bel_below {r : Option Nat} {W V w' : World} (hb : Below V.heap.size V w') (h : Bel r W.heap.size W V) : Bel r W.heap.size W w' := bel_step (Bel.of hb r) h

/-- a block above the row is as it was -/
theorem bel_block {r : Option Nat} {N : Nat} {w w' : World} (hb : Bel r w.heap.size w w') (hr : ∀ C, r = some C → C < N) {k : Nat} (hk : N ≤ k) {o : Obj} (h : w.heap[k]? = some o) : w'.heap[k]? = some o := by
  have hl : k < w.heap.size := by
    rcases Nat.lt_or_ge k w.heap.size with h1 | h1
    · exact h1
    · rw [Array.getElem?_eq_none h1] at h; cases h
  rw [hb.block k hl (fun e => by have := hr k e; omega)]; exact h

def isInt : Value → Prop
  | .int _ _ => True
  | _ => False

/-- the block has numbers alone -/
def Solo (r : Option Nat) (w : World) : Prop := ∀ C, r = some C → ∀ o v, w.cell? ⟨C, o, none⟩ = some v → isInt v

theorem Solo.no (w : World) : Solo none w := fun C h => by cases h

theorem Solo.of {C t : Nat} {w : World} {c : Int} {f : Nat × Nat} (h : w.heap[C]? = some (.cells #[.int .i64 c] t f)) : Solo (some C) w := by
  intro D e o v hv
  injection e with e
  subst e
  simp only [World.cell?, h] at hv
  match o, hv with
  | 0, hv => simp at hv; subst hv; trivial
  | o + 1, hv => simp at hv

/-- not numbers alone -/
def Wordy (xs : List Value) : Prop := xs = [] ∨ ∃ (j : Nat) (x : Value), xs[j]? = some x ∧ ¬ isInt x

theorem seg_offr {w : World} {r : Option Nat} {b off : Nat} {xs : List Value} (hc : ∀ j, j < xs.length → w.cell? ⟨b, off + j, none⟩ = xs[j]?) (hx : Wordy xs) (hne : xs ≠ []) (hs : Solo r w) : r ≠ some b := by
  intro e
  rcases hx with h | ⟨j, x, hj, hn⟩
  · exact hne h
  · have hl : j < xs.length := by
      rcases Nat.lt_or_ge j xs.length with h1 | h1
      · exact h1
      · rw [List.getElem?_eq_none h1] at hj; cases hj
    exact hn (hs b e _ x ((hc j hl).trans hj))

theorem Bel.cell {r : Option Nat} {B : Nat} {w w' : World} (h : Bel r B w w') {b o : Nat} (hb : b < B) (hr : r ≠ some b) : w'.cell? ⟨b, o, none⟩ = w.cell? ⟨b, o, none⟩ := cell_of_block (h.block b hb hr)

theorem Seg.bel {w w' : World} {r : Option Nat} {ao : Option Addr} {xs : List Value} (h : Seg w ao xs) (hx : Wordy xs) (hs : Solo r w) (hb : Bel r w.heap.size w w') : Seg w' ao xs := by
  rcases h with h | ⟨b, off, rfl, h⟩
  · exact .inl h
  · by_cases hn : xs = []
    · exact .inl hn
    · have hl := Seg.block_lt h hn
      have hr := seg_offr h hx hn hs
      exact .inr ⟨b, off, rfl, fun j hj => (hb.cell hl hr).trans (h j hj)⟩

theorem wordy_l (l : List (ByteArray × ByteArray)) : Wordy (lcells l) := by
  cases l with
  | nil => exact .inl rfl
  | cons a r => exact .inr ⟨0, .string a.1, rfl, fun h => h⟩
theorem wordy_c (l : List CT) : Wordy (ccells l) := by
  cases l with
  | nil => exact .inl rfl
  | cons a r => exact .inr ⟨0, .slice a.sa a.ser.length a.sc, rfl, fun h => h⟩
theorem wordy_m (l : List Mt) : Wordy (mcells l) := by
  cases l with
  | nil => exact .inl rfl
  | cons a r => exact .inr ⟨1, .string a.key, rfl, fun h => h⟩
theorem wordy_w (l : List ByteArray) : Wordy (wcells l) := by
  cases l with
  | nil => exact .inl rfl
  | cons a r => exact .inr ⟨0, .string a, rfl, fun h => h⟩
theorem wordy_e (l : List ET) : Wordy (ecells l) := by
  cases l with
  | nil => exact .inl rfl
  | cons a r => exact .inr ⟨3, .string a.hd.word, rfl, fun h => h⟩

theorem typ_bel {w w' : World} {r : Option Nat} {T : Nat} {ao : Option Addr} {xs : List Value} (h : Seg w ao xs) (ht : xs = [] ∨ Typ w T ao) (hx : Wordy xs) (hs : Solo r w) (hb : Bel r w.heap.size w w') : xs = [] ∨ Typ w' T ao := by
  rcases ht with ht | ⟨b, off, arr, fr, e, hh⟩
  · exact .inl ht
  · rcases h with h | ⟨b', off', e', hc⟩
    · exact .inl h
    · by_cases hn : xs = []
      · exact .inl hn
      · rw [e] at e'
        injection e' with e'
        injection e' with e1 e2 _
        subst e1
        have hr := seg_offr hc hx hn hs
        exact .inr ⟨b, off, arr, fr, e, by rw [hb.block b (lt_of_block hh) hr]; exact hh⟩

theorem CsIn.bel {w w' : World} {r : Option Nat} {co : Option Addr} {l : List CT} (h : CsIn w co l) (hs : Solo r w) (hb : Bel r w.heap.size w w') : CsIn w' co l :=
  ⟨h.seg.bel (wordy_c _) hs hb, fun c hc => (h.ser c hc).bel (wordy_l _) hs hb, typ_bel h.seg h.ty (wordy_c _) hs hb, fun c hc => typ_bel (h.ser c hc) (h.tl c hc) (wordy_l _) hs hb⟩

theorem ET.In.bel {w w' : World} {r : Option Nat} (hs : Solo r w) (hb : Bel r w.heap.size w w') : ∀ t : ET, t.In w → t.In w' := by
  refine ET.ind ?_
  intro h s kids ih hin
  simp only [ET.In] at hin ⊢
  obtain ⟨⟨a, b, c⟩, d, e⟩ := hin
  exact ⟨⟨a.bel (wordy_m _) hs hb, b.bel (wordy_w _) hs hb, c.bel (wordy_e _) hs hb⟩, d, inL_of fun k hk => ih k hk (inL_mem e k hk)⟩

theorem SegN.bel {w w' : World} {r q : Option Nat} {ao : Option Addr} {xs : List Value} (h : SegN w q ao xs) (hx : Wordy xs) (hs : Solo r w) (hb : Bel r w.heap.size w w') : SegN w' q ao xs := by
  rcases h with h | ⟨b, off, rfl, hne, ⟨arr, fr, hh⟩, hc⟩
  · exact .inl h
  · by_cases hn : xs = []
    · exact .inl hn
    · have hr := seg_offr hc hx hn hs
      have hl := lt_of_block hh
      exact .inr ⟨b, off, rfl, hne, ⟨arr, fr, by rw [hb.block b hl hr]; exact hh⟩, fun j hj => (hb.cell hl hr).trans (hc j hj)⟩

/-- an own row above the block is as it was -/
theorem own_bel {w w' : World} {r : Option Nat} {base e size n : Nat} {v : Value} {xs : List Value} (h : w.ownsRow base e size v n xs) (hr : ∀ C, r = some C → C < base) (hb : Bel r w.heap.size w w') : w'.ownsRow base e size v n xs := by
  refine h.kept (row := r) ⟨hb.os, hb.tape, hb.output, hb.size, fun k hk hn => hb.block k hk (fun e => hn e.symm)⟩ ?_
  cases hv : v.ownBlock with
  | none => exact .inl rfl
  | some x =>
    right
    intro e
    have h1 := own_base h x hv
    have h2 := hr x (by first | exact e | exact e.symm)
    omega

/-- a series in memory -/
structure ST where
  ser : Lb
  sa : Option Addr
  sc : Nat

def hcells : List ST → List Value
  | [] => []
  | x :: r => .slice x.sa x.ser.length x.sc :: hcells r

theorem hcells_length (l : List ST) : (hcells l).length = l.length := by
  induction l with
  | nil => rfl
  | cons a r ih => simp [hcells, ih]

theorem wordy_h (l : List ST) : Wordy (hcells l) := by
  cases l with
  | nil => exact .inl rfl
  | cons a r => exact .inr ⟨0, .slice a.sa a.ser.length a.sc, rfl, fun h => h⟩

def st (l : List ST) (k : Nat) : ST := l.getD k ⟨[], none, 0⟩

theorem hcells_at : ∀ (l : List ST) (k : Nat), k < l.length → (hcells l)[k]? = some (.slice (st l k).sa (st l k).ser.length (st l k).sc)
  | [], k, h => by simp at h
  | x :: r, 0, _ => rfl
  | x :: r, k + 1, h => by
    have := hcells_at r k (by simpa using h)
    simpa [hcells, st] using this

theorem st_mem {l : List ST} {k : Nat} (hk : k < l.length) : st l k ∈ l := by
  simp only [st, List.getD, List.getElem?_eq_getElem hk, Option.getD_some]; exact List.getElem_mem hk

theorem seg_series {w : World} {ao : Option Addr} {l : List ST} {k : Nat} (h : Seg w ao (hcells l)) (hk : k < l.length) :
    ∃ b off, ao = some ⟨b, off, none⟩ ∧ b < w.heap.size ∧ ∀ j, j < l.length → w.cell? ⟨b, off + j, none⟩ = some (.slice (st l j).sa (st l j).ser.length (st l j).sc) := by
  have hs := hcells_length l
  rcases h with h | ⟨b, off, rfl, h⟩
  · rw [h] at hs; simp at hs; omega
  · have hc : ∀ j, j < l.length → w.cell? ⟨b, off + j, none⟩ = some (.slice (st l j).sa (st l j).ser.length (st l j).sc) := fun j hj => (h j (by omega)).trans (hcells_at l j hj)
    exact ⟨b, off, rfl, World.block_lt_of_cell? w ⟨b, off + k, none⟩ (hc k hk), hc⟩

/-- series lie there, and are few and short enough -/
structure SsIn (w : World) (ao : Option Addr) (l : List ST) : Prop where
  seg : Seg w ao (hcells l)
  ser : ∀ x ∈ l, Seg w x.sa (lcells x.ser)
  nil : ∀ x ∈ l, x.sa = none → x.ser.length = 0 ∧ x.sc = 0
  len : ∀ x ∈ l, x.ser.length ≤ 4

theorem SsIn.bel {w w' : World} {r : Option Nat} {ao : Option Addr} {l : List ST} (h : SsIn w ao l) (hs : Solo r w) (hb : Bel r w.heap.size w w') : SsIn w' ao l :=
  ⟨h.seg.bel (wordy_h _) hs hb, fun x hx => (h.ser x hx).bel (wordy_l _) hs hb, h.nil, h.len⟩

/-! what an expression comes to, of whatever its windows come to -/

mutual
def evG (f : Hd → Except Int (List Cl)) : Ex → Except Int Mn
  | .mk h kids =>
    if h.kind = 1 then .ok ⟨true, [([], h.n)]⟩
    else if h.kind = 2 then (match f h with | .error x => .error x | .ok c => .ok ⟨false, c⟩)
    else
      match evGL f kids with
      | .error x => .error x
      | .ok ms => if h.kind = 3 then (match allA h.word h.bs [] (ms.getD 0 ⟨false, []⟩).cs with | none => .error 3 | some c => .ok ⟨false, c⟩) else (match binM (ms.getD 0 ⟨false, []⟩) (ms.getD 1 ⟨false, []⟩) h.word with | none => .error 3 | some m => .ok m)
def evGL (f : Hd → Except Int (List Cl)) : List Ex → Except Int (List Mn)
  | [] => .ok []
  | k :: r =>
    match evG f k with
    | .error x => .error x
    | .ok m =>
      match evGL f r with
      | .error x => .error x
      | .ok ms => .ok (m :: ms)
end

mutual
/-- what its windows cost -/
def costG (f : Hd → Nat) : Ex → Nat
  | .mk h kids => if h.kind = 1 then 0 else if h.kind = 2 then f h else costGL f kids
def costGL (f : Hd → Nat) : List Ex → Nat
  | [] => 0
  | k :: r => costG f k + costGL f r
end

def exc (o : Option Mn) : Except Int Mn := match o with | none => .error 3 | some m => .ok m

def exb (o : Except Int Mn) (g : Mn → Except Int Mn) : Except Int Mn := match o with | .error x => .error x | .ok m => g m

theorem evg_num {f : Hd → Except Int (List Cl)} {h : Hd} {kids : List Ex} (e : h.kind = 1) : evG f (.mk h kids) = .ok ⟨true, [([], h.n)]⟩ := by rw [evG, if_pos e]
theorem evg_win {f : Hd → Except Int (List Cl)} {h : Hd} {kids : List Ex} (e : h.kind = 2) : evG f (.mk h kids) = (match f h with | .error x => .error x | .ok c => .ok ⟨false, c⟩) := by rw [evG, if_neg (by omega), if_pos e]
theorem evg_all {f : Hd → Except Int (List Cl)} {h : Hd} {k : Ex} (e : h.kind = 3) : evG f (.mk h [k]) = exb (evG f k) fun m => exc ((allA h.word h.bs [] m.cs).map fun c => ⟨false, c⟩) := by
  rw [evG, if_neg (by omega), if_neg (by omega), evGL]
  cases evG f k with
  | error x => rfl
  | ok m =>
    simp only [exb, evGL, e, if_true, List.getD_cons_zero]
    cases allA h.word h.bs [] m.cs <;> rfl
theorem evg_bin {f : Hd → Except Int (List Cl)} {h : Hd} {a b : Ex} (e : h.kind = 4) : evG f (.mk h [a, b]) = exb (evG f a) fun m => exb (evG f b) fun m' => exc (binM m m' h.word) := by
  rw [evG, if_neg (by omega), if_neg (by omega), evGL]
  cases evG f a with
  | error x => rfl
  | ok m =>
    cases hb : evG f b with
    | error x => simp [evGL, hb, exb]
    | ok m' =>
      have h3 : ¬ h.kind = 3 := by omega
      simp only [exb, evGL, hb, if_neg h3, List.getD_cons_zero, List.getD_cons_succ]
      cases binM m m' h.word <;> rfl

theorem costg_num {f : Hd → Nat} {h : Hd} {kids : List Ex} (e : h.kind = 1) : costG f (.mk h kids) = 0 := by rw [costG, if_pos e]
theorem costg_win {f : Hd → Nat} {h : Hd} {kids : List Ex} (e : h.kind = 2) : costG f (.mk h kids) = f h := by rw [costG, if_neg (by omega), if_pos e]
theorem costg_all {f : Hd → Nat} {h : Hd} {k : Ex} (e : h.kind = 3) : costG f (.mk h [k]) = costG f k := by
  rw [costG, if_neg (by omega), if_neg (by omega)]; simp [costGL]
theorem costg_bin {f : Hd → Nat} {h : Hd} {a b : Ex} (e : h.kind = 4) : costG f (.mk h [a, b]) = costG f a + costG f b := by
  rw [costG, if_neg (by omega), if_neg (by omega)]; simp [costGL]

/-- of windows that all come to something it is what it was -/
theorem evg_ev (l : List Ln) (time : Int) : ∀ x : Ex, evG (fun h => .ok (winC l h time)) x = exc (ev l time x) := by
  refine Ex.ind ?_
  intro h kids ih
  have hL : ∀ ks : List Ex, (∀ k ∈ ks, evG (fun h => .ok (winC l h time)) k = exc (ev l time k)) → evGL (fun h => .ok (winC l h time)) ks = (match evL l time ks with | none => .error 3 | some m => .ok m) := by
    intro ks
    induction ks with
    | nil => intro _; rfl
    | cons a r ihr =>
      intro hk
      rw [evGL, evL, hk a (by simp), ihr (fun k hk' => hk k (by simp [hk']))]
      cases ev l time a with
      | none => rfl
      | some m =>
        cases evL l time r with
        | none => rfl
        | some ms => rfl
  rw [evG, ev, hL kids ih]
  by_cases e1 : h.kind = 1
  · rw [if_pos e1, if_pos e1]; rfl
  rw [if_neg e1, if_neg e1]
  by_cases e2 : h.kind = 2
  · rw [if_pos e2, if_pos e2]; rfl
  rw [if_neg e2, if_neg e2]
  cases evL l time kids with
  | none => rfl
  | some ms =>
    simp only
    by_cases e3 : h.kind = 3
    · rw [if_pos e3, if_pos e3]
      cases allA h.word h.bs [] (ms.getD 0 ⟨false, []⟩).cs <;> rfl
    · rw [if_neg e3, if_neg e3]
      cases binM (ms.getD 0 ⟨false, []⟩) (ms.getD 1 ⟨false, []⟩) h.word <;> rfl

/-- the cells of a window, of what each series' samples come to; and what it costs -/
def winG (S : Nat → Except Int Grain.Sm) (h : Hd) : List ST → Nat → Except Int (List Cl)
  | [], _ => .ok []
  | x :: r, i =>
    if says x.ser h.ms = true then
      match S i with
      | .error e => .error e
      | .ok s =>
        match winG S h r (i + 1) with
        | .error e => .error e
        | .ok c => .ok ((if (valP h.word s).2 = true then [(x.ser, (valP h.word s).1)] else []) ++ c)
    else winG S h r (i + 1)

def winK (K : Nat → Nat) (h : Hd) : List ST → Nat → Nat
  | [], _ => 0
  | x :: r, i => (if says x.ser h.ms = true then K i else 0) + winK K h r (i + 1)

end Go.GrainU

/-
  The walk of comesTo.
-/
namespace Go.GrainU
open Go.RowKit

/-- cells lie in another block than a meaning -/
theorem segc_far {w : World} {ao : Option Addr} {s : List CT} {B t o : Nat} {f : Bool} {a : Option Addr} {n c : Nat} {fr : Nat × Nat} (h : Seg w ao (ccells s)) (hB : w.heap[B]? = some (.cells #[.bool f, .slice a n c] t fr)) (v : Value) : Seg (w.setCell ⟨B, o, none⟩ v) ao (ccells s) := by
  rcases h with h | ⟨b, off, rfl, h⟩
  · exact .inl h
  · cases s with
    | nil => exact .inl rfl
    | cons x r =>
      have h0 := h 0 (by simp [ccells])
      have h1 := h 1 (by simp [ccells])
      have hne : b ≠ B := by
        intro e
        subst e
        simp [World.cell?, hB, ccells] at h0 h1
        match off, h0, h1 with
        | 0, h0, h1 => simp at h0
        | 1, h0, h1 => simp at h1
        | q + 2, h0, h1 => simp at h0
      refine .inr ⟨b, off, rfl, fun j hj => ?_⟩
      rw [cell_of_block (setCell_far hne)]
      exact h j hj

theorem CsIn.far {w : World} {co : Option Addr} {s : List CT} {B t o : Nat} {f : Bool} {a : Option Addr} {n c : Nat} {fr : Nat × Nat} (h : CsIn w co s) (hB : w.heap[B]? = some (.cells #[.bool f, .slice a n c] t fr)) (v : Value) : CsIn (w.setCell ⟨B, o, none⟩ v) co s :=
  ⟨segc_far h.seg hB v, fun x hx => seg_far (h.ser x hx) hB v, h.ty.imp id (·.set _ _), fun x hx => (h.tl x hx).imp id (·.set _ _)⟩

theorem fst_set {w : World} {B : Nat} {x y : Value} {t : TypeId} (h : w.heap[B]? = some (.cells #[x, y] t (0, 0))) (q : Value) : (w.setCell ⟨B, 0, none⟩ q).heap[B]? = some (.cells #[q, y] t (0, 0)) := by
  simp [World.setCell, Array.getElem?_modify, h]

/-- nothing stored where a meaning lies, and a block made -/
theorem err_done {w : World} {R : Nat} {t : TypeId} (h : w.heap[R]? = some (.cells #[.bool false, .slice none 0 0] t (0, 0))) (o : Obj) :
    (((w.setCell ⟨R, 0, none⟩ (.bool false)).setCell ⟨R, 1, none⟩ (.slice none 0 0)).alloc o).cell? ⟨R, 0, none⟩ = some (.bool false) ∧ (((w.setCell ⟨R, 0, none⟩ (.bool false)).setCell ⟨R, 1, none⟩ (.slice none 0 0)).alloc o).cell? ⟨R, 1, none⟩ = some (.slice none 0 0) := by
  have h1 := two_set h (.bool false) (.slice none 0 0)
  have h2 : (((w.setCell ⟨R, 0, none⟩ (.bool false)).setCell ⟨R, 1, none⟩ (.slice none 0 0)).alloc o).heap[R]? = some (.cells #[.bool false, .slice none 0 0] t (0, 0)) := by
    rw [Below.heap_alloc _ _ _ (lt_of_block h1)]; exact h1
  obtain ⟨a, b, _, _⟩ := two_cells h2
  exact ⟨a, b⟩

theorem below_err {w w1 : World} {R : Nat} (bw : Below w.heap.size w w1) (hR : w.heap.size ≤ R) (o : Obj) : Below w.heap.size w (((w1.setCell ⟨R, 0, none⟩ (.bool false)).setCell ⟨R, 1, none⟩ (.slice none 0 0)).alloc o) := by
  have b2 : Below w.heap.size w ((w1.setCell ⟨R, 0, none⟩ (.bool false)).setCell ⟨R, 1, none⟩ (.slice none 0 0)) := (bw.setCell hR _).setCell hR _
  exact b2.alloc b2.size _

/-- a meaning stored where a meaning lies: the cells are where they were -/
theorem CsIn.stored {w : World} {co : Option Addr} {s : List CT} {B t : Nat} (h : CsIn w co s) (hB : w.heap[B]? = some (.cells #[.bool false, .slice none 0 0] t (0, 0))) (f : Bool) (v : Value) : CsIn ((w.setCell ⟨B, 0, none⟩ (.bool f)).setCell ⟨B, 1, none⟩ v) co s :=
  (h.far hB (.bool f)).far (fst_set hB (.bool f)) v

theorem ev_num {l : List Ln} {time : Int} {h : Hd} {kids : List Ex} (e : h.kind = 1) : ev l time (.mk h kids) = some ⟨true, [([], h.n)]⟩ := by rw [ev, if_pos e]
theorem ev_win {l : List Ln} {time : Int} {h : Hd} {kids : List Ex} (e : h.kind = 2) : ev l time (.mk h kids) = some ⟨false, winC l h time⟩ := by rw [ev, if_neg (by omega), if_pos e]
theorem ev_all {l : List Ln} {time : Int} {h : Hd} {k : Ex} (e : h.kind = 3) : ev l time (.mk h [k]) = (ev l time k).bind fun m => (allA h.word h.bs [] m.cs).map fun c => ⟨false, c⟩ := by
  rw [ev, if_neg (by omega), if_neg (by omega), evL]
  cases ev l time k with
  | none => rfl
  | some m => simp [evL, e]
theorem ev_bin {l : List Ln} {time : Int} {h : Hd} {a b : Ex} (e : h.kind = 4) : ev l time (.mk h [a, b]) = (ev l time a).bind fun m => (ev l time b).bind fun m' => binM m m' h.word := by
  rw [ev, if_neg (by omega), if_neg (by omega), evL]
  cases ev l time a with
  | none => rfl
  | some m =>
    cases hb : ev l time b with
    | none => simp [evL, hb]
    | some m' => simp [evL, hb, e]

theorem ev_gd {l : List Ln} (hl : ∀ x ∈ l, x.1.length ≤ 4 ∧ Grain.Right x.2) (h8 : l.length ≤ 8) (time : Int) : ∀ x : Ex, Rt x → ∀ m, ev l time x = some m → Gd m := by
  refine Ex.ind ?_
  intro h kids ih hr m hm
  obtain ⟨ha, hk⟩ := hr.parts
  rcases alone_cases ha with ⟨e, k0, n0, n1⟩ | ⟨e, k0, wb⟩ | ⟨e, k0, ab⟩ | ⟨e, k0, sg⟩
  · rw [ev_num e] at hm
    simp at hm
    subst hm
    refine ⟨fun c hc => ?_, by simp, fun _ => by simp⟩
    simp at hc
    rw [hc]
    exact ⟨by simp [MC]; omega, by simp [MC]; omega, by simp⟩
  · rw [ev_win e] at hm
    simp at hm
    subst hm
    exact gd_win hl h8 h time
  · match kids, k0 with
    | [k], _ =>
      rw [ev_all e] at hm
      cases hq : ev l time k with
      | none => rw [hq] at hm; simp at hm
      | some q =>
        rw [hq] at hm
        exact gd_all (ih k (by simp) (hk k (by simp)) q hq) hm
  · match kids, k0 with
    | [a, b], _ =>
      rw [ev_bin e] at hm
      cases hq : ev l time a with
      | none => rw [hq] at hm; simp at hm
      | some q =>
        rw [hq] at hm
        cases hq' : ev l time b with
        | none => rw [hq'] at hm; simp at hm
        | some q' =>
          rw [hq'] at hm
          exact gd_bin (ih a (by simp) (hk a (by simp)) q hq) (ih b (by simp) (hk b (by simp)) q' hq') hm

theorem evg_gd {f : Hd → Except Int (List Cl)} (hf : ∀ h, winBad h = 0 → ∀ c, f h = .ok c → Gd ⟨false, c⟩) : ∀ x : Ex, Rt x → ∀ m, evG f x = .ok m → Gd m := by
  refine Ex.ind ?_
  intro h kids ih hr m hm
  obtain ⟨ha, hk⟩ := hr.parts
  rcases alone_cases ha with ⟨e, k0, n0, n1⟩ | ⟨e, k0, wb⟩ | ⟨e, k0, ab⟩ | ⟨e, k0, sg⟩
  · rw [evg_num e] at hm
    simp at hm
    subst hm
    refine ⟨fun c hc => ?_, by simp, fun _ => by simp⟩
    simp at hc
    rw [hc]
    exact ⟨by simp [MC]; omega, by simp [MC]; omega, by simp⟩
  · rw [evg_win e] at hm
    cases hq : f h with
    | error x => rw [hq] at hm; cases hm
    | ok c =>
      rw [hq] at hm
      simp at hm
      subst hm
      exact hf h wb c hq
  · match kids, k0 with
    | [k], _ =>
      rw [evg_all e] at hm
      cases hq : evG f k with
      | error x => rw [hq] at hm; cases hm
      | ok q =>
        rw [hq] at hm
        simp only [exb] at hm
        cases hp : (allA h.word h.bs [] q.cs).map fun c => (⟨false, c⟩ : Mn) with
        | none => rw [hp] at hm; cases hm
        | some p =>
          rw [hp] at hm
          simp only [exc] at hm
          injection hm with hm
          subst hm
          exact gd_all (ih k (by simp) (hk k (by simp)) q hq) hp
  · match kids, k0 with
    | [a, b], _ =>
      rw [evg_bin e] at hm
      cases hq : evG f a with
      | error x => rw [hq] at hm; cases hm
      | ok q =>
        rw [hq] at hm
        cases hq' : evG f b with
        | error x => rw [hq'] at hm; cases hm
        | ok q' =>
          rw [hq'] at hm
          simp only [exb] at hm
          cases hp : binM q q' h.word with
          | none => rw [hp] at hm; cases hm
          | some p =>
            rw [hp] at hm
            simp only [exc] at hm
            injection hm with hm
            subst hm
            exact gd_bin (ih a (by simp) (hk a (by simp)) q hq) (ih b (by simp) (hk b (by simp)) q' hq') hp

/-- what goes on beside: it lies below N, and writes one block of numbers alone -/
structure Beside (r : Option Nat) (N : Nat) (I : Nat → World → Prop) : Prop where
  row : ∀ C, r = some C → C < N
  kept : ∀ c w w', I c w → Below N w w' → I c w'
  solo : ∀ c w, I c w → Solo r w

/-- what comes, or an error; and what goes on beside -/
def GPost (O : Except Int Mn) (I : Nat → World → Prop) (r : Option Nat) (c k : Nat) (w : World) (e : Ending) (w' : World) : Prop :=
  ((∃ x : Int, x ≠ 0 ∧ O = .error x ∧ e = .returned (.tuple #[.agg #[.bool false, .slice none 0 0], .int .i64 x])) ∨
   ∃ nb cts co M d, e = .returned (.tuple #[.agg #[.bool nb, .slice co M d], .int .i64 0]) ∧ O = .ok ⟨nb, cls cts⟩ ∧ M = cts.length ∧ CsIn w' co cts ∧ I (c + k) w') ∧ Bel r w.heap.size w w'

def wopt (x : Except Int (List Cl)) : Except Int Mn := match x with | .error x => .error x | .ok c => .ok ⟨false, c⟩

theorem bel_err {r : Option Nat} {w w1 : World} {R : Nat} (bw : Bel r w.heap.size w w1) (hR : w.heap.size ≤ R) (o : Obj) : Bel r w.heap.size w (((w1.setCell ⟨R, 0, none⟩ (.bool false)).setCell ⟨R, 1, none⟩ (.slice none 0 0)).alloc o) := by
  have b2 : Bel r w.heap.size w ((w1.setCell ⟨R, 0, none⟩ (.bool false)).setCell ⟨R, 1, none⟩ (.slice none 0 0)) := (bw.setCell hR _).setCell hR _
  exact b2.alloc b2.size _

end Go.GrainU
namespace Go.Proofs.YthohkokhimdamaaGreat
open Go.RowKit Go.GrainU

set_option maxRecDepth 100000 in
set_option maxHeartbeats 8000000 in
theorem gcomes_any (f : Hd → Except Int (List Cl)) (kf : Hd → Nat) (I : Nat → World → Prop) (r : Option Nat) (Nb B1 B2 B3 : Nat) (hB : Beside r Nb I) (hf : ∀ h, winBad h = 0 → ∀ c, f h = .ok c → Gd ⟨false, c⟩)
    (hw : ∀ (t : ET) (w : World) (c : Nat), I c w → Nb ≤ w.heap.size → t.In w → winBad t.hd = 0 → Calls Tryz.prog 31 #[eval t, .pointer (some ⟨B1, 0, none⟩), .pointer (some ⟨B2, 0, none⟩), .pointer (some ⟨B3, 0, none⟩)] w fun e w' => GPost (wopt (f t.hd)) I r c (kf t.hd) w e w') :
    ∀ t : ET, ∀ (w : World) (c : Nat), I c w → Nb ≤ w.heap.size → t.In w → Rt t.ex →
    Calls Tryz.prog 30 #[eval t, .func (.func 31) #[] #[.pointer (some ⟨B1, 0, none⟩), .pointer (some ⟨B2, 0, none⟩), .pointer (some ⟨B3, 0, none⟩)]] w fun e w' => GPost (evG f t.ex) I r c (costG kf t.ex) w e w' := by
  have HGD := hide (evg_gd hf)
  have HB := hide hB
  clear hf hB
  refine ET.ind ?_
  intro h s kids ih w cc hI hNw hin hrt
  have HSo := hide (HB.out.solo cc w hI)
  have P1 := hide (fun w' c' (hb : Below w.heap.size w w') (h' : I c' w') (hn' : Nb ≤ w'.heap.size) h0 => hw (.node h s kids) w' c' h' hn' (ET.In.below hb _ hin) h0)
  have HKp := hide (fun c' w1 w2 (h1 : I c' w1) (h2 : Below w.heap.size w1 w2) => HB.out.kept c' w1 w2 h1 (h2.mono hNw))
  have HI := hide hI
  have HNw := hide hNw
  have HIN := hide hin
  have HRT := hide hrt
  clear hI hrt hNw hw
  obtain ⟨kd, en, rg, wd, ms, bs⟩ := h
  obtain ⟨ma, mc, ba, bc, ka, kc⟩ := s
  simp only [ET.In] at hin
  obtain ⟨⟨sm, sb, sk⟩, ⟨lm, lb, lk, -⟩, hkin⟩ := hin
  obtain ⟨halone, hkr⟩ := Rt.parts (show Rt (.mk ⟨kd, en, rg, wd, ms, bs⟩ (exL kids)) from HRT.out)
  rw [exL_length] at halone
  unfold eval at P1 ⊢
  simp only [ET.hd, ET.sp, ET.kids] at P1 ⊢
  obtain ⟨ml, hml⟩ : ∃ ml, ml = ms.length := ⟨_, rfl⟩
  obtain ⟨bl, hbl⟩ : ∃ bl, bl = bs.length := ⟨_, rfl⟩
  obtain ⟨kl, hkl⟩ : ∃ kl, kl = kids.length := ⟨_, rfl⟩
  rw [← hml, ← hbl, ← hkl] at P1 ⊢
  obtain ⟨W, hW⟩ : ∃ W, W = (w.alloc (.cells #[.int .i64 kd, .int .i64 en, .int .i64 rg, .string wd, .slice ma ml mc, .slice ba bl bc, .slice ka kl kc] 27)).alloc (.cells #[.bool false, .slice none 0 0] 67) := ⟨_, rfl⟩
  have bel0 : Below w.heap.size w W := by rw [hW]; exact ((Below.refl _ _).alloc (Nat.le_refl _) _).alloc (by simp) _
  have F0 : W.heap[w.heap.size]? = some (.cells #[.int .i64 kd, .int .i64 en, .int .i64 rg, .string wd, .slice ma ml mc, .slice ba bl bc, .slice ka kl kc] 27 (0, 0)) := by rw [hW, Below.heap_alloc _ _ _ (by simp)]; exact heap_alloc_new w _
  have G0 : W.heap[w.heap.size + 1]? = some (.cells #[.bool false, .slice none 0 0] 67 (0, 0)) := by
    have := heap_alloc_new (w.alloc (.cells #[.int .i64 kd, .int .i64 en, .int .i64 rg, .string wd, .slice ma ml mc, .slice ba bl bc, .slice ka kl kc] 27)) (.cells #[.bool false, .slice none 0 0] 67)
    rw [hW]; simpa using this
  have HW := hide hW
  have HKL := hide hkl
  have HML := hide hml
  have HBL := hide hbl
  clear hml hbl hkl hW
  rcases alone_cases halone with ⟨e, k0, n0, n1⟩ | ⟨e, k0, wb⟩ | ⟨e, k0, ab⟩ | ⟨e, k0, sg⟩
  · have HE : Hid (evG f (ET.node ⟨kd, en, rg, wd, ms, bs⟩ ⟨ma, mc, ba, bc, ka, kc⟩ kids).ex = .ok ⟨true, [([], en)]⟩) := evg_num e
    have HK : Hid (costG kf (ET.node ⟨kd, en, rg, wd, ms, bs⟩ ⟨ma, mc, ba, bc, ka, kc⟩ kids).ex = 0) := costg_num e
    simp only at e
    subst e
    rw [HE.out, HK.out]
    clear HE HK ih P1 HIN HRT F0 G0 halone
    go_enter Tryz.func30, Tryz.ntmps30
    go_wp2
    refine bodyPost_ret (v := .tuple #[.agg #[.bool true, .slice (some ⟨w.heap.size + 1 + 1, 0, none⟩) 1 1], .int .i64 0]) (by simp [results, Tryz.results30, go_sem]) rfl ⟨.inr ⟨true, [⟨[], en, none, 0⟩], some ⟨w.heap.size + 1 + 1, 0, none⟩, 1, 1, rfl, rfl, rfl, ⟨?_, ?_, .inr ⟨_, _, #[.slice none 0 0, .int .i64 en], (0, 0), rfl, ?_⟩, fun c hc => .inl (by simp at hc; rw [hc]; rfl)⟩, HKp.out _ _ _ HI.out ?_⟩, ?_⟩
    · have := seg_new ((w.alloc (.cells #[.int .i64 1, .int .i64 en, .int .i64 rg, .string wd, .slice ma ml mc, .slice ba bl bc, .slice ka kl kc] 27)).alloc (.cells #[.bool true, .slice (some ⟨w.heap.size + 1 + 1, 0, none⟩) 1 1] 67)) #[.slice none 0 0, .int .i64 en] 57
      simpa [ccells] using this
    · intro c hc
      simp at hc
      rw [hc]
      exact .inl rfl
    · have := heap_alloc_new ((w.alloc (.cells #[.int .i64 1, .int .i64 en, .int .i64 rg, .string wd, .slice ma ml mc, .slice ba bl bc, .slice ka kl kc] 27)).alloc (.cells #[.bool true, .slice (some ⟨w.heap.size + 1 + 1, 0, none⟩) 1 1] 67)) (.cells #[.slice none 0 0, .int .i64 en] 57)
      simpa using this
    · exact (((Below.refl _ _).alloc (Nat.le_refl _) _).alloc (by simp) _).alloc (by simp; omega) _
    · exact Bel.of ((((Below.refl _ _).alloc (Nat.le_refl _) _).alloc (by simp) _).alloc (by simp; omega) _) r
  · have HE : Hid (evG f (ET.node ⟨kd, en, rg, wd, ms, bs⟩ ⟨ma, mc, ba, bc, ka, kc⟩ kids).ex = wopt (f ⟨kd, en, rg, wd, ms, bs⟩)) := evg_win e
    have HK : Hid (costG kf (ET.node ⟨kd, en, rg, wd, ms, bs⟩ ⟨ma, mc, ba, bc, ka, kc⟩ kids).ex = kf ⟨kd, en, rg, wd, ms, bs⟩) := costg_win e
    have P2 := hide (P1.out W cc bel0 (HKp.out _ _ _ HI.out bel0) (Nat.le_trans HNw.out bel0.size) wb)
    generalize hRR : wopt (f ⟨kd, en, rg, wd, ms, bs⟩) = RR at P2 HE
    generalize hKK : kf ⟨kd, en, rg, wd, ms, bs⟩ = KK at P2 HK
    simp only at e
    subst e
    rw [HE.out, HK.out]
    clear HE HK ih P1 HIN HRT halone hRR hKK
    obtain ⟨p0, p1, p2, p3, p4, p5, p6⟩ := seven_cells F0
    go_enter Tryz.func30, Tryz.ntmps30
    go_wp2_with fail
    rw [← HW.out]
    refine P2.out.mono ?_
    rintro e w1 ⟨hp, b1⟩
    have G1 := bel_block b1 HB.out.row (Nat.le_trans HNw.out (Nat.le_succ _)) G0
    obtain ⟨t0, t1, t2, t3⟩ := two_cells G1
    have bw : Bel r w.heap.size w w1 := (Bel.of bel0 r).trans (b1.mono bel0.size)
    have HP := hide hp
    clear hp P2 p0 p1 p2 p3 p4 p5 p6
    rcases HP.out with ⟨x, hx, ho, he⟩ | ⟨nb2, cts2, co2, N2, d2, he, ho, hN, hC, hI2⟩
    · rw [he]
      have HE3 := hide ho
      have HX := hide hx
      clear HP ho he hx
      go_wp2
      exact bodyPost_ret (v := .tuple #[.agg #[.bool false, .slice none 0 0], .int .i64 x]) (by simp [results, Tryz.results30, go_sem, t0, t1]) rfl ⟨.inl ⟨x, HX.out, HE3.out, rfl⟩, (bw.setCell (by show w.heap.size ≤ w.heap.size + 1; omega) _).setCell (by show w.heap.size ≤ w.heap.size + 1; omega) _⟩
    · rw [he]
      have HE3 := hide ho
      have HN2 := hide hN
      have HI2 := hide hI2
      clear HP ho he hN hI2
      go_wp2
      exact bodyPost_ret (v := .tuple #[.agg #[.bool nb2, .slice co2 N2 d2], .int .i64 0]) (by simp [results, Tryz.results30, go_sem, t0, t1]) rfl ⟨.inr ⟨nb2, cts2, co2, N2, d2, rfl, HE3.out, HN2.out, hC.stored G1 nb2 _, HKp.out _ _ _ HI2.out (((Below.refl _ _).setCell (by show w.heap.size ≤ w.heap.size + 1; omega) _).setCell (by show w.heap.size ≤ w.heap.size + 1; omega) _)⟩, (bw.setCell (by show w.heap.size ≤ w.heap.size + 1; omega) _).setCell (by show w.heap.size ≤ w.heap.size + 1; omega) _⟩
  · match kids, k0, HKL, sk, hkin, hkr, ih, HRT with
    | [k], _, HKL, sk, hkin, hkr, ih, HRT =>
      have HE : Hid (evG f (ET.node ⟨kd, en, rg, wd, ms, bs⟩ ⟨ma, mc, ba, bc, ka, kc⟩ [k]).ex = exb (evG f k.ex) fun m => exc ((allA wd bs [] m.cs).map fun c => ⟨false, c⟩)) := evg_all e
      have HK : Hid (costG kf (ET.node ⟨kd, en, rg, wd, ms, bs⟩ ⟨ma, mc, ba, bc, ka, kc⟩ [k]).ex = costG kf k.ex) := costg_all e
      have hk1 : kl = 1 := by rw [HKL.out]; rfl
      obtain ⟨b, off, rfl, hb, hcell⟩ := seg_expr sk (k := 0) (by simp)
      have hc7 : Cells7 w b off k := by simpa using hcell 0 (by simp)
      obtain ⟨c0, c1, c2, c3, c4, c5, c6⟩ := hc7
      have PI := hide (fun w' (hb : Below w.heap.size w w') => ih k (by simp) w' cc (HKp.out _ _ _ HI.out hb) (Nat.le_trans HNw.out hb.size) (ET.In.below hb k (inL_mem hkin k (by simp))) (hkr k.ex (by simp [exL])))
      generalize hev : evG f k.ex = O at PI HE
      generalize hck : costG kf k.ex = K1 at PI HK
      have HO := hide hev
      have rk := hide (hkr k.ex (by simp [exL]))
      simp only at e
      subst e
      subst hk1
      rw [HE.out, HK.out]
      clear ih hev hck HIN HRT halone P1 hkr hkin sk HK
      unfold eval at PI
      obtain ⟨RES, hRES⟩ : ∃ RES, RES = exb O fun m => exc ((allA wd bs [] m.cs).map fun c => (⟨false, c⟩ : Mn)) := ⟨_, rfl⟩
      rw [← hRES]
      have HRES := hide hRES
      clear hRES
      go_enter Tryz.func30, Tryz.ntmps30
      go_wp2_with fail
      rw [← HW.out]
      refine (PI.out W bel0).mono ?_
      rintro e w1 ⟨hp, b1⟩
      have G1 := bel_block b1 HB.out.row (Nat.le_trans HNw.out (Nat.le_succ _)) G0
      have F1 := bel_block b1 HB.out.row HNw.out F0
      have bw : Bel r w.heap.size w w1 := (Bel.of bel0 r).trans (b1.mono bel0.size)
      have HP := hide hp
      clear hp c0 c1 c2 c3 c4 c5 c6 PI
      obtain ⟨t0, t1, t2, t3⟩ := two_cells G1
      rcases HP.out with ⟨x, hx, ho, he⟩ | ⟨nb, cts, co, N, d, he, ho, hN, hC, hI1⟩
      · rw [he]
        have HE2 : Hid (RES = .error x) := by show _ = _; rw [HRES.out, ho]; rfl
        have HX := hide hx
        have hxb : (x != 0) = true := by simpa using hx
        clear hx
        have l1 : w.heap.size + 1 < w1.heap.size := lt_of_block G1
        clear HP ho HRES HE he HO
        go_wp2
        exact bodyPost_ret (v := .tuple #[.agg #[.bool false, .slice none 0 0], .int .i64 x]) (by simp [results, Tryz.results30, go_sem, (err_done G1 (.cells #[.bool false, .slice none 0 0] 67)).1, (err_done G1 (.cells #[.bool false, .slice none 0 0] 67)).2]) rfl ⟨.inl ⟨x, HX.out, HE2.out, rfl⟩, bel_err bw (by omega) _⟩
      · rw [he]
        have HE2 : Hid (RES = exc ((allA wd bs [] (cls cts)).map fun c => (⟨false, c⟩ : Mn))) := by show _ = _; rw [HRES.out, ho]; rfl
        have gd := HGD.out k.ex rk.out ⟨nb, cls cts⟩ (HO.out.trans ho)
        obtain ⟨V, hV⟩ : ∃ V, V = w1.alloc (.cells #[.bool nb, .slice co N d] 67) := ⟨_, rfl⟩
        have bV : Below w1.heap.size w1 V := by rw [hV]; exact (Below.refl _ _).alloc (Nat.le_refl _) _
        have hN8 : N ≤ 8 := by rw [hN, ← cls_len]; exact gd.len
        have PAl := hide (mall_any cts bs wd co ba N d bl bc V (hC.below bV) ((sb.bel (wordy_w _) HSo.out bw).below bV) hN HBL.out (by rw [HBL.out]; omega) gd.fine hN8)
        have HV := hide hV
        obtain ⟨p0, p1, p2, p3, p4, p5, p6⟩ := seven_cells F1
        have l0 : w.heap.size < w1.heap.size := lt_of_block F1
        have l1 : w.heap.size + 1 < w1.heap.size := lt_of_block G1
        have G2 := below_block bV G1
        have bW : Bel r w.heap.size w V := bel_below bV bw
        have HI1 := hide (HKp.out _ _ _ hI1 (bV.mono bw.size))
        clear hI1
        clear HP ho HRES HE he HO hV gd hC hN
        go_wp2_with fail
        rw [← HV.out]
        refine PAl.out.mono ?_
        rintro e w2 ⟨hp, b2⟩
        have G3 := below_block b2 G2
        have bX : Bel r w.heap.size w w2 := bel_below b2 bW
        have HI2 := hide (HKp.out _ _ _ HI1.out (b2.mono bW.size))
        obtain ⟨t0, t1, t2, t3⟩ := two_cells G3
        have HP := hide hp
        clear hp PAl p0 p1 p2 p3 p4 p5 p6
        rcases HP.out with ⟨ho, he⟩ | ⟨nb2, cts2, co2, N2, d2, he, ho, hN, hC⟩
        · rw [he]
          have HE3 : Hid (RES = .error 3) := by show _ = _; rw [HE2.out, ho]; rfl
          clear HP ho he HE2
          go_wp2
          exact bodyPost_ret (v := .tuple #[.agg #[.bool false, .slice none 0 0], .int .i64 3]) (by simp [results, Tryz.results30, go_sem, t0, t1]) rfl ⟨.inl ⟨3, by decide, HE3.out, rfl⟩, (bX.setCell (by show w.heap.size ≤ w.heap.size + 1; omega) _).setCell (by show w.heap.size ≤ w.heap.size + 1; omega) _⟩
        · rw [he]
          have HE3 : Hid (RES = .ok ⟨nb2, cls cts2⟩) := by show _ = _; rw [HE2.out, ho]; rfl
          have HN2 := hide hN
          clear HP ho he HE2 hN
          go_wp2
          exact bodyPost_ret (v := .tuple #[.agg #[.bool nb2, .slice co2 N2 d2], .int .i64 0]) (by simp [results, Tryz.results30, go_sem, t0, t1]) rfl ⟨.inr ⟨nb2, cts2, co2, N2, d2, rfl, HE3.out, HN2.out, hC.stored G3 nb2 _, HKp.out _ _ _ HI2.out (((Below.refl _ _).setCell (by show w.heap.size ≤ w.heap.size + 1; omega) _).setCell (by show w.heap.size ≤ w.heap.size + 1; omega) _)⟩, (bX.setCell (by show w.heap.size ≤ w.heap.size + 1; omega) _).setCell (by show w.heap.size ≤ w.heap.size + 1; omega) _⟩
  · match kids, k0, HKL, sk, hkin, hkr, ih, HRT with
    | [k, j], _, HKL, sk, hkin, hkr, ih, HRT =>
      have HE : Hid (evG f (ET.node ⟨kd, en, rg, wd, ms, bs⟩ ⟨ma, mc, ba, bc, ka, kc⟩ [k, j]).ex = exb (evG f k.ex) fun m => exb (evG f j.ex) fun m' => exc (binM m m' wd)) := evg_bin e
      have HK : Hid (costG kf (ET.node ⟨kd, en, rg, wd, ms, bs⟩ ⟨ma, mc, ba, bc, ka, kc⟩ [k, j]).ex = costG kf k.ex + costG kf j.ex) := costg_bin e
      have hk1 : kl = 2 := by rw [HKL.out]; rfl
      obtain ⟨b, off, rfl, hb, hcell⟩ := seg_expr sk (k := 0) (by simp)
      have hc7 : Cells7 w b off k := by simpa using hcell 0 (by simp)
      have hd7 : Cells7 w b (off + 7) j := by simpa using hcell 1 (by simp)
      obtain ⟨c0, c1, c2, c3, c4, c5, c6⟩ := hc7
      have PI := hide (fun w' (hb : Below w.heap.size w w') => ih k (by simp) w' cc (HKp.out _ _ _ HI.out hb) (Nat.le_trans HNw.out hb.size) (ET.In.below hb k (inL_mem hkin k (by simp))) (hkr k.ex (by simp [exL])))
      have PJ := hide (fun w' c' (hb : Bel r w.heap.size w w') (h' : I c' w') => ih j (by simp) w' c' h' (Nat.le_trans HNw.out hb.size) (ET.In.bel HSo.out hb j (inL_mem hkin j (by simp))) (hkr j.ex (by simp [exL])))
      generalize hev : evG f k.ex = O at PI HE
      generalize hck : costG kf k.ex = K1 at PI HK
      generalize hev2 : evG f j.ex = O2 at PJ HE
      generalize hck2 : costG kf j.ex = K2 at PJ HK
      have HO := hide hev
      have HO2 := hide hev2
      have rk := hide (hkr k.ex (by simp [exL]))
      have rj := hide (hkr j.ex (by simp [exL]))
      simp only at e
      subst e
      subst hk1
      rw [HE.out, HK.out]
      clear ih hev hev2 hck hck2 HIN HRT halone P1 hkr hkin sk HK
      unfold eval at PI PJ
      obtain ⟨RES, hRES⟩ : ∃ RES, RES = exb O fun m => exb O2 fun m' => exc (binM m m' wd) := ⟨_, rfl⟩
      rw [← hRES]
      have HRES := hide hRES
      have HD7 := hide hd7
      clear hRES hd7
      go_enter Tryz.func30, Tryz.ntmps30
      go_wp2_with fail
      rw [← HW.out]
      refine (PI.out W bel0).mono ?_
      rintro e w1 ⟨hp, b1⟩
      have G1 := bel_block b1 HB.out.row (Nat.le_trans HNw.out (Nat.le_succ _)) G0
      have F1 := bel_block b1 HB.out.row HNw.out F0
      have bw : Bel r w.heap.size w w1 := (Bel.of bel0 r).trans (b1.mono bel0.size)
      have l0 : w.heap.size < w1.heap.size := lt_of_block F1
      have l1 : w.heap.size + 1 < w1.heap.size := lt_of_block G1
      have HP := hide hp
      clear hp c0 c1 c2 c3 c4 c5 c6 PI
      obtain ⟨t0, t1, t2, t3⟩ := two_cells G1
      rcases HP.out with ⟨x, hx, ho, he⟩ | ⟨nb, cts, co, N, d, he, ho, hN, hC, hI1⟩
      · rw [he]
        have HE2 : Hid (RES = .error x) := by show _ = _; rw [HRES.out, ho]; rfl
        have HX := hide hx
        have hxb : (x != 0) = true := by simpa using hx
        clear hx
        clear HP ho HRES HE he HO HO2
        go_wp2
        exact bodyPost_ret (v := .tuple #[.agg #[.bool false, .slice none 0 0], .int .i64 x]) (by simp [results, Tryz.results30, go_sem, (err_done G1 (.cells #[.bool false, .slice none 0 0] 67)).1, (err_done G1 (.cells #[.bool false, .slice none 0 0] 67)).2]) rfl ⟨.inl ⟨x, HX.out, HE2.out, rfl⟩, bel_err bw (by omega) _⟩
      · rw [he]
        have HE2 : Hid (RES = exb O2 fun m' => exc (binM ⟨nb, cls cts⟩ m' wd)) := by show _ = _; rw [HRES.out, ho]; rfl
        have gd := HGD.out k.ex rk.out ⟨nb, cls cts⟩ (HO.out.trans ho)
        obtain ⟨V, hV⟩ : ∃ V, V = w1.alloc (.cells #[.bool nb, .slice co N d] 67) := ⟨_, rfl⟩
        obtain ⟨X, hX⟩ : ∃ X, X = w1.heap.size := ⟨_, rfl⟩
        have X0 : V.heap[X]? = some (.cells #[.bool nb, .slice co N d] 67 (0, 0)) := by rw [hV, hX]; exact heap_alloc_new w1 _
        have bV : Below w1.heap.size w1 V := by rw [hV]; exact (Below.refl _ _).alloc (Nat.le_refl _) _
        have hCV := hC.below bV
        have HV := hide hV
        have HXN : Hid (Nb ≤ X) := by show _ ≤ _; rw [hX]; exact Nat.le_trans HNw.out bw.size
        have HX := hide hX
        have HN := hide hN
        have HGK := hide gd
        obtain ⟨p0, p1, p2, p3, p4, p5, p6⟩ := seven_cells F1
        have G2 := below_block bV G1
        have F2 := below_block bV F1
        have bW : Bel r w.heap.size w V := bel_below bV bw
        have HI1 := hide (HKp.out _ _ _ hI1 (bV.mono bw.size))
        clear hI1
        obtain ⟨d0, d1, d2, d3, d4, d5, d6⟩ := HD7.out
        have hrb : r ≠ some b := fun e0 => HSo.out b e0 _ _ d3
        have q0 := (bw.cell (b := b) (o := off + 7) hb hrb).trans d0
        have q1 := (bw.cell (b := b) (o := off + 7 + 1) hb hrb).trans d1
        have q2 := (bw.cell (b := b) (o := off + 7 + 2) hb hrb).trans d2
        have q3 := (bw.cell (b := b) (o := off + 7 + 3) hb hrb).trans d3
        have q4 := (bw.cell (b := b) (o := off + 7 + 4) hb hrb).trans d4
        have q5 := (bw.cell (b := b) (o := off + 7 + 5) hb hrb).trans d5
        have q6 := (bw.cell (b := b) (o := off + 7 + 6) hb hrb).trans d6
        have bl1 : b < w1.heap.size := Nat.lt_of_lt_of_le hb bw.size
        clear HP ho HRES HE he HO hV gd hC hN d0 d1 d2 d3 d4 d5 d6 hrb
        go_wp2_with fail
        rw [← HV.out]
        refine (PJ.out V _ bW HI1.out).mono ?_
        rintro e w2 ⟨hp, b2⟩
        rw [← HX.out]
        have G3 := bel_block b2 HB.out.row (Nat.le_trans HNw.out (Nat.le_succ _)) G2
        have F3 := bel_block b2 HB.out.row HNw.out F2
        have X1 := bel_block b2 HB.out.row HXN.out X0
        have hC2 := hCV.bel (HB.out.solo _ _ HI1.out) b2
        have bX : Bel r w.heap.size w w2 := bel_step b2 bW
        have l2 : w.heap.size < w2.heap.size := lt_of_block F3
        have l3 : w.heap.size + 1 < w2.heap.size := lt_of_block G3
        have l4 : X < w2.heap.size := lt_of_block X1
        obtain ⟨t0, t1, t2, t3⟩ := two_cells G3
        have HP := hide hp
        clear hp PJ p0 p1 p2 p3 p4 p5 p6 q0 q1 q2 q3 q4 q5 q6 HX hX HV
        rcases HP.out with ⟨x, hx, ho, he⟩ | ⟨nb2, cts2, co2, N2, e2, he, ho, hN, hC, hI2⟩
        · rw [he]
          have HE3 : Hid (RES = .error x) := by show _ = _; rw [HE2.out, ho]; rfl
          have HX := hide hx
          have hxb : (x != 0) = true := by simpa using hx
          clear hx
          clear HP ho he HE2
          go_wp2
          exact bodyPost_ret (v := .tuple #[.agg #[.bool false, .slice none 0 0], .int .i64 x]) (by simp [results, Tryz.results30, go_sem, (err_done G3 (.cells #[.bool false, .slice none 0 0] 67)).1, (err_done G3 (.cells #[.bool false, .slice none 0 0] 67)).2]) rfl ⟨.inl ⟨x, HX.out, HE3.out, rfl⟩, bel_err bX (by omega) _⟩
        · rw [he]
          have HE3 : Hid (RES = exc (binM ⟨nb, cls cts⟩ ⟨nb2, cls cts2⟩ wd)) := by show _ = _; rw [HE2.out, ho]; rfl
          have gd2 := HGD.out j.ex rj.out ⟨nb2, cls cts2⟩ (HO2.out.trans ho)
          have gd1 := HGK.out
          obtain ⟨U, hU⟩ : ∃ U, U = w2.alloc (.cells #[.bool nb2, .slice co2 N2 e2] 67) := ⟨_, rfl⟩
          have bU : Below w2.heap.size w2 U := by rw [hU]; exact (Below.refl _ _).alloc (Nat.le_refl _) _
          have PB := hide (mbin_any nb nb2 cts cts2 wd co co2 N d N2 e2 U (hC2.below bU) (hC.below bU) HN.out hN gd1.fine gd2.fine (by rw [HN.out, ← cls_len]; exact gd1.len) (by rw [hN, ← cls_len]; exact gd2.len) (fun h => by rw [HN.out, ← cls_len]; exact gd1.num h) (fun h => by rw [hN, ← cls_len]; exact gd2.num h))
          have HU := hide hU
          obtain ⟨x0, x1, _, _⟩ := two_cells X1
          obtain ⟨p0, p1, p2, p3, p4, p5, p6⟩ := seven_cells F3
          have G4 := below_block bU G3
          have bY : Bel r w.heap.size w U := bel_below bU bX
          have HI3 := hide (HKp.out _ _ _ hI2 (bU.mono bX.size))
          clear hI2
          clear HP ho he HE2 hU hN hC gd1 gd2 HO2
          go_wp2_with fail
          rw [← HU.out]
          refine PB.out.mono ?_
          rintro e w3 ⟨hp, b3⟩
          have G5 := below_block b3 G4
          have bZ : Bel r w.heap.size w w3 := bel_below b3 bY
          have HI4 := hide (HKp.out _ _ _ HI3.out (b3.mono bY.size))
          obtain ⟨t0, t1, t2, t3⟩ := two_cells G5
          have HP := hide hp
          clear hp PB p0 p1 p2 p3 p4 p5 p6 x0 x1 HU
          rcases HP.out with ⟨ho, he⟩ | ⟨nb3, cts3, co3, N3, d3, he, ho, hN, hC⟩
          · rw [he]
            have HE4 : Hid (RES = .error 3) := by show _ = _; rw [HE3.out, ho]; rfl
            clear HP ho he HE3
            go_wp2
            exact bodyPost_ret (v := .tuple #[.agg #[.bool false, .slice none 0 0], .int .i64 3]) (by simp [results, Tryz.results30, go_sem, t0, t1]) rfl ⟨.inl ⟨3, by decide, HE4.out, rfl⟩, (bZ.setCell (by show w.heap.size ≤ w.heap.size + 1; omega) _).setCell (by show w.heap.size ≤ w.heap.size + 1; omega) _⟩
          · rw [he]
            have HE4 : Hid (RES = .ok ⟨nb3, cls cts3⟩) := by show _ = _; rw [HE3.out, ho]; rfl
            have HN3 := hide hN
            clear HP ho he HE3 hN
            go_wp2
            exact bodyPost_ret (v := .tuple #[.agg #[.bool nb3, .slice co3 N3 d3], .int .i64 0]) (by simp [results, Tryz.results30, go_sem, t0, t1]) rfl ⟨.inr ⟨nb3, cts3, co3, N3, d3, rfl, HE4.out, HN3.out, hC.stored G5 nb3 _, by
              have := HKp.out _ _ _ HI4.out (((Below.refl w.heap.size w3).setCell (p := ⟨w.heap.size + 1, 0, none⟩) (by show w.heap.size ≤ w.heap.size + 1; omega) (.bool nb3)).setCell (p := ⟨w.heap.size + 1, 1, none⟩) (by show w.heap.size ≤ w.heap.size + 1; omega) (.slice co3 N3 d3))
              rw [Nat.add_assoc] at this
              exact this⟩, (bZ.setCell (by show w.heap.size ≤ w.heap.size + 1; omega) _).setCell (by show w.heap.size ≤ w.heap.size + 1; omega) _⟩

end Go.Proofs.YthohkokhimdamaaGreat
