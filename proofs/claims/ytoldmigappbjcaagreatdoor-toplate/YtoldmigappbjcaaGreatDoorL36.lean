import Derived.Deep.Onto
import Derived.Test.YtoldmigappbjcaaGreatDoorL02
import Derived.Test.YtoldmigappbjcaaGreatDoorL03
import Derived.Test.YtoldmigappbjcaaGreatDoorL35
namespace Go.GrainU
open Go.RowKit
structure CT where
 ser : Lb
 v : Int
 sa : Option Addr
 sc : Nat
def CT.cl (c : CT) : Cl := (c.ser, c.v)
def ct0 : CT := ⟨[], 0, none, 0⟩
def ct (l : List CT) (k : Nat) : CT := l.getD k ct0
def ccells : List CT → List Value
 | [] => []
 | c :: r => .slice c.sa c.ser.length c.sc :: .int .i64 c.v :: ccells r
theorem ccells_length (l : List CT) : (ccells l).length = l.length * 2 := by
 induction l with
 | nil => rfl
 | cons s r ih => simp only [ccells, List.length_cons, ih]; omega
theorem ccells_append (a b : List CT) : ccells (a ++ b) = ccells a ++ ccells b := by
 induction a with
 | nil => rfl
 | cons x r ih => simp [ccells, ih]
theorem ccells_at (l : List CT) : ∀ k, k < l.length → (ccells l)[k * 2]? = some (.slice (ct l k).sa (ct l k).ser.length (ct l k).sc) ∧ (ccells l)[k * 2 + 1]? = some (.int .i64 (ct l k).v) := by
 induction l with
 | nil => intro k hk; simp at hk
 | cons s r ih =>
  intro k hk
  match k with
  | 0 => simp [ccells, ct]
  | k + 1 =>
   have := ih k (by simpa using hk)
   rw [show (k + 1) * 2 = k * 2 + 1 + 1 from by omega]
   simpa [ccells, ct] using this
theorem seg_cell {w : World} {ao : Option Addr} {l : List CT} (h : Seg w ao (ccells l)) {k : Nat} (hk : k < l.length) :
  ∃ b off, ao = some ⟨b, off, none⟩ ∧ b < w.heap.size ∧ ∀ j, j < l.length → w.cell? ⟨b, off + j * 2, none⟩ = some (.slice (ct l j).sa (ct l j).ser.length (ct l j).sc) ∧ w.cell? ⟨b, off + j * 2 + 1, none⟩ = some (.int .i64 (ct l j).v) := by
 have hs := ccells_length l
 rcases h with h | ⟨b, off, rfl, h⟩
 ·rw [h] at hs; simp at hs; omega
 ·have hc : ∀ j, j < l.length → w.cell? ⟨b, off + j * 2, none⟩ = some (.slice (ct l j).sa (ct l j).ser.length (ct l j).sc) ∧ w.cell? ⟨b, off + j * 2 + 1, none⟩ = some (.int .i64 (ct l j).v) := fun j hj => by
   have := ccells_at l j hj
   exact ⟨(h (j * 2) (by omega)).trans this.1, by rw [Nat.add_assoc]; exact (h (j * 2 + 1) (by omega)).trans this.2⟩
  exact ⟨b, off, rfl, World.block_lt_of_cell? w ⟨b, off + k * 2, none⟩ (hc k hk).1, hc⟩
theorem ct_mem {l : List CT} {k : Nat} (hk : k < l.length) : ct l k ∈ l := by
 simp only [ct, List.getD, List.getElem?_eq_getElem hk, Option.getD_some]; exact List.getElem_mem hk
def cls (l : List CT) : List Cl := l.map CT.cl
theorem cls_len (l : List CT) : (cls l).length = l.length := by simp [cls]
def Typ (w : World) (T : Nat) (ao : Option Addr) : Prop := ∃ b off arr fr, ao = some ⟨b, off, none⟩ ∧ w.heap[b]? = some (.cells arr T fr)
theorem Typ.below {w w' : World} {T : Nat} {ao : Option Addr} (h : Typ w T ao) (hb : Below w.heap.size w w') : Typ w' T ao := by
 obtain ⟨b, off, arr, fr, e, hh⟩ := h
 exact ⟨b, off, arr, fr, e, below_block hb hh⟩
theorem Typ.set {w : World} {T : Nat} {ao : Option Addr} (h : Typ w T ao) (p : Addr) (v : Value) : Typ (w.setCell p v) T ao := by
 obtain ⟨b, off, arr, fr, e, hh⟩ := h
 by_cases hp : p.block = b
 ·subst hp
  have : ∃ arr', (w.setCell p v).heap[p.block]? = some (.cells arr' T fr) := by simp [World.setCell, Array.getElem?_modify, hh]
  obtain ⟨arr', h'⟩ := this
  exact ⟨p.block, off, arr', fr, e, h'⟩
 ·exact ⟨b, off, arr, fr, e, by rw [Below.heap_setCell w p v b (fun h => hp h.symm)]; exact hh⟩
theorem own_typ {w : World} {base T size N n d : Nat} {ao : Option Addr} {xs : List Value} (h : w.ownsRow base T size (.slice ao N d) n xs) : xs = [] ∨ Typ w T ao := by
 rcases h.2 with ⟨_, h2⟩ | ⟨g, cap, cur, hv, _, hh, _⟩
 ·left
  have h1 := h.1
  rw [h2] at h1
  simpa using h1
 ·right
  injection hv with e1 e2 e3
  exact ⟨g, 0, cur, (0, 0), e1, hh⟩
structure CsIn (w : World) (co : Option Addr) (l : List CT) : Prop where
 seg : Seg w co (ccells l)
 ser : ∀ c ∈ l, Seg w c.sa (lcells c.ser)
 ty : ccells l = [] ∨ Typ w 79 co
 tl : ∀ c ∈ l, lcells c.ser = [] ∨ Typ w 88 c.sa
theorem CsIn.below {w w' : World} {co : Option Addr} {l : List CT} (h : CsIn w co l) (hb : Below w.heap.size w w') : CsIn w' co l := ⟨h.seg.below hb, fun c hc => (h.ser c hc).below hb, h.ty.imp id (·.below hb), fun c hc => (h.tl c hc).imp id (·.below hb)⟩
def SegL (w : World) (ao : Option Addr) (l : Lb) : Prop := Seg w ao (lcells l) ∧ (lcells l = [] ∨ Typ w 88 ao)
theorem SegL.below {w w' : World} {ao : Option Addr} {l : Lb} (h : SegL w ao l) (hb : Below w.heap.size w w') : SegL w' ao l := ⟨h.1.below hb, h.2.imp id (·.below hb)⟩
theorem drop_ct {l : List CT} {k : Nat} (h : k < l.length) : l.drop k = ct l k :: l.drop (k + 1) := by
 rw [List.drop_eq_getElem_cons h]
 simp only [ct, List.getD, List.getElem?_eq_getElem h, Option.getD_some]
def SegN (w : World) (r : Option Nat) (ao : Option Addr) (xs : List Value) : Prop :=
 xs = [] ∨ ∃ b off, ao = some ⟨b, off, none⟩ ∧ r ≠ some b ∧ (∃ arr fr, w.heap[b]? = some (.cells arr 88 fr)) ∧ ∀ j, j < xs.length → w.cell? ⟨b, off + j, none⟩ = xs[j]?
theorem SegN.seg {w : World} {r : Option Nat} {ao : Option Addr} {xs : List Value} (h : SegN w r ao xs) : Seg w ao xs := by
 rcases h with h | ⟨b, off, e, _, _, hc⟩
 ·exact .inl h
 ·exact .inr ⟨b, off, e, hc⟩
theorem SegN.typ {w : World} {r : Option Nat} {ao : Option Addr} {xs : List Value} (h : SegN w r ao xs) : xs = [] ∨ Typ w 88 ao := by
 rcases h with h | ⟨b, off, e, _, ⟨arr, fr, hh⟩, hc⟩
 ·exact .inl h
 ·exact .inr ⟨b, off, arr, fr, e, hh⟩
theorem cell_of_block {w w' : World} {b o : Nat} (h : w'.heap[b]? = w.heap[b]?) : w'.cell? ⟨b, o, none⟩ = w.cell? ⟨b, o, none⟩ := by simp [World.cell?, h]
theorem SegN.grown {w w' : World} {r r' : Option Nat} {ao : Option Addr} {xs : List Value} (h : SegN w r ao xs) (hg : w.grownBy w' r) (hr : ∀ g, r' = some g → r = some g ∨ w.heap.size ≤ g) : SegN w' r' ao xs := by
 rcases h with h | ⟨b, off, rfl, hne, ⟨arr, fr, hh⟩, hc⟩
 ·exact .inl h
 ·have hl := lt_of_block hh
  have hb := hg.block b hl (fun e => hne e.symm)
  refine .inr ⟨b, off, rfl, fun e => ?_, ⟨arr, fr, by rw [hb]; exact hh⟩, fun j hj => ?_⟩
  ·rcases hr b e with e1 | e1
   ·exact hne e1
   ·omega
  ·rw [cell_of_block hb]; exact hc j hj
theorem SegN.below {w w' : World} {r : Option Nat} {ao : Option Addr} {xs : List Value} (h : SegN w r ao xs) (hb : Below w.heap.size w w') : SegN w' r ao xs := by
 rcases h with h | ⟨b, off, rfl, hne, ⟨arr, fr, hh⟩, hc⟩
 ·exact .inl h
 ·exact .inr ⟨b, off, rfl, hne, ⟨arr, fr, below_block hb hh⟩, fun j hj => (hb.cell (p := ⟨b, off + j, none⟩) (lt_of_block hh)).trans (hc j hj)⟩
theorem own_base {w : World} {base e size n : Nat} {v : Value} {xs : List Value} (h : w.ownsRow base e size v n xs) : ∀ g, v.ownBlock = some g → base ≤ g ∧ g < w.heap.size := fun g hg => by
 have := h.lt g hg
 exact this
theorem segN_own {w : World} {base size N d : Nat} {ao : Option Addr} {xs : List Value} (h : w.ownsRow base 88 size (.slice ao N d) N xs) {r : Option Nat} (hr : ∀ g, r = some g → g < base) : SegN w r ao xs := by
 by_cases hx : xs = []
 ·exact .inl hx
 ·rcases own_open h with ⟨ao', c, hv, hs, _⟩
  simp only [Value.slice.injEq] at hv
  obtain ⟨rfl, -, rfl⟩ := hv
  rcases hs with hs | ⟨b, off, rfl, hc⟩
  ·exact .inl hs
  ·rcases h.2 with ⟨h0, _⟩ | ⟨g', cap', cur, h0, hb, hh, _⟩
   ·cases h0
   ·injection h0 with e1 e2 e3
    injection e1 with e1
    injection e1 with e1 e4
    subst e1
    refine .inr ⟨b, off, rfl, fun e => ?_, ⟨cur, (0, 0), hh⟩, hc⟩
    have h1 := hr b e
    omega
open Go.RowKit
structure Bel (r : Option Nat) (B : Nat) (w w' : World) : Prop where
 os : w'.os = w.os
 tape : w'.tape = w.tape
 output : w'.output = w.output
 size : w.heap.size ≤ w'.heap.size
 block : ∀ k, k < B → r ≠ some k → w'.heap[k]? = w.heap[k]?
theorem Bel.of {B : Nat} {w w' : World} (h : Below B w w') (r : Option Nat) : Bel r B w w' := ⟨h.os, h.tape, h.output, h.size, fun k hk _ => h.block k hk⟩
theorem Bel.refl (r : Option Nat) (B : Nat) (w : World) : Bel r B w w := Bel.of (Below.refl _ _) r
theorem Bel.trans {r : Option Nat} {B : Nat} {a b c : World} (h : Bel r B a b) (k : Bel r B b c) : Bel r B a c :=
 ⟨k.os.trans h.os, k.tape.trans h.tape, k.output.trans h.output, Nat.le_trans h.size k.size, fun i hi hr => (k.block i hi hr).trans (h.block i hi hr)⟩
theorem Bel.mono {r : Option Nat} {B B' : Nat} {w w' : World} (h : Bel r B w w') (hB : B' ≤ B) : Bel r B' w w' := ⟨h.os, h.tape, h.output, h.size, fun k hk => h.block k (Nat.lt_of_lt_of_le hk hB)⟩
theorem Bel.alloc {r : Option Nat} {B : Nat} {a w : World} (h : Bel r B a w) (hB : B ≤ w.heap.size) (o : Obj) : Bel r B a (w.alloc o) := h.trans (Bel.of ((Below.refl _ _).alloc hB o) r)
theorem Bel.setCell {r : Option Nat} {B : Nat} {a w : World} (h : Bel r B a w) {p : Addr} (hp : B ≤ p.block) (u : Value) : Bel r B a (w.setCell p u) := h.trans (Bel.of ((Below.refl _ _).setCell hp u) r)
theorem bel_step {r : Option Nat} {W V w' : World} (hb : Bel r V.heap.size V w') (h : Bel r W.heap.size W V) : Bel r W.heap.size W w' := h.trans (hb.mono h.size)
theorem bel_below {r : Option Nat} {W V w' : World} (hb : Below V.heap.size V w') (h : Bel r W.heap.size W V) : Bel r W.heap.size W w' := bel_step (Bel.of hb r) h
theorem bel_block {r : Option Nat} {N : Nat} {w w' : World} (hb : Bel r w.heap.size w w') (hr : ∀ C, r = some C → C < N) {k : Nat} (hk : N ≤ k) {o : Obj} (h : w.heap[k]? = some o) : w'.heap[k]? = some o := by
 have hl : k < w.heap.size := by
  rcases Nat.lt_or_ge k w.heap.size with h1 | h1
  ·exact h1
  ·rw [Array.getElem?_eq_none h1] at h; cases h
 rw [hb.block k hl (fun e => by have := hr k e; omega)]; exact h
def isInt : Value → Prop
 | .int _ _ => True
 | _ => False
def Solo (r : Option Nat) (w : World) : Prop := ∀ C, r = some C → ∀ o v, w.cell? ⟨C, o, none⟩ = some v → isInt v
theorem Solo.of {C t : Nat} {w : World} {c : Int} {f : Nat × Nat} (h : w.heap[C]? = some (.cells #[.int .i64 c] t f)) : Solo (some C) w := by
 intro D e o v hv
 injection e with e
 subst e
 simp only [World.cell?, h] at hv
 match o, hv with
 | 0, hv => simp at hv; subst hv; trivial
 | o + 1, hv => simp at hv
def Wordy (xs : List Value) : Prop := xs = [] ∨ ∃ (j : Nat) (x : Value), xs[j]? = some x ∧ ¬ isInt x
theorem seg_offr {w : World} {r : Option Nat} {b off : Nat} {xs : List Value} (hc : ∀ j, j < xs.length → w.cell? ⟨b, off + j, none⟩ = xs[j]?) (hx : Wordy xs) (hne : xs ≠ []) (hs : Solo r w) : r ≠ some b := by
 intro e
 rcases hx with h | ⟨j, x, hj, hn⟩
 ·exact hne h
 ·have hl : j < xs.length := by
   rcases Nat.lt_or_ge j xs.length with h1 | h1
   ·exact h1
   ·rw [List.getElem?_eq_none h1] at hj; cases hj
  exact hn (hs b e _ x ((hc j hl).trans hj))
theorem Bel.cell {r : Option Nat} {B : Nat} {w w' : World} (h : Bel r B w w') {b o : Nat} (hb : b < B) (hr : r ≠ some b) : w'.cell? ⟨b, o, none⟩ = w.cell? ⟨b, o, none⟩ := cell_of_block (h.block b hb hr)
theorem Seg.bel {w w' : World} {r : Option Nat} {ao : Option Addr} {xs : List Value} (h : Seg w ao xs) (hx : Wordy xs) (hs : Solo r w) (hb : Bel r w.heap.size w w') : Seg w' ao xs := by
 rcases h with h | ⟨b, off, rfl, h⟩
 ·exact .inl h
 ·by_cases hn : xs = []
  ·exact .inl hn
  ·have hl := Seg.block_lt h hn
   have hr := seg_offr h hx hn hs
   exact .inr ⟨b, off, rfl, fun j hj => (hb.cell hl hr).trans (h j hj)⟩
theorem wordy_l (l : List (ByteArray × ByteArray)) : Wordy (lcells l) := by
 cases l with
 | nil => exact .inl rfl
 | cons a r => exact .inr ⟨0, .string a.1, rfl, fun h => h⟩
theorem wordy_c (l : List CT) : Wordy (ccells l) := by
 cases l with
 | nil => exact .inl rfl
 | cons a r => exact .inr ⟨0, .slice a.sa a.ser.length a.sc, rfl, fun h => h⟩
theorem wordy_m (l : List Mt) : Wordy (mcells l) := by
 cases l with
 | nil => exact .inl rfl
 | cons a r => exact .inr ⟨1, .string a.key, rfl, fun h => h⟩
theorem wordy_w (l : List ByteArray) : Wordy (wcells l) := by
 cases l with
 | nil => exact .inl rfl
 | cons a r => exact .inr ⟨0, .string a, rfl, fun h => h⟩
theorem wordy_e (l : List ET) : Wordy (ecells l) := by
 cases l with
 | nil => exact .inl rfl
 | cons a r => exact .inr ⟨3, .string a.hd.word, rfl, fun h => h⟩
theorem typ_bel {w w' : World} {r : Option Nat} {T : Nat} {ao : Option Addr} {xs : List Value} (h : Seg w ao xs) (ht : xs = [] ∨ Typ w T ao) (hx : Wordy xs) (hs : Solo r w) (hb : Bel r w.heap.size w w') : xs = [] ∨ Typ w' T ao := by
 rcases ht with ht | ⟨b, off, arr, fr, e, hh⟩
 ·exact .inl ht
 ·rcases h with h | ⟨b', off', e', hc⟩
  ·exact .inl h
  ·by_cases hn : xs = []
   ·exact .inl hn
   ·rw [e] at e'
    injection e' with e'
    injection e' with e1 e2 _
    subst e1
    have hr := seg_offr hc hx hn hs
    exact .inr ⟨b, off, arr, fr, e, by rw [hb.block b (lt_of_block hh) hr]; exact hh⟩
theorem CsIn.bel {w w' : World} {r : Option Nat} {co : Option Addr} {l : List CT} (h : CsIn w co l) (hs : Solo r w) (hb : Bel r w.heap.size w w') : CsIn w' co l :=
 ⟨h.seg.bel (wordy_c _) hs hb, fun c hc => (h.ser c hc).bel (wordy_l _) hs hb, typ_bel h.seg h.ty (wordy_c _) hs hb, fun c hc => typ_bel (h.ser c hc) (h.tl c hc) (wordy_l _) hs hb⟩
theorem ET.In.bel {w w' : World} {r : Option Nat} (hs : Solo r w) (hb : Bel r w.heap.size w w') : ∀ t : ET, t.In w → t.In w' := by
 refine ET.ind ?_
 intro h s kids ih hin
 simp only [ET.In] at hin ⊢
 obtain ⟨⟨a, b, c⟩, d, e⟩ := hin
 exact ⟨⟨a.bel (wordy_m _) hs hb, b.bel (wordy_w _) hs hb, c.bel (wordy_e _) hs hb⟩, d, inL_of fun k hk => ih k hk (inL_mem e k hk)⟩
theorem SegN.bel {w w' : World} {r q : Option Nat} {ao : Option Addr} {xs : List Value} (h : SegN w q ao xs) (hx : Wordy xs) (hs : Solo r w) (hb : Bel r w.heap.size w w') : SegN w' q ao xs := by
 rcases h with h | ⟨b, off, rfl, hne, ⟨arr, fr, hh⟩, hc⟩
 ·exact .inl h
 ·by_cases hn : xs = []
  ·exact .inl hn
  ·have hr := seg_offr hc hx hn hs
   have hl := lt_of_block hh
   exact .inr ⟨b, off, rfl, hne, ⟨arr, fr, by rw [hb.block b hl hr]; exact hh⟩, fun j hj => (hb.cell hl hr).trans (hc j hj)⟩
theorem own_bel {w w' : World} {r : Option Nat} {base e size n : Nat} {v : Value} {xs : List Value} (h : w.ownsRow base e size v n xs) (hr : ∀ C, r = some C → C < base) (hb : Bel r w.heap.size w w') : w'.ownsRow base e size v n xs := by
 refine h.kept (row := r) ⟨hb.os, hb.tape, hb.output, hb.size, fun k hk hn => hb.block k hk (fun e => hn e.symm)⟩ ?_
 cases hv : v.ownBlock with
 | none => exact .inl rfl
 | some x =>
  right
  intro e
  have h1 := own_base h x hv
  have h2 := hr x (by first | exact e | exact e.symm)
  omega
structure ST where
 ser : Lb
 sa : Option Addr
 sc : Nat
def hcells : List ST → List Value
 | [] => []
 | x :: r => .slice x.sa x.ser.length x.sc :: hcells r
theorem hcells_length (l : List ST) : (hcells l).length = l.length := by
 induction l with
 | nil => rfl
 | cons a r ih => simp [hcells, ih]
theorem wordy_h (l : List ST) : Wordy (hcells l) := by
 cases l with
 | nil => exact .inl rfl
 | cons a r => exact .inr ⟨0, .slice a.sa a.ser.length a.sc, rfl, fun h => h⟩
def st (l : List ST) (k : Nat) : ST := l.getD k ⟨[], none, 0⟩
theorem hcells_at : ∀ (l : List ST) (k : Nat), k < l.length → (hcells l)[k]? = some (.slice (st l k).sa (st l k).ser.length (st l k).sc)
 | [], k, h => by simp at h
 | x :: r, 0, _ => rfl
 | x :: r, k + 1, h => by
  have := hcells_at r k (by simpa using h)
  simpa [hcells, st] using this
theorem st_mem {l : List ST} {k : Nat} (hk : k < l.length) : st l k ∈ l := by
 simp only [st, List.getD, List.getElem?_eq_getElem hk, Option.getD_some]; exact List.getElem_mem hk
theorem seg_series {w : World} {ao : Option Addr} {l : List ST} {k : Nat} (h : Seg w ao (hcells l)) (hk : k < l.length) :
  ∃ b off, ao = some ⟨b, off, none⟩ ∧ b < w.heap.size ∧ ∀ j, j < l.length → w.cell? ⟨b, off + j, none⟩ = some (.slice (st l j).sa (st l j).ser.length (st l j).sc) := by
 have hs := hcells_length l
 rcases h with h | ⟨b, off, rfl, h⟩
 ·rw [h] at hs; simp at hs; omega
 ·have hc : ∀ j, j < l.length → w.cell? ⟨b, off + j, none⟩ = some (.slice (st l j).sa (st l j).ser.length (st l j).sc) := fun j hj => (h j (by omega)).trans (hcells_at l j hj)
  exact ⟨b, off, rfl, World.block_lt_of_cell? w ⟨b, off + k, none⟩ (hc k hk), hc⟩
structure SsIn (w : World) (ao : Option Addr) (l : List ST) : Prop where
 seg : Seg w ao (hcells l)
 ser : ∀ x ∈ l, Seg w x.sa (lcells x.ser)
 nil : ∀ x ∈ l, x.sa = none → x.ser.length = 0 ∧ x.sc = 0
 len : ∀ x ∈ l, x.ser.length ≤ 4
theorem SsIn.bel {w w' : World} {r : Option Nat} {ao : Option Addr} {l : List ST} (h : SsIn w ao l) (hs : Solo r w) (hb : Bel r w.heap.size w w') : SsIn w' ao l :=
 ⟨h.seg.bel (wordy_h _) hs hb, fun x hx => (h.ser x hx).bel (wordy_l _) hs hb, h.nil, h.len⟩
/-! what an expression comes tq, of whatever its windows come tq -/
mutual
def evG (f : Hd → Except Int (List Cl)) : Ex → Except Int Mn
 | .mk h kids =>
  if h.kind = 1 then .ok ⟨true, [([], h.n)]⟩
  else if h.kind = 2 then (match f h with | .error x => .error x | .ok c => .ok ⟨false, c⟩)
  else
   match evGL f kids with
   | .error x => .error x
   | .ok ms => if h.kind = 3 then (match allA h.word h.bs [] (ms.getD 0 ⟨false, []⟩).cs with | none => .error 3 | some c => .ok ⟨false, c⟩) else (match binM (ms.getD 0 ⟨false, []⟩) (ms.getD 1 ⟨false, []⟩) h.word with | none => .error 3 | some m => .ok m)
def evGL (f : Hd → Except Int (List Cl)) : List Ex → Except Int (List Mn)
 | [] => .ok []
 | k :: r =>
  match evG f k with
  | .error x => .error x
  | .ok m =>
   match evGL f r with
   | .error x => .error x
   | .ok ms => .ok (m :: ms)
end
mutual
def costG (f : Hd → Nat) : Ex → Nat
 | .mk h kids => if h.kind = 1 then 0 else if h.kind = 2 then f h else costGL f kids
def costGL (f : Hd → Nat) : List Ex → Nat
 | [] => 0
 | k :: r => costG f k + costGL f r
end
def exc (o : Option Mn) : Except Int Mn := match o with | none => .error 3 | some m => .ok m
def exb (o : Except Int Mn) (g : Mn → Except Int Mn) : Except Int Mn := match o with | .error x => .error x | .ok m => g m
theorem evg_num {f : Hd → Except Int (List Cl)} {h : Hd} {kids : List Ex} (e : h.kind = 1) : evG f (.mk h kids) = .ok ⟨true, [([], h.n)]⟩ := by rw [evG, if_pos e]
theorem evg_win {f : Hd → Except Int (List Cl)} {h : Hd} {kids : List Ex} (e : h.kind = 2) : evG f (.mk h kids) = (match f h with | .error x => .error x | .ok c => .ok ⟨false, c⟩) := by rw [evG, if_neg (by omega), if_pos e]
theorem evg_all {f : Hd → Except Int (List Cl)} {h : Hd} {k : Ex} (e : h.kind = 3) : evG f (.mk h [k]) = exb (evG f k) fun m => exc ((allA h.word h.bs [] m.cs).map fun c => ⟨false, c⟩) := by
 rw [evG, if_neg (by omega), if_neg (by omega), evGL]
 cases evG f k with
 | error x => rfl
 | ok m =>
  simp only [exb, evGL, e, if_true, List.getD_cons_zero]
  cases allA h.word h.bs [] m.cs <;> rfl
theorem evg_bin {f : Hd → Except Int (List Cl)} {h : Hd} {a b : Ex} (e : h.kind = 4) : evG f (.mk h [a, b]) = exb (evG f a) fun m => exb (evG f b) fun m' => exc (binM m m' h.word) := by
 rw [evG, if_neg (by omega), if_neg (by omega), evGL]
 cases evG f a with
 | error x => rfl
 | ok m =>
  cases hb : evG f b with
  | error x => simp [evGL, hb, exb]
  | ok m' =>
   have h3 : ¬ h.kind = 3 := by omega
   simp only [exb, evGL, hb, if_neg h3, List.getD_cons_zero, List.getD_cons_succ]
   cases binM m m' h.word <;> rfl
theorem costg_num {f : Hd → Nat} {h : Hd} {kids : List Ex} (e : h.kind = 1) : costG f (.mk h kids) = 0 := by rw [costG, if_pos e]
theorem costg_win {f : Hd → Nat} {h : Hd} {kids : List Ex} (e : h.kind = 2) : costG f (.mk h kids) = f h := by rw [costG, if_neg (by omega), if_pos e]
theorem costg_all {f : Hd → Nat} {h : Hd} {k : Ex} (e : h.kind = 3) : costG f (.mk h [k]) = costG f k := by
 rw [costG, if_neg (by omega), if_neg (by omega)]; simp [costGL]
theorem costg_bin {f : Hd → Nat} {h : Hd} {a b : Ex} (e : h.kind = 4) : costG f (.mk h [a, b]) = costG f a + costG f b := by
 rw [costG, if_neg (by omega), if_neg (by omega)]; simp [costGL]
end Go.GrainU
