import Derived.Test.YtoldmigappbjcaaGreatDoorL29
import Derived.Test.YtoldmigappbjcaaGreatDoorL31
import Derived.Test.YtoldmigappbjcaaGreatDoorL34
import Derived.Test.YtoldmigappbjcaaGreatDoorL42
namespace Go.GrainU
open Go.RowKit
def vcells : List ShT → List Value
 | [] => []
 | x :: r => x.cells ++ vcells r
def shd : ShT := ⟨Grain.szero, none, 0, none, 0, none, 0, none, 0⟩
def sht (l : List ShT) (k : Nat) : ShT := l.getD k shd
theorem shc_len (x : ShT) : x.cells.length = 9 := rfl
theorem vcells_length (l : List ShT) : (vcells l).length = l.length * 9 := by
 induction l with
 | nil => rfl
 | cons x r ih => simp only [vcells, List.length_append, shc_len, ih, List.length_cons]; omega
theorem vcells_append (a b : List ShT) : vcells (a ++ b) = vcells a ++ vcells b := by
 induction a with
 | nil => rfl
 | cons x r ih => simp only [List.cons_append, vcells, ih, List.append_assoc]
theorem vcells_take (l : List ShT) : ∀ m, vcells (l.take m) = (vcells l).take (m * 9) := by
 induction l with
 | nil => intro m; simp [vcells]
 | cons x r ih =>
  intro m
  match m with
  | 0 => simp [vcells]
  | m + 1 =>
   rw [List.take_succ_cons, vcells, vcells, ih, show (m + 1) * 9 = x.cells.length + m * 9 from by rw [shc_len]; omega, List.take_length_add_append]
theorem vcells_drop (l : List ShT) : ∀ m, vcells (l.drop m) = (vcells l).drop (m * 9) := by
 induction l with
 | nil => intro m; simp [vcells]
 | cons x r ih =>
  intro m
  match m with
  | 0 => simp
  | m + 1 =>
   rw [List.drop_succ_cons, vcells, ih, show (m + 1) * 9 = x.cells.length + m * 9 from by rw [shc_len]; omega, List.drop_length_add_append]
theorem shc_one (x : ShT) : ∀ u ∈ x.cells, u.oneCell' = true := by
 intro u hu
 simp only [ShT.cells, List.mem_cons, List.not_mem_nil, or_false] at hu
 rcases hu with e | e | e | e | e | e | e | e | e <;> (subst e; rfl)
theorem vcells_one (l : List ShT) : ∀ u ∈ vcells l, u.oneCell' = true := by
 induction l with
 | nil => intro u hu; simp [vcells] at hu
 | cons x r ih =>
  intro u hu
  rcases List.mem_append.1 hu with e | e
  ·exact shc_one x u e
  ·exact ih u e
theorem vcells_at : ∀ (l : List ShT) (k j : Nat), k < l.length → j < 9 → (vcells l)[k * 9 + j]? = (sht l k).cells[j]?
 | [], k, j, h, _ => by simp at h
 | x :: r, 0, j, _, hj => by
  show (x.cells ++ vcells r)[0 * 9 + j]? = x.cells[j]?
  rw [Nat.zero_mul, Nat.zero_add, List.getElem?_append_left (by rw [shc_len]; exact hj)]
 | x :: r, k + 1, j, h, hj => by
  have ih := vcells_at r k j (by simpa using h) hj
  show (x.cells ++ vcells r)[(k + 1) * 9 + j]? = _
  rw [List.getElem?_append_right (by rw [shc_len]; omega), shc_len, show (k + 1) * 9 + j - 9 = k * 9 + j from by omega, ih]
  simp [sht]
theorem sht_get {l : List ShT} {k : Nat} (h : k < l.length) : sht l k = l[k] := by simp [sht, List.getD, List.getElem?_eq_getElem h]
theorem sht_mem {l : List ShT} {k : Nat} (h : k < l.length) : sht l k ∈ l := by rw [sht_get h]; exact List.getElem_mem h
def Cells9 (w : World) (b o : Nat) (x : ShT) : Prop :=
 w.cell? ⟨b, o, none⟩ = some (.slice x.a0 x.s.se.length x.c0) ∧ w.cell? ⟨b, o + 1, none⟩ = some (.slice x.a1 x.s.ra.length x.c1) ∧ w.cell? ⟨b, o + 2, none⟩ = some (.slice x.a2 x.s.fi.length x.c2) ∧ w.cell? ⟨b, o + 3, none⟩ = some (.slice x.a3 x.s.co.length x.c3) ∧
 w.cell? ⟨b, o + 4, none⟩ = some (.int .i64 x.s.rf) ∧ w.cell? ⟨b, o + 5, none⟩ = some (.int .i64 x.s.ff) ∧ w.cell? ⟨b, o + 6, none⟩ = some (.int .i64 x.s.ft) ∧ w.cell? ⟨b, o + 7, none⟩ = some (.int .i64 x.s.cf) ∧ w.cell? ⟨b, o + 8, none⟩ = some (.int .i64 x.s.ct)
theorem Cells9.below {w w' : World} {B b o : Nat} {x : ShT} (h : Cells9 w b o x) (hb : Below B w w') (hl : b < B) : Cells9 w' b o x := by
 obtain ⟨h0, h1, h2, h3, h4, h5, h6, h7, h8⟩ := h
 exact ⟨(hb.cell (p := ⟨b, _, none⟩) hl).trans h0, (hb.cell (p := ⟨b, _, none⟩) hl).trans h1, (hb.cell (p := ⟨b, _, none⟩) hl).trans h2, (hb.cell (p := ⟨b, _, none⟩) hl).trans h3, (hb.cell (p := ⟨b, _, none⟩) hl).trans h4, (hb.cell (p := ⟨b, _, none⟩) hl).trans h5, (hb.cell (p := ⟨b, _, none⟩) hl).trans h6, (hb.cell (p := ⟨b, _, none⟩) hl).trans h7, (hb.cell (p := ⟨b, _, none⟩) hl).trans h8⟩
theorem seg_shelf {w : World} {ao : Option Addr} {l : List ShT} {k : Nat} (h : Seg w ao (vcells l)) (hk : k < l.length) :
  ∃ b off, ao = some ⟨b, off, none⟩ ∧ b < w.heap.size ∧ ∀ j, j < l.length → Cells9 w b (off + j * 9) (sht l j) := by
 have hs := vcells_length l
 rcases h with h | ⟨b, off, rfl, h⟩
 ·rw [h] at hs; simp at hs; omega
 ·have hc : ∀ j, j < l.length → Cells9 w b (off + j * 9) (sht l j) := fun j hj => by
   have g : ∀ i, i < 9 → w.cell? ⟨b, off + j * 9 + i, none⟩ = (sht l j).cells[i]? := fun i hi => by
    rw [← vcells_at l j i hj hi, Nat.add_assoc]; exact h (j * 9 + i) (by omega)
   exact ⟨g 0 (by omega), g 1 (by omega), g 2 (by omega), g 3 (by omega), g 4 (by omega), g 5 (by omega), g 6 (by omega), g 7 (by omega), g 8 (by omega)⟩
  exact ⟨b, off, rfl, World.block_lt_of_cell? w ⟨b, off + k * 9, none⟩ (hc k hk).1, hc⟩
theorem vcells_set : ∀ (l : List ShT) (p : Nat) (y : ShT), p < l.length →
  (((((((((vcells l).set (p * 9) (.slice y.a0 y.s.se.length y.c0)).set (p * 9 + 1) (.slice y.a1 y.s.ra.length y.c1)).set (p * 9 + 2) (.slice y.a2 y.s.fi.length y.c2)).set (p * 9 + 3) (.slice y.a3 y.s.co.length y.c3)).set (p * 9 + 4) (.int .i64 y.s.rf)).set (p * 9 + 5) (.int .i64 y.s.ff)).set (p * 9 + 6) (.int .i64 y.s.ft)).set (p * 9 + 7) (.int .i64 y.s.cf)).set (p * 9 + 8) (.int .i64 y.s.ct) = vcells (l.set p y)
 | [], _, _, h => by simp at h
 | x :: r, 0, y, _ => by simp [vcells, ShT.cells]
 | x :: r, p + 1, y, h => by
  have ih := vcells_set r p y (by simpa using h)
  have e : ∀ i, (p + 1) * 9 + i = x.cells.length + (p * 9 + i) := fun i => by rw [shc_len]; omega
  have e0 : (p + 1) * 9 = x.cells.length + p * 9 := by rw [shc_len]; omega
  have sa : ∀ (L : List Value) (n : Nat) (v : Value), (x.cells ++ L).set (x.cells.length + n) v = x.cells ++ L.set n v := fun L n v => by
   rw [List.set_append, if_neg (by omega), Nat.add_sub_cancel_left]
  rw [List.set_cons_succ, vcells, vcells, ← ih, e 1, e 2, e 3, e 4, e 5, e 6, e 7, e 8, e0, sa, sa, sa, sa, sa, sa, sa, sa, sa]
theorem own_lower {w : World} {base base' e size n : Nat} {v : Value} {xs : List Value} (h : w.ownsRow base e size v n xs) (hl : base' ≤ base) : w.ownsRow base' e size v n xs :=
 ⟨h.1, h.2.imp id (fun ⟨g, cap, cur, hv, hb, rest⟩ => ⟨g, cap, cur, hv, Nat.le_trans hl hb, rest⟩)⟩
end Go.GrainU
namespace Go.Proofs.YtoldmigappbjcaaGreatDoor
open Go.RowKit Go.GrainU
theorem so_thaw {w : World} {B : Nat} {x : ShT} (h : w.heap[B]? = some (so x)) :
  w.frozen? ⟨B, 0, none⟩ = false ∧ w.frozen? ⟨B, 1, none⟩ = false ∧ w.frozen? ⟨B, 2, none⟩ = false ∧ w.frozen? ⟨B, 3, none⟩ = false ∧ w.frozen? ⟨B, 4, none⟩ = false ∧ w.frozen? ⟨B, 5, none⟩ = false ∧ w.frozen? ⟨B, 6, none⟩ = false ∧ w.frozen? ⟨B, 7, none⟩ = false ∧ w.frozen? ⟨B, 8, none⟩ = false := by
 unfold so at h
 simp [World.frozen?, h]
def Other (t : TypeId) : Prop := t ≠ 59 ∧ t ≠ 88 ∧ t ≠ 34 ∧ t ≠ 145
theorem ShO.keep {lo : Nat} {w w' : World} {x : ShT} {r : Option Nat} (h : ShO lo w x) (hg : w.grownBy w' r) (hr : ∀ k, r = some k → ∃ (c : Array Value) (t : TypeId) (fr : Nat × Nat), w.heap[k]? = some (.cells c t fr) ∧ t ≠ 88 ∧ t ≠ 34 ∧ t ≠ 145) : ShO lo w' x :=
 ⟨own_keep h.o0 hg (fun k hk e => by obtain ⟨c, t, fr, hh, h1, h2, h3⟩ := hr k e; exact own_far h.o0 hh h1 hk), own_keep h.o1 hg (fun k hk e => by obtain ⟨c, t, fr, hh, h1, h2, h3⟩ := hr k e; exact own_far h.o1 hh h2 hk), own_keep h.o2 hg (fun k hk e => by obtain ⟨c, t, fr, hh, h1, h2, h3⟩ := hr k e; exact own_far h.o2 hh h3 hk), own_keep h.o3 hg (fun k hk e => by obtain ⟨c, t, fr, hh, h1, h2, h3⟩ := hr k e; exact own_far h.o3 hh h3 hk), h.ne, h.fits, h.n0, h.n1, h.n2, h.n3⟩
theorem ShO.lower {lo lo' : Nat} {w : World} {x : ShT} (h : ShO lo w x) (hl : lo' ≤ lo) : ShO lo' w x :=
 ⟨own_lower h.o0 hl, own_lower h.o1 hl, own_lower h.o2 hl, own_lower h.o3 hl, h.ne, h.fits, h.n0, h.n1, h.n2, h.n3⟩
structure RowS (w : World) (lo : Nat) (v : Value) (n : Nat) (l : List ShT) : Prop where
 own : w.ownsRow lo 59 9 v n (vcells l)
 shs : ∀ x ∈ l, ShO lo w x
theorem RowS.len {w : World} {lo n : Nat} {v : Value} {l : List ShT} (h : RowS w lo v n l) : n = l.length := by
 have := h.own.1; rw [vcells_length] at this; omega
theorem RowS.below {w w' : World} {lo n : Nat} {v : Value} {l : List ShT} (h : RowS w lo v n l) (hb : Below w.heap.size w w') : RowS w' lo v n l :=
 ⟨own_below h.own hb, fun x hx => (h.shs x hx).below hb⟩
theorem RowS.keep {w w' : World} {lo n k : Nat} {v : Value} {l : List ShT} {c : Array Value} {t : TypeId} {fr : Nat × Nat} (h : RowS w lo v n l) (hk : w.heap[k]? = some (.cells c t fr)) (ht : Other t) (hg : w.grownBy w' (some k)) : RowS w' lo v n l :=
 ⟨own_keep h.own hg (fun k' hk' e => by injection e with e; subst e; exact own_far h.own hk ht.1 hk'), fun x hx => (h.shs x hx).keep hg (fun k' e => by injection e with e; subst e; exact ⟨c, t, fr, hk, ht.2⟩)⟩
theorem RowS.nil (w : World) (lo : Nat) : RowS w lo (.slice none 0 0) 0 [] := ⟨World.ownsRow_nil _ _ _ _, fun x hx => by cases hx⟩
theorem RowS.seg {w : World} {lo n cap : Nat} {ao : Option Addr} {l : List ShT} (h : RowS w lo (.slice ao n cap) n l) : Seg w ao (vcells l) := own_seg' h.own
theorem grown_set {w : World} {g o : Nat} {u : Value} : w.grownBy (w.setCell ⟨g, o, none⟩ u) (some g) := ⟨rfl, rfl, rfl, by simp, fun k hk hne => setCell_far (fun e => hne (by rw [e]))⟩
def Put9 (w : World) (g o : Nat) (y : ShT) : World :=
 ((((((((w.setCell ⟨g, o, none⟩ (.slice y.a0 y.s.se.length y.c0)).setCell ⟨g, o + 1, none⟩ (.slice y.a1 y.s.ra.length y.c1)).setCell ⟨g, o + 2, none⟩ (.slice y.a2 y.s.fi.length y.c2)).setCell ⟨g, o + 3, none⟩ (.slice y.a3 y.s.co.length y.c3)).setCell ⟨g, o + 4, none⟩ (.int .i64 y.s.rf)).setCell ⟨g, o + 5, none⟩ (.int .i64 y.s.ff)).setCell ⟨g, o + 6, none⟩ (.int .i64 y.s.ft)).setCell ⟨g, o + 7, none⟩ (.int .i64 y.s.cf)).setCell ⟨g, o + 8, none⟩ (.int .i64 y.s.ct)
theorem put9_grown (w : World) (g o : Nat) (y : ShT) : w.grownBy (Put9 w g o y) (some g) := by
 unfold Put9
 have tr : ∀ {a b : World} {i : Nat} {u : Value}, a.grownBy b (some g) → a.grownBy (b.setCell ⟨g, i, none⟩ u) (some g) := fun h => grown_trans h grown_set (fun k hk => .inl hk)
 exact tr (tr (tr (tr (tr (tr (tr (tr (tr ⟨rfl, rfl, rfl, Nat.le_refl _, fun _ _ _ => rfl⟩))))))))
theorem RowS.put {w : World} {lo n cap g p : Nat} {l : List ShT} {y : ShT} (h : RowS w lo (.slice (some ⟨g, 0, none⟩) n cap) n l) (hp : p < l.length) (hy : ShO lo w y) : RowS (Put9 w g (p * 9) y) lo (.slice (some ⟨g, 0, none⟩) n cap) n (l.set p y) := by
 have hl := vcells_length l
 have hg := put9_grown w g (p * 9) y
 have hT : ∃ cur, w.heap[g]? = some (.cells cur 59 (0, 0)) := by
  rcases h.own.2 with ⟨h2, _⟩ | ⟨g', c, cur, hv, _, hh, _⟩
  ·cases h2
  ·injection hv with e1 _ _
   injection e1 with e1
   injection e1 with e1 _ _
   subst e1
   exact ⟨cur, hh⟩
 obtain ⟨cur, hh⟩ := hT
 have hr : ∀ k, some g = some k → ∃ (c : Array Value) (t : TypeId) (fr : Nat × Nat), w.heap[k]? = some (.cells c t fr) ∧ t ≠ 88 ∧ t ≠ 34 ∧ t ≠ 145 := fun k e => by
  injection e with e; subst e; exact ⟨cur, _, _, hh, by decide, by decide, by decide⟩
 refine ⟨?_, fun x hx => ?_⟩
 ·rw [← vcells_set l p y hp]
  unfold Put9
  have o0 := h.own
  have o1 := cell_set o0 (p * 9) (.slice y.a0 y.s.se.length y.c0) (by omega)
  have o2 := cell_set o1 (p * 9 + 1) (.slice y.a1 y.s.ra.length y.c1) (by simp; omega)
  have o3 := cell_set o2 (p * 9 + 2) (.slice y.a2 y.s.fi.length y.c2) (by simp; omega)
  have o4 := cell_set o3 (p * 9 + 3) (.slice y.a3 y.s.co.length y.c3) (by simp; omega)
  have o5 := cell_set o4 (p * 9 + 4) (.int .i64 y.s.rf) (by simp; omega)
  have o6 := cell_set o5 (p * 9 + 5) (.int .i64 y.s.ff) (by simp; omega)
  have o7 := cell_set o6 (p * 9 + 6) (.int .i64 y.s.ft) (by simp; omega)
  have o8 := cell_set o7 (p * 9 + 7) (.int .i64 y.s.cf) (by simp; omega)
  exact cell_set o8 (p * 9 + 8) (.int .i64 y.s.ct) (by simp; omega)
 ·rcases List.mem_or_eq_of_mem_set hx with e | e
  ·exact (h.shs x e).keep hg hr
  ·rw [e]; exact hy.keep hg hr
structure BIn (w : World) (lo B : Nat) (ao : Option Addr) (n cap : Nat) (hz : Int) (l : List ShT) : Prop where
 b : w.heap[B]? = some (.cells #[.slice ao n cap, .int .i64 hz] 91 (0, 0))
 row : RowS w lo (.slice ao n cap) n l
 loB : lo ≤ B
theorem BIn.below {w w' : World} {lo B n cap : Nat} {ao : Option Addr} {hz : Int} {l : List ShT} (h : BIn w lo B ao n cap hz l) (hb : Below w.heap.size w w') : BIn w' lo B ao n cap hz l :=
 ⟨below_block hb h.b, h.row.below hb, h.loB⟩
structure Fr (lo : Nat) (w w' : World) : Prop where
 os : w'.os = w.os
 tape : w'.tape = w.tape
 output : w'.output = w.output
 size : w.heap.size ≤ w'.heap.size
 low : ∀ k, k < lo → w'.heap[k]? = w.heap[k]?
 typ : ∀ (k : Nat) (c : Array Value) (t : TypeId) (fr : Nat × Nat), w.heap[k]? = some (.cells c t fr) → t ≠ 59 → t ≠ 91 → w'.heap[k]? = w.heap[k]?
theorem Fr.of {lo : Nat} {w w' : World} (h : Below w.heap.size w w') (hl : lo ≤ w.heap.size) : Fr lo w w' :=
 ⟨h.os, h.tape, h.output, h.size, fun k hk => h.block k (by omega), fun k c t fr hk _ _ => h.block k (lt_of_block hk)⟩
theorem Fr.trans {lo : Nat} {a b c : World} (h : Fr lo a b) (k : Fr lo b c) : Fr lo a c :=
 ⟨k.os.trans h.os, k.tape.trans h.tape, k.output.trans h.output, Nat.le_trans h.size k.size, fun i hi => (k.low i hi).trans (h.low i hi), fun i c t fr hi h1 h2 => by
  have e := h.typ i c t fr hi h1 h2
  exact (k.typ i c t fr (e.trans hi) h1 h2).trans e⟩
theorem Fr.grown {lo g : Nat} {w w' : World} {c : Array Value} {t : TypeId} {fr : Nat × Nat} (hg : w.grownBy w' (some g)) (hl : lo ≤ g) (hlo : lo ≤ w.heap.size) (hh : w.heap[g]? = some (.cells c t fr)) (ht : t = 59 ∨ t = 91) : Fr lo w w' :=
 ⟨hg.os, hg.tape, hg.output, hg.size, fun k hk => hg.block k (by omega) (fun e => by injection e with e; omega), fun k c' t' fr' hk h1 h2 => hg.block k (lt_of_block hk) (fun e => by
  injection e with e
  subst e
  rw [hh] at hk
  injection hk with hk
  injection hk with _ e2 _
  subst e2
  rcases ht with e | e
  ·exact h1 e
  ·exact h2 e)⟩
theorem Fr.grown0 {lo : Nat} {w w' : World} (hg : w.grownBy w' none) (hlo : lo ≤ w.heap.size) : Fr lo w w' :=
 ⟨hg.os, hg.tape, hg.output, hg.size, fun k hk => hg.block k (by omega) (fun e => by cases e), fun k c' t' fr' hk h1 h2 => hg.block k (lt_of_block hk) (fun e => by cases e)⟩
theorem Fr.below {lo : Nat} {w w' : World} (h : Fr lo w w') : Below lo w w' := ⟨h.os, h.tape, h.output, h.size, h.low⟩
end Go.Proofs.YtoldmigappbjcaaGreatDoor
