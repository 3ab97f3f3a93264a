import Derived.Deep.RegionHeld3
import Derived.Laws.Small
import Derived.Test.YtoldmigappbjcaaGreatDoorL01
import Derived.Test.YtoldmigappbjcaaGreatDoorL02
import Derived.Test.YtoldmigappbjcaaGreatDoorL14
import Derived.Test.YtoldmigappbjcaaGreatDoorL15
import Derived.Test.YtoldmigappbjcaaGreatDoorL16
import Derived.Test.YtoldmigappbjcaaGreatDoorRows
namespace Go.Proofs.YtoldmigappbjcaaGreatDoor
open Go.RowKit Go.GrainU
def sv (s : Grain.Sm) : Value := .agg #[.int .i64 s.c, .int .i64 s.t, .int .i64 s.mn, .int .i64 s.mx, .int .i64 s.f, .int .i64 s.l, .int .i64 s.r]
set_option maxHeartbeats 400000 in
theorem rise_any (a b : Int) (w : World) :
  Calls Tryz.prog 91 #[.int .i64 a, .int .i64 b] w fun e w' => e = .returned (.int .i64 (Grain.rise a b)) ∧ w' = w := by
 by_cases hn : b < a
 ·have hf : Grain.rise a b = b := by simp [Grain.rise, hn]
  rw [hf]; clear hf
  go_enter Tryz.func91, Tryz.ntmps91
  go_wp2
  go_ret
  exact ⟨rfl, rfl⟩
 ·have hf : Grain.rise a b = IntKind.i64.wrap (b - a) := by simp [Grain.rise, hn, Grain.wr]
  rw [hf]; clear hf
  go_enter Tryz.func91, Tryz.ntmps91
  go_wp2
  go_ret
  exact ⟨ret_int (by simp [IntWalk.i64_left]), rfl⟩
set_option maxHeartbeats 400000 in
theorem one_any (v : Int) (w : World) :
  Calls Tryz.prog 56 #[.int .i64 v] w fun e w' => e = .returned (sv (Grain.one v)) ∧ Below w.heap.size w w' := by
 go_enter Tryz.func56, Tryz.ntmps56
 go_wp2
 exact bodyPost_ret (v := sv (Grain.one v)) (by simp [results, Tryz.results56, go_sem, sv, Grain.one]) rfl ⟨rfl, by go_grown⟩
theorem seven_cells {w : World} {B : Nat} {x0 x1 x2 x3 x4 x5 x6 : Value} {t : TypeId} (h : w.heap[B]? = some (.cells #[x0, x1, x2, x3, x4, x5, x6] t (0, 0))) :
  w.cell? ⟨B, 0, none⟩ = some x0 ∧ w.cell? ⟨B, 1, none⟩ = some x1 ∧ w.cell? ⟨B, 2, none⟩ = some x2 ∧ w.cell? ⟨B, 3, none⟩ = some x3 ∧ w.cell? ⟨B, 4, none⟩ = some x4 ∧ w.cell? ⟨B, 5, none⟩ = some x5 ∧ w.cell? ⟨B, 6, none⟩ = some x6 := by
 simp [World.cell?, h]
theorem seven_thaw {w : World} {B : Nat} {x0 x1 x2 x3 x4 x5 x6 : Value} {t : TypeId} (h : w.heap[B]? = some (.cells #[x0, x1, x2, x3, x4, x5, x6] t (0, 0))) :
  w.frozen? ⟨B, 0, none⟩ = false ∧ w.frozen? ⟨B, 1, none⟩ = false ∧ w.frozen? ⟨B, 2, none⟩ = false ∧ w.frozen? ⟨B, 3, none⟩ = false ∧ w.frozen? ⟨B, 4, none⟩ = false ∧ w.frozen? ⟨B, 5, none⟩ = false ∧ w.frozen? ⟨B, 6, none⟩ = false := by
 simp [World.frozen?, h]
theorem seven_done {w W : World} {C : Nat} {x0 x1 x2 x3 x4 x5 x6 : Value} {t : TypeId} (h : W.heap[C]? = some (.cells #[x0, x1, x2, x3, x4, x5, x6] t (0, 0))) (bel : Below w.heap.size w W) (hC : w.heap.size ≤ C) (v0 v1 v2 v3 v4 v5 v6 : Value) :
  ∃ W', W' = (((((((W.setCell ⟨C, 0, none⟩ v0).setCell ⟨C, 1, none⟩ v1).setCell ⟨C, 2, none⟩ v2).setCell ⟨C, 3, none⟩ v3).setCell ⟨C, 4, none⟩ v4).setCell ⟨C, 5, none⟩ v5).setCell ⟨C, 6, none⟩ v6).drew ∧
   W'.cell? ⟨C, 0, none⟩ = some v0 ∧ W'.cell? ⟨C, 1, none⟩ = some v1 ∧ W'.cell? ⟨C, 2, none⟩ = some v2 ∧ W'.cell? ⟨C, 3, none⟩ = some v3 ∧ W'.cell? ⟨C, 4, none⟩ = some v4 ∧ W'.cell? ⟨C, 5, none⟩ = some v5 ∧ W'.cell? ⟨C, 6, none⟩ = some v6 ∧ Below w.heap.size w W' := by
 have hb : ((((((((W.setCell ⟨C, 0, none⟩ v0).setCell ⟨C, 1, none⟩ v1).setCell ⟨C, 2, none⟩ v2).setCell ⟨C, 3, none⟩ v3).setCell ⟨C, 4, none⟩ v4).setCell ⟨C, 5, none⟩ v5).setCell ⟨C, 6, none⟩ v6).drew).heap[C]? = some (.cells #[v0, v1, v2, v3, v4, v5, v6] t (0, 0)) := by
  simp [World.setCell, World.drew, Array.getElem?_modify, h]
 obtain ⟨c0, c1, c2, c3, c4, c5, c6⟩ := seven_cells hb
 exact ⟨_, rfl, c0, c1, c2, c3, c4, c5, c6, below_drewN (((((((bel.setCell hC _).setCell hC _).setCell hC _).setCell hC _).setCell hC _).setCell hC _).setCell hC _) 1⟩
theorem three_new (w : World) (x y z : Obj) : ∃ W, W = ((w.alloc x).alloc y).alloc z ∧ W.heap[w.heap.size]? = some x ∧ W.heap[w.heap.size + 1]? = some y ∧ W.heap[w.heap.size + 1 + 1]? = some z ∧ Below w.heap.size w W := by
 refine ⟨_, rfl, ?_, ?_, ?_, ?_⟩
 ·rw [Below.heap_alloc _ _ _ (by simp; omega), Below.heap_alloc _ _ _ (by simp)]; exact heap_alloc_new w x
 ·rw [Below.heap_alloc _ _ _ (by simp)]; simpa using heap_alloc_new (w.alloc x) y
 ·simpa using heap_alloc_new ((w.alloc x).alloc y) z
 ·exact (((Below.refl _ _).alloc (Nat.le_refl _) _).alloc (by simp) _).alloc (by simp; omega) _
set_option maxHeartbeats 4000000 in
theorem join_any (a b : Grain.Sm) (w : World) :
  Calls Tryz.prog 55 #[sv a, sv b] w fun e w' => e = .returned (sv (Grain.join a b)) ∧ Below w.heap.size w w' := by
 by_cases ha : a.c = 0
 ·rw [Grain.join_zero_left a b ha]
  obtain ⟨ac, at', amn, amx, af, al, ar⟩ := a
  obtain ⟨bc, bt, bmn, bmx, bf, bl, br⟩ := b
  simp only [sv] at ha ⊢
  subst ha
  go_enter Tryz.func55, Tryz.ntmps55
  go_wp2
  exact bodyPost_ret (v := sv ⟨bc, bt, bmn, bmx, bf, bl, br⟩) (by simp [results, Tryz.results55, go_sem, sv]) rfl ⟨rfl, by go_grown⟩
 ·by_cases hb : b.c = 0
  ·rw [Grain.join_zero_right a b ha hb]
   obtain ⟨ac, at', amn, amx, af, al, ar⟩ := a
   obtain ⟨bc, bt, bmn, bmx, bf, bl, br⟩ := b
   simp only [sv] at ha hb ⊢
   subst hb
   have ha' : (ac == 0) = false := by simpa using ha
   go_enter Tryz.func55, Tryz.ntmps55
   go_wp2
   exact bodyPost_ret (v := sv ⟨ac, at', amn, amx, af, al, ar⟩) (by simp [results, Tryz.results55, go_sem, sv]) rfl ⟨rfl, by go_grown⟩
  ·rw [Grain.join_full a b ha hb]
   obtain ⟨ac, at', amn, amx, af, al, ar⟩ := a
   obtain ⟨bc, bt, bmn, bmx, bf, bl, br⟩ := b
   simp only [sv] at ha hb ⊢
   have ha' : (ac == 0) = false := by simpa using ha
   have hb' : (bc == 0) = false := by simpa using hb
   generalize hM : (if bmn < amn then bmn else amn) = M
   have hX' : (if bmx > amx then bmx else amx) = (if amx < bmx then bmx else amx) := rfl
   rw [hX']
   clear hX'
   generalize hX : (if amx < bmx then bmx else amx) = X
   go_enter Tryz.func55, Tryz.ntmps55
   obtain ⟨W, hW, F0, F1, F2, bel⟩ := three_new w (.cells #[.int .i64 ac, .int .i64 at', .int .i64 amn, .int .i64 amx, .int .i64 af, .int .i64 al, .int .i64 ar] 76) (.cells #[.int .i64 bc, .int .i64 bt, .int .i64 bmn, .int .i64 bmx, .int .i64 bf, .int .i64 bl, .int .i64 br] 76) (.cells #[.int .i64 0, .int .i64 0, .int .i64 0, .int .i64 0, .int .i64 0, .int .i64 0, .int .i64 0] 76)
   have HW := hide hW
   clear hW
   go_wp2_with fail
   rw [← HW.out]
   obtain ⟨x0, x1, x2, x3, x4, x5, x6⟩ := seven_cells F0
   obtain ⟨y0, y1, y2, y3, y4, y5, y6⟩ := seven_cells F1
   obtain ⟨z0, z1, z2, z3, z4, z5, z6⟩ := seven_cells F2
   obtain ⟨f0, f1, f2, f3, f4, f5, f6⟩ := seven_thaw F2
   have n1 : ¬ (w.heap.size = w.heap.size + 1 + 1) := by omega
   have n2 : ¬ (w.heap.size + 1 + 1 = w.heap.size) := by omega
   have n3 : ¬ (w.heap.size + 1 = w.heap.size + 1 + 1) := by omega
   have n4 : ¬ (w.heap.size + 1 + 1 = w.heap.size + 1) := by omega
   go_region_held3 (fun w' => w'.cell? ⟨w.heap.size, 0, none⟩ = some (.int .i64 ac) ∧ w'.cell? ⟨w.heap.size, 1, none⟩ = some (.int .i64 at') ∧ w'.cell? ⟨w.heap.size, 2, none⟩ = some (.int .i64 amn) ∧ w'.cell? ⟨w.heap.size, 3, none⟩ = some (.int .i64 amx) ∧ w'.cell? ⟨w.heap.size, 4, none⟩ = some (.int .i64 af) ∧ w'.cell? ⟨w.heap.size, 5, none⟩ = some (.int .i64 al) ∧ w'.cell? ⟨w.heap.size, 6, none⟩ = some (.int .i64 ar) ∧
     w'.cell? ⟨w.heap.size + 1, 0, none⟩ = some (.int .i64 bc) ∧ w'.cell? ⟨w.heap.size + 1, 1, none⟩ = some (.int .i64 bt) ∧ w'.cell? ⟨w.heap.size + 1, 2, none⟩ = some (.int .i64 bmn) ∧ w'.cell? ⟨w.heap.size + 1, 3, none⟩ = some (.int .i64 bmx) ∧ w'.cell? ⟨w.heap.size + 1, 4, none⟩ = some (.int .i64 bf) ∧ w'.cell? ⟨w.heap.size + 1, 5, none⟩ = some (.int .i64 bl) ∧ w'.cell? ⟨w.heap.size + 1, 6, none⟩ = some (.int .i64 br)) (go_keep)
    (first
     | (go_at_call 91; refine (rise_any _ _ _).mono ?_; rintro e w' ⟨rfl, rfl⟩))
   all_goals
    obtain ⟨W', hW', c0, c1, c2, c3, c4, c5, c6, bel'⟩ := seven_done F2 bel (by omega) (.int .i64 (IntKind.i64.wrap (ac + bc))) (.int .i64 (IntKind.i64.wrap (at' + bt))) (.int .i64 M) (.int .i64 X) (.int .i64 af) (.int .i64 bl) (.int .i64 (IntKind.i64.wrap (IntKind.i64.wrap (ar + Grain.rise al bf) + br)))
    rw [← hW']
    clear hW' F0 F1 F2 x0 x1 x2 x3 x4 x5 x6 y0 y1 y2 y3 y4 y5 y6 z0 z1 z2 z3 z4 z5 z6 f0 f1 f2 f3 f4 f5 f6 n1 n2 n3 n4 HW
    go_wp2
    exact bodyPost_ret (v := .agg #[.int .i64 (Grain.wr (ac + bc)), .int .i64 (Grain.wr (at' + bt)), .int .i64 M, .int .i64 X, .int .i64 af, .int .i64 bl, .int .i64 (Grain.wr (Grain.wr (ar + Grain.rise al bf) + br))]) (by simp [results, Tryz.results55, go_sem, Grain.wr, c0, c1, c2, c3, c4, c5, c6]) rfl ⟨rfl, bel'⟩
end Go.Proofs.YtoldmigappbjcaaGreatDoor
namespace Go.GrainU
open Go.RowKit
def kc (b : Grain.Bk) : List Value := [.int .i64 b.a, .int .i64 b.s.c, .int .i64 b.s.t, .int .i64 b.s.mn, .int .i64 b.s.mx, .int .i64 b.s.f, .int .i64 b.s.l, .int .i64 b.s.r]
def kcells : List Grain.Bk → List Value
 | [] => []
 | b :: r => kc b ++ kcells r
theorem kcells_length (l : List Grain.Bk) : (kcells l).length = l.length * 8 := by
 induction l with
 | nil => rfl
 | cons b r ih => simp only [kcells, List.length_append, List.length_cons, ih, kc, List.length_nil]; omega
theorem kcells_append (a b : List Grain.Bk) : kcells (a ++ b) = kcells a ++ kcells b := by
 induction a with
 | nil => rfl
 | cons x r ih => simp only [List.cons_append, kcells, ih, List.append_assoc]
theorem kcells_snoc (a : List Grain.Bk) (b : Grain.Bk) : kcells (a ++ [b]) = kcells a ++ kc b := by rw [kcells_append]; simp [kcells]
theorem kcells_at (l : List Grain.Bk) : ∀ k i, k < l.length → i < 8 → (kcells l)[k * 8 + i]? = (kc (Grain.bk l k))[i]? := by
 induction l with
 | nil => intro k i hk; simp at hk
 | cons b r ih =>
  intro k i hk hi
  have hl : (kc b).length = 8 := rfl
  match k with
  | 0 =>
   rw [kcells, List.getElem?_append_left (by omega)]
   simp [Grain.bk]
  | k + 1 =>
   rw [kcells, List.getElem?_append_right (by omega), hl, show (k + 1) * 8 + i - 8 = k * 8 + i from by omega, ih k i (by simpa using hk) hi]
   simp [Grain.bk]
theorem kcells_one (l : List Grain.Bk) : ∀ u ∈ kcells l, u.oneCell' = true := by
 induction l with
 | nil => intro u hu; simp [kcells] at hu
 | cons b r ih =>
  intro u hu
  simp only [kcells, List.mem_append] at hu
  rcases hu with e | e
  ·simp [kc] at e
   rcases e with rfl | rfl | rfl | rfl | rfl | rfl | rfl | rfl <;> rfl
  ·exact ih u e
def Cells8 (w : World) (b off : Nat) (k : Grain.Bk) : Prop :=
 w.cell? ⟨b, off, none⟩ = some (.int .i64 k.a) ∧ w.cell? ⟨b, off + 1, none⟩ = some (.int .i64 k.s.c) ∧ w.cell? ⟨b, off + 2, none⟩ = some (.int .i64 k.s.t) ∧ w.cell? ⟨b, off + 3, none⟩ = some (.int .i64 k.s.mn) ∧
 w.cell? ⟨b, off + 4, none⟩ = some (.int .i64 k.s.mx) ∧ w.cell? ⟨b, off + 5, none⟩ = some (.int .i64 k.s.f) ∧ w.cell? ⟨b, off + 6, none⟩ = some (.int .i64 k.s.l) ∧ w.cell? ⟨b, off + 7, none⟩ = some (.int .i64 k.s.r)
theorem seg_bucket {w : World} {ao : Option Addr} {l : List Grain.Bk} (h : Seg w ao (kcells l)) {k : Nat} (hk : k < l.length) :
  ∃ b off, ao = some ⟨b, off, none⟩ ∧ b < w.heap.size ∧ ∀ j, j < l.length → Cells8 w b (off + j * 8) (Grain.bk l j) := by
 have hs := kcells_length l
 rcases h with h | ⟨b, off, rfl, h⟩
 ·rw [h] at hs; simp at hs; omega
 ·have hc : ∀ j i, j < l.length → i < 8 → w.cell? ⟨b, off + j * 8 + i, none⟩ = (kc (Grain.bk l j))[i]? := fun j i hj hi => by
   rw [Nat.add_assoc, h (j * 8 + i) (by omega)]
   exact kcells_at l j i hj hi
  refine ⟨b, off, rfl, World.block_lt_of_cell? w ⟨b, off + k * 8 + 0, none⟩ (hc k 0 hk (by omega)), fun j hj => ?_⟩
  exact ⟨hc j 0 hj (by omega), hc j 1 hj (by omega), hc j 2 hj (by omega), hc j 3 hj (by omega), hc j 4 hj (by omega), hc j 5 hj (by omega), hc j 6 hj (by omega), hc j 7 hj (by omega)⟩
theorem Cells8.below {w w' : World} {B b off : Nat} {k : Grain.Bk} (h : Cells8 w b off k) (hb : Below B w w') (hl : b < B) : Cells8 w' b off k := by
 obtain ⟨h0, h1, h2, h3, h4, h5, h6, h7⟩ := h
 exact ⟨(hb.cell (p := ⟨b, off, none⟩) hl).trans h0, (hb.cell (p := ⟨b, off + 1, none⟩) hl).trans h1, (hb.cell (p := ⟨b, off + 2, none⟩) hl).trans h2, (hb.cell (p := ⟨b, off + 3, none⟩) hl).trans h3,
  (hb.cell (p := ⟨b, off + 4, none⟩) hl).trans h4, (hb.cell (p := ⟨b, off + 5, none⟩) hl).trans h5, (hb.cell (p := ⟨b, off + 6, none⟩) hl).trans h6, (hb.cell (p := ⟨b, off + 7, none⟩) hl).trans h7⟩
theorem own_klen {w : World} {base e N : Nat} {v : Value} {l : List Grain.Bk} (h : w.ownsRow base e 8 v N (kcells l)) : N = l.length := by
 have := h.1; rw [kcells_length] at this; omega
theorem own_set {w : World} {base e size g n cap : Nat} {xs : List Value} (h : w.ownsRow base e size (.slice (some ⟨g, 0, none⟩) n cap) n xs) (j : Nat) (u : Value) :
  (w.setCell ⟨g, j, none⟩ u).ownsRow base e size (.slice (some ⟨g, 0, none⟩) n cap) n (xs.set j u) := by
 rcases h with ⟨hl, ⟨h0, _⟩ | ⟨g', cap', cur, h0, hb, hg, h1, h2, h3, h4⟩⟩
 ·simp at h0
 ·simp at h0
  obtain ⟨rfl, rfl⟩ := h0
  refine ⟨by simpa using hl, .inr ⟨g, cap, cur.setIfInBounds j u, rfl, hb, ?_, h1, h2, by simpa using h3, ?_⟩⟩
  ·simp [World.setCell, Array.getElem?_modify, hg]
  ·rw [Array.toList_setIfInBounds, ← h4, List.take_set]
theorem kset (R : List Grain.Bk) (A : Int) (q J : Grain.Sm) : (((((((kcells (R ++ [⟨A, q⟩])).set (R.length * 8 + 1) (.int .i64 J.c)).set (R.length * 8 + 2) (.int .i64 J.t)).set (R.length * 8 + 3) (.int .i64 J.mn)).set (R.length * 8 + 4) (.int .i64 J.mx)).set (R.length * 8 + 5) (.int .i64 J.f)).set (R.length * 8 + 6) (.int .i64 J.l)).set (R.length * 8 + 7) (.int .i64 J.r) = kcells (R ++ [⟨A, J⟩]) := by
 have hl := kcells_length R
 rw [kcells_snoc, kcells_snoc]
 rw [List.set_append_right _ _ (by omega), List.set_append_right _ _ (by omega), List.set_append_right _ _ (by omega), List.set_append_right _ _ (by omega), List.set_append_right _ _ (by omega), List.set_append_right _ _ (by omega), List.set_append_right _ _ (by omega)]
 rw [hl]
 congr 1
 simp [kc]
def Set7 (w : World) (g o : Nat) (J : Grain.Sm) : World :=
 ((((((w.setCell ⟨g, o + 1, none⟩ (.int .i64 J.c)).setCell ⟨g, o + 2, none⟩ (.int .i64 J.t)).setCell ⟨g, o + 3, none⟩ (.int .i64 J.mn)).setCell ⟨g, o + 4, none⟩ (.int .i64 J.mx)).setCell ⟨g, o + 5, none⟩ (.int .i64 J.f)).setCell ⟨g, o + 6, none⟩ (.int .i64 J.l)).setCell ⟨g, o + 7, none⟩ (.int .i64 J.r)
theorem own_set7 {w : World} {base e g n cap m : Nat} {R : List Grain.Bk} {A : Int} {q : Grain.Sm} (h : w.ownsRow base e 8 (.slice (some ⟨g, 0, none⟩) n cap) n (kcells (R ++ [⟨A, q⟩]))) (hm : m = R.length) (J : Grain.Sm) :
  (Set7 w g (m * 8) J).ownsRow base e 8 (.slice (some ⟨g, 0, none⟩) n cap) n (kcells (R ++ [⟨A, J⟩])) := by
 subst hm
 rw [← kset R A q J]
 exact own_set (own_set (own_set (own_set (own_set (own_set (own_set h _ _) _ _) _ _) _ _) _ _) _ _) _ _
theorem grown_setCell {w w' : World} {g o : Nat} {u : Value} (h : w.grownBy w' (some g)) : w.grownBy (w'.setCell ⟨g, o, none⟩ u) (some g) :=
 ⟨h.os, h.tape, h.output, by simpa using h.size, fun k hk hne => by
  rw [setCell_far (by intro e; exact hne (by rw [e]))]; exact h.block k hk hne⟩
theorem grown_set7 {w w' : World} {g o : Nat} {J : Grain.Sm} (h : w.grownBy w' (some g)) : w.grownBy (Set7 w' g o J) (some g) :=
 grown_setCell (grown_setCell (grown_setCell (grown_setCell (grown_setCell (grown_setCell (grown_setCell h))))))
theorem grown_weak {w w' : World} {r : Option Nat} (h : w.grownBy w' none) : w.grownBy w' r := ⟨h.os, h.tape, h.output, h.size, fun k hk _ => h.block k hk (by simp)⟩
end Go.GrainU
namespace Go.Proofs.YtoldmigappbjcaaGreatDoor
theorem Tryz.infoBucket : (Tryz.prog.info? 145).map (fun i => (i.zero, i.size, i.bytes)) = some (some (.agg #[.int .i64 0, .int .i64 0, .int .i64 0, .int .i64 0, .int .i64 0, .int .i64 0, .int .i64 0, .int .i64 0]), 8, 64) := by kernel_rfl
end Go.Proofs.YtoldmigappbjcaaGreatDoor
namespace Go.GrainU
open Go.RowKit
structure ShT where
 s : Grain.Shf
 a0 : Option Addr
 c0 : Nat
 a1 : Option Addr
 c1 : Nat
 a2 : Option Addr
 c2 : Nat
 a3 : Option Addr
 c3 : Nat
def ShT.cells (x : ShT) : List Value :=
 [.slice x.a0 x.s.se.length x.c0, .slice x.a1 x.s.ra.length x.c1, .slice x.a2 x.s.fi.length x.c2, .slice x.a3 x.s.co.length x.c3, .int .i64 x.s.rf, .int .i64 x.s.ff, .int .i64 x.s.ft, .int .i64 x.s.cf, .int .i64 x.s.ct]
def ShT.v (x : ShT) : Value :=
 .agg #[.slice x.a0 x.s.se.length x.c0, .slice x.a1 x.s.ra.length x.c1, .slice x.a2 x.s.fi.length x.c2, .slice x.a3 x.s.co.length x.c3, .int .i64 x.s.rf, .int .i64 x.s.ff, .int .i64 x.s.ft, .int .i64 x.s.cf, .int .i64 x.s.ct]
structure ShIn (w : World) (x : ShT) : Prop where
 g0 : Seg w x.a0 (lcells x.s.se)
 g1 : Seg w x.a1 (scells x.s.ra)
 g2 : Seg w x.a2 (kcells x.s.fi)
 g3 : Seg w x.a3 (kcells x.s.co)
 fits : Fits x.s.se
 n0 : x.s.se.length * 32 ≤ 140737488355328
 n1 : x.s.ra.length * 16 ≤ 140737488355328
 n2 : x.s.fi.length * 64 ≤ 140737488355328
 n3 : x.s.co.length * 64 ≤ 140737488355328
 z0 : x.a0 = none → x.s.se.length = 0 ∧ x.c0 = 0
 z1 : x.a1 = none → x.s.ra.length = 0 ∧ x.c1 = 0
 z2 : x.a2 = none → x.s.fi.length = 0 ∧ x.c2 = 0
 z3 : x.a3 = none → x.s.co.length = 0 ∧ x.c3 = 0
theorem ShIn.below {w w' : World} {x : ShT} (h : ShIn w x) (hb : Below w.heap.size w w') : ShIn w' x :=
 ⟨h.g0.below hb, h.g1.below hb, h.g2.below hb, h.g3.below hb, h.fits, h.n0, h.n1, h.n2, h.n3, h.z0, h.z1, h.z2, h.z3⟩
end Go.GrainU
namespace Go.Proofs.YtoldmigappbjcaaGreatDoor
open Go.RowKit Go.GrainU
def stepOf (tier : Int) : Int := if tier = 1 then 10 else if tier = 2 then 60 else 0
set_option maxHeartbeats 400000 in
theorem step_any (tier : Int) (w : World) : Calls Tryz.prog 76 #[.int .i64 tier] w fun e w' => e = .returned (.int .i64 (stepOf tier)) ∧ w' = w := by
 by_cases h1 : tier = 1
 ·subst h1
  go_enter Tryz.func76, Tryz.ntmps76
  go_wp2
  go_ret
  exact ⟨ret_int (by simp [stepOf]), rfl⟩
 ·by_cases h2 : tier = 2
  ·subst h2
   go_enter Tryz.func76, Tryz.ntmps76
   go_wp2
   go_ret
   exact ⟨ret_int (by simp [stepOf]), rfl⟩
  ·have hs : stepOf tier = 0 := by simp [stepOf, h1, h2]
   rw [hs]
   have e1 : (tier == 1) = false := by simpa using h1
   have e2 : (tier == 2) = false := by simpa using h2
   clear h1 h2 hs
   go_enter Tryz.func76, Tryz.ntmps76
   go_wp2
   go_ret
   exact ⟨rfl, rfl⟩
set_option maxHeartbeats 400000 in
theorem begin_any (t st : Int) (w : World) (h0 : 0 ≤ t) (h1 : t ≤ 1000000) (hst : st = 10 ∨ st = 60) :
  Calls Tryz.prog 179 #[.int .i64 t, .int .i64 st] w fun e w' => e = .returned (.int .i64 (Grain.beg t st)) ∧ w' = w := by
 rcases hst with rfl | rfl
 all_goals
  go_enter Tryz.func179, Tryz.ntmps179
  go_wp2
  go_ret
  exact ⟨ret_int (by unfold Grain.beg; omega), rfl⟩
def PutPost (base : Nat) (v : Value) (w : World) (Y : List Grain.Bk) (e : Ending) (w' : World) : Prop :=
 ∃ g n' cap', e = .returned (.slice (some ⟨g, 0, none⟩) n' cap') ∧ w'.ownsRow base 145 8 (.slice (some ⟨g, 0, none⟩) n' cap') n' (kcells Y) ∧ w.grownBy w' v.ownBlock
set_option maxHeartbeats 1000000 in
theorem put_new (X : List Grain.Bk) (A : Int) (s : Grain.Sm) (base n cap : Nat) (ao : Option Addr) (w : World) (own : w.ownsRow base 145 8 (.slice ao n cap) n (kcells X)) (hb : base ≤ w.heap.size) (hn : n ≤ 1000000) (hoff : Grain.Off X A) :
  Calls Tryz.prog 178 #[.slice ao n cap, .int .i64 A, sv s] w (PutPost base (.slice ao n cap) w (X ++ [⟨A, s⟩])) := by
 obtain ⟨i0, hi, hz0, hz1, hz2⟩ := info_parts Tryz.infoBucket
 obtain ⟨sc, stt, smn, smx, sf, sl, sr⟩ := s
 have HO := hide hoff
 clear hoff
 simp only [sv]
 have fin : Hid (∀ (g cap' : Nat) (w1 : World), w1.ownsRow base 145 8 (.slice (some ⟨g, 0, none⟩) (n + 1) cap') (n + 1) (kcells X ++ kc ⟨A, ⟨sc, stt, smn, smx, sf, sl, sr⟩⟩) → ((w.alloc (.cells #[.int .i64 sc, .int .i64 stt, .int .i64 smn, .int .i64 smx, .int .i64 sf, .int .i64 sl, .int .i64 sr] 76)).alloc (.cells #[.int .i64 A, .int .i64 sc, .int .i64 stt, .int .i64 smn, .int .i64 smx, .int .i64 sf, .int .i64 sl, .int .i64 sr] 145)).grownBy w1 (Value.slice ao n cap).ownBlock →
   PutPost base (.slice ao n cap) w (X ++ [⟨A, ⟨sc, stt, smn, smx, sf, sl, sr⟩⟩]) (.returned (.slice (some ⟨g, 0, none⟩) (n + 1) cap')) w1) := by
  intro g cap' w1 h1 h2
  refine ⟨g, _, cap', rfl, by rw [kcells_snoc]; exact h1, ?_⟩
  refine grown_trans (grown_trans (World.grownBy_alloc w _ _) (World.grownBy_alloc _ _ none) (fun k h => by cases h)) h2 (fun k hk => .inl hk)
 have HL := hide (own_klen own)
 rcases Grain.snoc_or X with rfl | ⟨R, b, rfl⟩
 ·have hn0 : n = 0 := HL.out
  subst hn0
  have hg : decide ((0 : Int) < ((0 : Nat) : Int)) = false := by decide
  have hg' : decide ((0 : Int) < 0) = false := by decide
  clear HO HL
  go_enter Tryz.func178, Tryz.ntmps178
  go_wp2_with (at_builtin; refine wpList_append_lies _ rfl _ _ 57 rfl base 145 i0 (.agg #[.int .i64 0, .int .i64 0, .int .i64 0, .int .i64 0, .int .i64 0, .int .i64 0, .int .i64 0, .int .i64 0]) 8 64 Tryz.underlying57 hi hz0 hz1 hz2 rfl (by decide) _ _ _ rfl ((own.alloc _).alloc _) ⟨w.heap.size + 1, 0, none⟩ 1 1 (kc ⟨A, ⟨sc, stt, smn, smx, sf, sl, sr⟩⟩) rfl rfl (World.news_of_block (cs := #[.int .i64 A, .int .i64 sc, .int .i64 stt, .int .i64 smn, .int .i64 smx, .int .i64 sf, .int .i64 sl, .int .i64 sr]) (t := 145) (fr := (0, 0)) (by simpa using heap_alloc_new (w.alloc _) _)) (by simp [kc, Value.oneCell']) (by decide) (by unfold maxLen; omega) (by omega) (by simp; omega) (w.heap.size + 2) (by simp) ?_)
  intro g cap' w1 own1 gr1 hat1 hlt1
  have F := hide (fin.out g cap' w1 own1 gr1)
  clear fin own1 gr1 hat1 hlt1 own
  go_wp2
  go_ret
  exact F.out
 ·have hlen : n = R.length + 1 := by have := HL.out; simpa using this
  subst hlen
  obtain ⟨ao', c', hao, hseg, _⟩ := own_open own
  simp at hao
  obtain ⟨rfl, rfl⟩ := hao
  obtain ⟨bb, off, rfl, hbl, hc⟩ := seg_bucket hseg (k := R.length) (by simp)
  have hcell := (hc R.length (by simp)).1
  have eb : Grain.bk (R ++ [b]) R.length = b := by simp [Grain.bk]
  rw [eb] at hcell
  have ne : (b.a == A) = false := by simpa using HO.out R b rfl
  clear HO HL hc hseg eb
  go_enter Tryz.func178, Tryz.ntmps178
  go_wp2_with (at_builtin; refine wpList_append_lies _ rfl _ _ 57 rfl base 145 i0 (.agg #[.int .i64 0, .int .i64 0, .int .i64 0, .int .i64 0, .int .i64 0, .int .i64 0, .int .i64 0, .int .i64 0]) 8 64 Tryz.underlying57 hi hz0 hz1 hz2 rfl (by decide) _ _ _ rfl ((own.alloc _).alloc _) ⟨w.heap.size + 1, 0, none⟩ 1 1 (kc ⟨A, ⟨sc, stt, smn, smx, sf, sl, sr⟩⟩) rfl rfl (World.news_of_block (cs := #[.int .i64 A, .int .i64 sc, .int .i64 stt, .int .i64 smn, .int .i64 smx, .int .i64 sf, .int .i64 sl, .int .i64 sr]) (t := 145) (fr := (0, 0)) (by simpa using heap_alloc_new (w.alloc _) _)) (by simp [kc, Value.oneCell']) (by decide) (by unfold maxLen; omega) (by omega) (by simp; omega) (w.heap.size + 2) (by simp) ?_)
  intro g cap' w1 own1 gr1 hat1 hlt1
  have F := hide (fin.out g cap' w1 own1 gr1)
  clear fin own1 gr1 hat1 hlt1 own
  go_wp2
  go_ret
  exact F.out
open Go.RowKit Go.GrainU
theorem kjoin_let (a b : Grain.Sm) (w : World) :
  Calls Tryz.prog 55 #[sv a, sv b] w fun e w' => ∃ J : Grain.Sm, Hid (J = Grain.join a b) ∧ e = .returned (.agg #[.int .i64 J.c, .int .i64 J.t, .int .i64 J.mn, .int .i64 J.mx, .int .i64 J.f, .int .i64 J.l, .int .i64 J.r]) ∧ Below w.heap.size w w' :=
 (join_any a b w).mono fun _ _ h => ⟨_, rfl, h.1, h.2⟩
theorem own_thaw {w : World} {base e size g n cap : Nat} {xs : List Value} (h : w.ownsRow base e size (.slice (some ⟨g, 0, none⟩) n cap) n xs) (j : Nat) : w.frozen? ⟨g, j, none⟩ = false := by
 rcases h with ⟨hl, ⟨h0, _⟩ | ⟨g', cap', cur, h0, hb, hg, _⟩⟩
 ·simp at h0
 ·simp at h0
  obtain ⟨rfl, rfl⟩ := h0
  simp [World.frozen?, hg]
theorem own_last {w : World} {base e g n cap : Nat} {R : List Grain.Bk} {b : Grain.Bk} (h : w.ownsRow base e 8 (.slice (some ⟨g, 0, none⟩) n cap) n (kcells (R ++ [b]))) : Cells8 w g (R.length * 8) b := by
 obtain ⟨bb, off, e1, _, hc⟩ := seg_bucket (own_seg h) (k := R.length) (by simp)
 simp at e1
 obtain ⟨rfl, rfl⟩ := e1
 have := hc R.length (by simp)
 rw [Nat.zero_add] at this
 have eb : Grain.bk (R ++ [b]) R.length = b := by simp [Grain.bk]
 rw [eb] at this
 exact this
set_option maxHeartbeats 2000000 in
theorem put_old (R : List Grain.Bk) (A : Int) (q s : Grain.Sm) (base n g cap : Nat) (w : World) (own : w.ownsRow base 145 8 (.slice (some ⟨g, 0, none⟩) n cap) n (kcells (R ++ [⟨A, q⟩]))) (hn : n ≤ 1000000) :
  Calls Tryz.prog 178 #[.slice (some ⟨g, 0, none⟩) n cap, .int .i64 A, sv s] w (PutPost base (.slice (some ⟨g, 0, none⟩) n cap) w (R ++ [⟨A, Grain.join q s⟩])) := by
 have HL := own_klen own
 have hlen : n = R.length + 1 := by simpa using HL
 subst hlen
 clear HL
 have hgw := (own_block own).2
 have own1 := own.alloc (.cells #[.int .i64 s.c, .int .i64 s.t, .int .i64 s.mn, .int .i64 s.mx, .int .i64 s.f, .int .i64 s.l, .int .i64 s.r] 76)
 obtain ⟨W, hW⟩ : ∃ W, W = w.alloc (.cells #[.int .i64 s.c, .int .i64 s.t, .int .i64 s.mn, .int .i64 s.mx, .int .i64 s.f, .int .i64 s.l, .int .i64 s.r] 76) := ⟨_, rfl⟩
 have hsb : W.heap[w.heap.size]? = some (.cells #[.int .i64 s.c, .int .i64 s.t, .int .i64 s.mn, .int .i64 s.mx, .int .i64 s.f, .int .i64 s.l, .int .i64 s.r] 76 (0, 0)) := by rw [hW]; exact heap_alloc_new w _
 rw [← hW] at own1
 have gr1 : w.grownBy W (some g) := by rw [hW]; exact World.grownBy_alloc w _ _
 have HW := hide hW
 have hgs : W.heap.size = w.heap.size + 1 := by rw [hW]; simp
 clear hW
 obtain ⟨c0, c1, c2, c3, c4, c5, c6, c7⟩ := own_last own1
 obtain ⟨s0, s1, s2, s3, s4, s5, s6⟩ := seven_cells hsb
 simp only at c0 c1 c2 c3 c4 c5 c6 c7
 have l0 : w.cell? ⟨g, R.length * 8, none⟩ = some (.int .i64 A) := (own_last own).1
 simp only [sv]
 go_enter Tryz.func178, Tryz.ntmps178
 go_wp2_with fail
 rw [← HW.out]
 clear own l0 HW
 have hw1 : IntKind.i64.wrap ((R.length : Int) + 1 - 1) = (R.length : Int) := by rw [IntKind.wrap_i64]; omega
 have hw2 : IntKind.i64.wrap (R.length : Int) = (R.length : Int) := by rw [IntKind.wrap_i64]; omega
 go_region_with
  (first
   | (go_at_call 55; refine (kjoin_let q s _).mono ?_; rintro e w2 ⟨J, HJ, rfl, hb2⟩; have hb2' : Below W.heap.size W w2 := (below_drewN (Below.refl _ W) 1).trans hb2; have own2 := own_below own1 hb2'; obtain ⟨p0, p1, p2, p3, p4, p5, p6, p7⟩ := own_last own2; have t1 := own_thaw own2 (R.length * 8 + 1); have t2 := own_thaw own2 (R.length * 8 + 2); have t3 := own_thaw own2 (R.length * 8 + 3); have t4 := own_thaw own2 (R.length * 8 + 4); have t5 := own_thaw own2 (R.length * 8 + 5); have t6 := own_thaw own2 (R.length * 8 + 6); have t7 := own_thaw own2 (R.length * 8 + 7); simp only at p0 p1 p2 p3 p4 p5 p6 p7))
 all_goals
  have F : Hid (PutPost base (.slice (some ⟨g, 0, none⟩) (R.length + 1) cap) w (R ++ [⟨A, Grain.join q s⟩]) (.returned (.slice (some ⟨g, 0, none⟩) (R.length + 1) cap)) (Set7 w2 g (R.length * 8) J)) := by
   rw [← HJ.out]
   exact ⟨g, _, cap, rfl, own_set7 own2 rfl J, grown_set7 (grown_call gr1 hb2')⟩
  obtain ⟨W3, hW3⟩ : ∃ W3, W3 = Set7 w2 g (R.length * 8) J := ⟨_, rfl⟩
  rw [← hW3] at F
  rw [show ((((((((w2.setCell ⟨g, R.length * 8 + 1, none⟩ (.int .i64 J.c)).setCell ⟨g, R.length * 8 + 1 + 1, none⟩ (.int .i64 J.t)).setCell ⟨g, R.length * 8 + 1 + 2, none⟩ (.int .i64 J.mn)).setCell ⟨g, R.length * 8 + 1 + 3, none⟩ (.int .i64 J.mx)).setCell ⟨g, R.length * 8 + 1 + 4, none⟩ (.int .i64 J.f)).setCell ⟨g, R.length * 8 + 1 + 5, none⟩ (.int .i64 J.l)).setCell ⟨g, R.length * 8 + 1 + 6, none⟩ (.int .i64 J.r))) = W3 from hW3.symm]
  clear own1 own2 hb2 hb2' hW3 HJ gr1 hw1 hw2 hgs hsb hgw c0 c1 c2 c3 c4 c5 c6 c7 s0 s1 s2 s3 s4 s5 s6 p0 p1 p2 p3 p4 p5 p6 p7 t1 t2 t3 t4 t5 t6 t7
  go_wp2
  go_ret
  exact F.out
theorem put_any (X : List Grain.Bk) (A : Int) (s : Grain.Sm) (base n cap : Nat) (ao : Option Addr) (w : World) (own : w.ownsRow base 145 8 (.slice ao n cap) n (kcells X)) (hb : base ≤ w.heap.size) (hn : n ≤ 1000000) :
  Calls Tryz.prog 178 #[.slice ao n cap, .int .i64 A, sv s] w (PutPost base (.slice ao n cap) w (Grain.put X A s)) := by
 rcases Grain.put_cases X A with ho | ⟨R, q, rfl⟩
 ·rw [Grain.put_off ho]
  exact put_new X A s base n cap ao w own hb hn ho
 ·rw [Grain.put_same]
  rcases own.2 with ⟨h0, h1⟩ | ⟨g, cap', cur, h0, _⟩
  ·have := own_klen own
   simp at this
   omega
  ·simp at h0
   obtain ⟨rfl, rfl⟩ := h0
   exact put_old R A q s base n g cap w own hn
end Go.Proofs.YtoldmigappbjcaaGreatDoor
