/-
  Buckets as cells: read, written in place, put behind others.
-/
import Derived.Test.YtcgcefnfelmmkaaRows
import Derived.Test.YtcgcefnfelmmkaaUtilC
import Derived.Test.YtcgcefnfelmmkaaUtilD
import Derived.Test.YtcgcefnfelmmkaaJoin
import Derived.Test.YtcgcefnfelmmkaaRollM
namespace Go.GrainU
open Go.RowKit

/-- a bucket's cells -/
def kc (b : Grain.Bk) : List Value := [.int .i64 b.a, .int .i64 b.s.c, .int .i64 b.s.t, .int .i64 b.s.mn, .int .i64 b.s.mx, .int .i64 b.s.f, .int .i64 b.s.l, .int .i64 b.s.r]

/-- buckets' cells -/
def kcells : List Grain.Bk → List Value
  | [] => []
  | b :: r => kc b ++ kcells r

theorem kcells_length (l : List Grain.Bk) : (kcells l).length = l.length * 8 := by
  induction l with
  | nil => rfl
  | cons b r ih => simp only [kcells, List.length_append, List.length_cons, ih, kc, List.length_nil]; omega

theorem kcells_append (a b : List Grain.Bk) : kcells (a ++ b) = kcells a ++ kcells b := by
  induction a with
  | nil => rfl
  | cons x r ih => simp only [List.cons_append, kcells, ih, List.append_assoc]

theorem kcells_snoc (a : List Grain.Bk) (b : Grain.Bk) : kcells (a ++ [b]) = kcells a ++ kc b := by rw [kcells_append]; simp [kcells]

theorem kcells_at (l : List Grain.Bk) : ∀ k i, k < l.length → i < 8 → (kcells l)[k * 8 + i]? = (kc (Grain.bk l k))[i]? := by
  induction l with
  | nil => intro k i hk; simp at hk
  | cons b r ih =>
    intro k i hk hi
    have hl : (kc b).length = 8 := rfl
    match k with
    | 0 =>
      rw [kcells, List.getElem?_append_left (by omega)]
      simp [Grain.bk]
    | k + 1 =>
      rw [kcells, List.getElem?_append_right (by omega), hl, show (k + 1) * 8 + i - 8 = k * 8 + i from by omega, ih k i (by simpa using hk) hi]
      simp [Grain.bk]

theorem kcells_one (l : List Grain.Bk) : ∀ u ∈ kcells l, u.oneCell' = true := by
  induction l with
  | nil => intro u hu; simp [kcells] at hu
  | cons b r ih =>
    intro u hu
    simp only [kcells, List.mem_append] at hu
    rcases hu with e | e
    · simp [kc] at e
      rcases e with rfl | rfl | rfl | rfl | rfl | rfl | rfl | rfl <;> rfl
    · exact ih u e

/-- the eight cells of a bucket at an offset -/
def Cells8 (w : World) (b off : Nat) (k : Grain.Bk) : Prop :=
  w.cell? ⟨b, off, none⟩ = some (.int .i64 k.a) ∧ w.cell? ⟨b, off + 1, none⟩ = some (.int .i64 k.s.c) ∧ w.cell? ⟨b, off + 2, none⟩ = some (.int .i64 k.s.t) ∧ w.cell? ⟨b, off + 3, none⟩ = some (.int .i64 k.s.mn) ∧
  w.cell? ⟨b, off + 4, none⟩ = some (.int .i64 k.s.mx) ∧ w.cell? ⟨b, off + 5, none⟩ = some (.int .i64 k.s.f) ∧ w.cell? ⟨b, off + 6, none⟩ = some (.int .i64 k.s.l) ∧ w.cell? ⟨b, off + 7, none⟩ = some (.int .i64 k.s.r)

theorem seg_bucket {w : World} {ao : Option Addr} {l : List Grain.Bk} (h : Seg w ao (kcells l)) {k : Nat} (hk : k < l.length) :
    ∃ b off, ao = some ⟨b, off, none⟩ ∧ b < w.heap.size ∧ ∀ j, j < l.length → Cells8 w b (off + j * 8) (Grain.bk l j) := by
  have hs := kcells_length l
  rcases h with h | ⟨b, off, rfl, h⟩
  · rw [h] at hs; simp at hs; omega
  · have hc : ∀ j i, j < l.length → i < 8 → w.cell? ⟨b, off + j * 8 + i, none⟩ = (kc (Grain.bk l j))[i]? := fun j i hj hi => by
      rw [Nat.add_assoc, h (j * 8 + i) (by omega)]
      exact kcells_at l j i hj hi
    refine ⟨b, off, rfl, World.block_lt_of_cell? w ⟨b, off + k * 8 + 0, none⟩ (hc k 0 hk (by omega)), fun j hj => ?_⟩
    exact ⟨hc j 0 hj (by omega), hc j 1 hj (by omega), hc j 2 hj (by omega), hc j 3 hj (by omega), hc j 4 hj (by omega), hc j 5 hj (by omega), hc j 6 hj (by omega), hc j 7 hj (by omega)⟩

theorem Cells8.below {w w' : World} {B b off : Nat} {k : Grain.Bk} (h : Cells8 w b off k) (hb : Below B w w') (hl : b < B) : Cells8 w' b off k := by
  obtain ⟨h0, h1, h2, h3, h4, h5, h6, h7⟩ := h
  exact ⟨(hb.cell (p := ⟨b, off, none⟩) hl).trans h0, (hb.cell (p := ⟨b, off + 1, none⟩) hl).trans h1, (hb.cell (p := ⟨b, off + 2, none⟩) hl).trans h2, (hb.cell (p := ⟨b, off + 3, none⟩) hl).trans h3,
    (hb.cell (p := ⟨b, off + 4, none⟩) hl).trans h4, (hb.cell (p := ⟨b, off + 5, none⟩) hl).trans h5, (hb.cell (p := ⟨b, off + 6, none⟩) hl).trans h6, (hb.cell (p := ⟨b, off + 7, none⟩) hl).trans h7⟩

theorem own_klen {w : World} {base e N : Nat} {v : Value} {l : List Grain.Bk} (h : w.ownsRow base e 8 v N (kcells l)) : N = l.length := by
  have := h.1; rw [kcells_length] at this; omega

/-- one cell of an owned row, written -/
theorem own_set {w : World} {base e size g n cap : Nat} {xs : List Value} (h : w.ownsRow base e size (.slice (some ⟨g, 0, none⟩) n cap) n xs) (j : Nat) (u : Value) :
    (w.setCell ⟨g, j, none⟩ u).ownsRow base e size (.slice (some ⟨g, 0, none⟩) n cap) n (xs.set j u) := by
  rcases h with ⟨hl, ⟨h0, _⟩ | ⟨g', cap', cur, h0, hb, hg, h1, h2, h3, h4⟩⟩
  · simp at h0
  · simp at h0
    obtain ⟨rfl, rfl⟩ := h0
    refine ⟨by simpa using hl, .inr ⟨g, cap, cur.setIfInBounds j u, rfl, hb, ?_, h1, h2, by simpa using h3, ?_⟩⟩
    · simp [World.setCell, Array.getElem?_modify, hg]
    · rw [Array.toList_setIfInBounds, ← h4, List.take_set]

theorem kset (R : List Grain.Bk) (A : Int) (q J : Grain.Sm) : (((((((kcells (R ++ [⟨A, q⟩])).set (R.length * 8 + 1) (.int .i64 J.c)).set (R.length * 8 + 2) (.int .i64 J.t)).set (R.length * 8 + 3) (.int .i64 J.mn)).set (R.length * 8 + 4) (.int .i64 J.mx)).set (R.length * 8 + 5) (.int .i64 J.f)).set (R.length * 8 + 6) (.int .i64 J.l)).set (R.length * 8 + 7) (.int .i64 J.r) = kcells (R ++ [⟨A, J⟩]) := by
  have hl := kcells_length R
  rw [kcells_snoc, kcells_snoc]
  rw [List.set_append_right _ _ (by omega), List.set_append_right _ _ (by omega), List.set_append_right _ _ (by omega), List.set_append_right _ _ (by omega), List.set_append_right _ _ (by omega), List.set_append_right _ _ (by omega), List.set_append_right _ _ (by omega)]
  rw [hl]
  congr 1
  simp [kc]

/-- seven cells written: a block's world -/
def Set7 (w : World) (g o : Nat) (J : Grain.Sm) : World :=
  ((((((w.setCell ⟨g, o + 1, none⟩ (.int .i64 J.c)).setCell ⟨g, o + 2, none⟩ (.int .i64 J.t)).setCell ⟨g, o + 3, none⟩ (.int .i64 J.mn)).setCell ⟨g, o + 4, none⟩ (.int .i64 J.mx)).setCell ⟨g, o + 5, none⟩ (.int .i64 J.f)).setCell ⟨g, o + 6, none⟩ (.int .i64 J.l)).setCell ⟨g, o + 7, none⟩ (.int .i64 J.r)

theorem own_set7 {w : World} {base e g n cap m : Nat} {R : List Grain.Bk} {A : Int} {q : Grain.Sm} (h : w.ownsRow base e 8 (.slice (some ⟨g, 0, none⟩) n cap) n (kcells (R ++ [⟨A, q⟩]))) (hm : m = R.length) (J : Grain.Sm) :
    (Set7 w g (m * 8) J).ownsRow base e 8 (.slice (some ⟨g, 0, none⟩) n cap) n (kcells (R ++ [⟨A, J⟩])) := by
  subst hm
  rw [← kset R A q J]
  exact own_set (own_set (own_set (own_set (own_set (own_set (own_set h _ _) _ _) _ _) _ _) _ _) _ _) _ _

theorem grown_setCell {w w' : World} {g o : Nat} {u : Value} (h : w.grownBy w' (some g)) : w.grownBy (w'.setCell ⟨g, o, none⟩ u) (some g) :=
  ⟨h.os, h.tape, h.output, by simpa using h.size, fun k hk hne => by
    rw [setCell_far (by intro e; exact hne (by rw [e]))]; exact h.block k hk hne⟩

theorem grown_set7 {w w' : World} {g o : Nat} {J : Grain.Sm} (h : w.grownBy w' (some g)) : w.grownBy (Set7 w' g o J) (some g) :=
  grown_setCell (grown_setCell (grown_setCell (grown_setCell (grown_setCell (grown_setCell (grown_setCell h))))))

theorem grown_weak {w w' : World} {r : Option Nat} (h : w.grownBy w' none) : w.grownBy w' r := ⟨h.os, h.tape, h.output, h.size, fun k hk _ => h.block k hk (by simp)⟩

end Go.GrainU
namespace Go.Proofs.Ytcgcefnfelmmkaa
theorem Try.infoBucket : (Try.prog.info? 67).map (fun i => (i.zero, i.size, i.bytes)) = some (some (.agg #[.int .i64 0, .int .i64 0, .int .i64 0, .int .i64 0, .int .i64 0, .int .i64 0, .int .i64 0, .int .i64 0]), 8, 64) := by kernel_rfl
end Go.Proofs.Ytcgcefnfelmmkaa
