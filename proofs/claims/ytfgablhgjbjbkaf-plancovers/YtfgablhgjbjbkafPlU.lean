/-
  Parts as cells: read, written in place, put behind others.
-/
import Derived.Test.YtfgablhgjbjbkafRows
import Derived.Test.YtfgablhgjbjbkafUtilC
import Derived.Test.YtfgablhgjbjbkafUtilD
import Derived.Test.YtfgablhgjbjbkafPlM
namespace Go.GrainU
open Go.RowKit

/-- a part's cells -/
def ptc (p : Grain.Pt) : List Value := [.int .i64 p.k, .int .i64 p.f, .int .i64 p.t]

/-- parts' cells -/
def pcells : List Grain.Pt → List Value
  | [] => []
  | b :: r => ptc b ++ pcells r

theorem pcells_length (l : List Grain.Pt) : (pcells l).length = l.length * 3 := by
  induction l with
  | nil => rfl
  | cons b r ih => simp only [pcells, List.length_append, List.length_cons, ih, ptc, List.length_nil]; omega

theorem pcells_append (a b : List Grain.Pt) : pcells (a ++ b) = pcells a ++ pcells b := by
  induction a with
  | nil => rfl
  | cons x r ih => simp only [List.cons_append, pcells, ih, List.append_assoc]

theorem pcells_snoc (a : List Grain.Pt) (b : Grain.Pt) : pcells (a ++ [b]) = pcells a ++ ptc b := by rw [pcells_append]; simp [pcells]

theorem pcells_at (l : List Grain.Pt) : ∀ k i, k < l.length → i < 3 → (pcells l)[k * 3 + i]? = (ptc (Grain.pt l k))[i]? := by
  induction l with
  | nil => intro k i hk; simp at hk
  | cons b r ih =>
    intro k i hk hi
    have hl : (ptc b).length = 3 := rfl
    match k with
    | 0 =>
      rw [pcells, List.getElem?_append_left (by omega)]
      simp [Grain.pt]
    | k + 1 =>
      rw [pcells, List.getElem?_append_right (by omega), hl, show (k + 1) * 3 + i - 3 = k * 3 + i from by omega, ih k i (by simpa using hk) hi]
      simp [Grain.pt]

theorem pcells_one (l : List Grain.Pt) : ∀ u ∈ pcells l, u.oneCell' = true := by
  induction l with
  | nil => intro u hu; simp [pcells] at hu
  | cons b r ih =>
    intro u hu
    simp only [pcells, List.mem_append] at hu
    rcases hu with e | e
    · simp [ptc] at e
      rcases e with rfl | rfl | rfl <;> rfl
    · exact ih u e

/-- the three cells of a part at an offset -/
def Cells3 (w : World) (b off : Nat) (p : Grain.Pt) : Prop :=
  w.cell? ⟨b, off, none⟩ = some (.int .i64 p.k) ∧ w.cell? ⟨b, off + 1, none⟩ = some (.int .i64 p.f) ∧ w.cell? ⟨b, off + 2, none⟩ = some (.int .i64 p.t)

theorem seg_part {w : World} {ao : Option Addr} {l : List Grain.Pt} (h : Seg w ao (pcells l)) {k : Nat} (hk : k < l.length) :
    ∃ b off, ao = some ⟨b, off, none⟩ ∧ b < w.heap.size ∧ ∀ j, j < l.length → Cells3 w b (off + j * 3) (Grain.pt l j) := by
  have hs := pcells_length l
  rcases h with h | ⟨b, off, rfl, h⟩
  · rw [h] at hs; simp at hs; omega
  · have hc : ∀ j i, j < l.length → i < 3 → w.cell? ⟨b, off + j * 3 + i, none⟩ = (ptc (Grain.pt l j))[i]? := fun j i hj hi => by
      rw [Nat.add_assoc, h (j * 3 + i) (by omega)]
      exact pcells_at l j i hj hi
    refine ⟨b, off, rfl, World.block_lt_of_cell? w ⟨b, off + k * 3 + 0, none⟩ (hc k 0 hk (by omega)), fun j hj => ?_⟩
    exact ⟨hc j 0 hj (by omega), hc j 1 hj (by omega), hc j 2 hj (by omega)⟩

theorem Cells3.below {w w' : World} {B b off : Nat} {p : Grain.Pt} (h : Cells3 w b off p) (hb : Below B w w') (hl : b < B) : Cells3 w' b off p := by
  obtain ⟨h0, h1, h2⟩ := h
  exact ⟨(hb.cell (p := ⟨b, off, none⟩) hl).trans h0, (hb.cell (p := ⟨b, off + 1, none⟩) hl).trans h1, (hb.cell (p := ⟨b, off + 2, none⟩) hl).trans h2⟩

theorem own_plen {w : World} {base e N : Nat} {v : Value} {l : List Grain.Pt} (h : w.ownsRow base e 3 v N (pcells l)) : N = l.length := by
  have := h.1; rw [pcells_length] at this; omega

theorem pset (R : List Grain.Pt) (q : Grain.Pt) (t : Int) : (pcells (R ++ [q])).set (R.length * 3 + 2) (.int .i64 t) = pcells (R ++ [⟨q.k, q.f, t⟩]) := by
  have hl := pcells_length R
  rw [pcells_snoc, pcells_snoc]
  rw [List.set_append_right _ _ (by omega), hl]
  congr 1
  simp [ptc]

end Go.GrainU
namespace Go.Proofs.Ytfgablhgjbjbkaf
theorem Try.infoPart : (Try.prog.info? 34).map (fun i => (i.zero, i.size, i.bytes)) = some (some (.agg #[.int .i64 0, .int .i64 0, .int .i64 0]), 3, 24) := by kernel_rfl
end Go.Proofs.Ytfgablhgjbjbkaf
