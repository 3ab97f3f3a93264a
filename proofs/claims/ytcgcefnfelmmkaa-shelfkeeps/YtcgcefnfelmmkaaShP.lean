/-
  Acts in memory; a shelf that is kept while acts are played.
-/
import Derived.Test.YtcgcefnfelmmkaaShN
import Derived.Test.YtcgcefnfelmmkaaShK
namespace Go.GrainU
open Go.RowKit

/-- an act's cells -/
def acc5 (a : Grain.Act) : List Value := [.int .i64 a.k, .int .i64 a.t, .int .i64 a.v, .int .i64 a.i, .int .i64 a.o]
def acells : List Grain.Act → List Value
  | [] => []
  | a :: r => acc5 a ++ acells r

def act0 : Grain.Act := ⟨0, 0, 0, 0, 0⟩
def ac (l : List Grain.Act) (k : Nat) : Grain.Act := l.getD k act0

theorem acells_length (l : List Grain.Act) : (acells l).length = l.length * 5 := by
  induction l with
  | nil => rfl
  | cons b r ih => simp only [acells, List.length_append, List.length_cons, ih, acc5, List.length_nil]; omega

theorem acells_at (l : List Grain.Act) : ∀ k i, k < l.length → i < 5 → (acells l)[k * 5 + i]? = (acc5 (ac l k))[i]? := by
  induction l with
  | nil => intro k i hk; simp at hk
  | cons b r ih =>
    intro k i hk hi
    have hl : (acc5 b).length = 5 := rfl
    match k with
    | 0 =>
      rw [acells, List.getElem?_append_left (by omega)]
      simp [ac]
    | k + 1 =>
      rw [acells, List.getElem?_append_right (by omega), hl, show (k + 1) * 5 + i - 5 = k * 5 + i from by omega, ih k i (by simpa using hk) hi]
      simp [ac]

theorem seg_act {w : World} {ao : Option Addr} {l : List Grain.Act} (h : Seg w ao (acells l)) {k : Nat} (hk : k < l.length) :
    ∃ b off, ao = some ⟨b, off, none⟩ ∧ b < w.heap.size ∧ w.cell? ⟨b, off + k * 5, none⟩ = some (.int .i64 (ac l k).k) ∧ w.cell? ⟨b, off + k * 5 + 1, none⟩ = some (.int .i64 (ac l k).t) ∧ w.cell? ⟨b, off + k * 5 + 2, none⟩ = some (.int .i64 (ac l k).v) ∧ w.cell? ⟨b, off + k * 5 + 3, none⟩ = some (.int .i64 (ac l k).i) ∧ w.cell? ⟨b, off + k * 5 + 4, none⟩ = some (.int .i64 (ac l k).o) := by
  have hs := acells_length l
  rcases h with h | ⟨b, off, rfl, h⟩
  · rw [h] at hs; simp at hs; omega
  · have hc : ∀ i, i < 5 → w.cell? ⟨b, off + k * 5 + i, none⟩ = (acc5 (ac l k))[i]? := fun i hi => by
      rw [Nat.add_assoc, h (k * 5 + i) (by omega)]
      exact acells_at l k i hk hi
    exact ⟨b, off, rfl, World.block_lt_of_cell? w ⟨b, off + k * 5 + 0, none⟩ (hc 0 (by omega)), hc 0 (by omega), hc 1 (by omega), hc 2 (by omega), hc 3 (by omega), hc 4 (by omega)⟩

theorem seg_grown {w w' : World} {r : Option Nat} {ao : Option Addr} {xs : List Value} (h : Seg w ao xs) (hg : w.grownBy w' r) (hne : ∀ b off, ao = some ⟨b, off, none⟩ → r ≠ some b) : Seg w' ao xs := by
  rcases h with h | ⟨b, off, rfl, hc⟩
  · exact .inl h
  · refine .inr ⟨b, off, rfl, fun j hj => ?_⟩
    have hl : b < w.heap.size := Seg.block_lt hc (fun e => by rw [e] at hj; simp at hj)
    have hb := hg.block b hl (fun e => hne b off rfl e.symm)
    rw [← hc j hj]
    simp [World.cell?, hb]

/-- a shelf's slices lie in none of these blocks -/
def Off9 (r : Option Nat) (y : ShT) : Prop := ∀ b off, (y.a0 = some ⟨b, off, none⟩ ∨ y.a1 = some ⟨b, off, none⟩ ∨ y.a2 = some ⟨b, off, none⟩ ∨ y.a3 = some ⟨b, off, none⟩) → r ≠ some b

theorem ShIn.grown {w w' : World} {r : Option Nat} {y : ShT} (h : ShIn w y) (hg : w.grownBy w' r) (ho : Off9 r y) : ShIn w' y :=
  ⟨seg_grown h.g0 hg (fun b off e => ho b off (.inl e)), seg_grown h.g1 hg (fun b off e => ho b off (.inr (.inl e))), seg_grown h.g2 hg (fun b off e => ho b off (.inr (.inr (.inl e)))), seg_grown h.g3 hg (fun b off e => ho b off (.inr (.inr (.inr e)))), h.fits, h.n0, h.n1, h.n2, h.n3, h.z0, h.z1, h.z2, h.z3⟩

theorem set9_far {w : World} {B k : Nat} (h : k ≠ B) (v0 v1 v2 v3 v4 v5 v6 v7 v8 : Value) : (Set9 w B v0 v1 v2 v3 v4 v5 v6 v7 v8).heap[k]? = w.heap[k]? := by
  unfold Set9
  rw [setCell_far h, setCell_far h, setCell_far h, setCell_far h, setCell_far h, setCell_far h, setCell_far h, setCell_far h, setCell_far h]

theorem set9_size (w : World) (B : Nat) (v0 v1 v2 v3 v4 v5 v6 v7 v8 : Value) : (Set9 w B v0 v1 v2 v3 v4 v5 v6 v7 v8).heap.size = w.heap.size := by
  unfold Set9; simp

end Go.GrainU
namespace Go.Proofs.Ytcgcefnfelmmkaa
open Go.RowKit Go.GrainU

theorem set9_sob {w : World} {B : Nat} {a0 a1 a2 a3 a4 a5 a6 a7 a8 : Value} (h : w.heap[B]? = some (sob a0 a1 a2 a3 a4 a5 a6 a7 a8)) (v0 v1 v2 v3 v4 v5 v6 v7 v8 : Value) : (Set9 w B v0 v1 v2 v3 v4 v5 v6 v7 v8).heap[B]? = some (sob v0 v1 v2 v3 v4 v5 v6 v7 v8) := by
  have h0 : (w.setCell ⟨B, 0, none⟩ v0).heap[B]? = some (sob v0 a1 a2 a3 a4 a5 a6 a7 a8) := set_block h _
  have h1 : ((w.setCell ⟨B, 0, none⟩ v0).setCell ⟨B, 1, none⟩ v1).heap[B]? = some (sob v0 v1 a2 a3 a4 a5 a6 a7 a8) := set_block h0 _
  have h2 : (((w.setCell ⟨B, 0, none⟩ v0).setCell ⟨B, 1, none⟩ v1).setCell ⟨B, 2, none⟩ v2).heap[B]? = some (sob v0 v1 v2 a3 a4 a5 a6 a7 a8) := set_block h1 _
  have h3 : ((((w.setCell ⟨B, 0, none⟩ v0).setCell ⟨B, 1, none⟩ v1).setCell ⟨B, 2, none⟩ v2).setCell ⟨B, 3, none⟩ v3).heap[B]? = some (sob v0 v1 v2 v3 a4 a5 a6 a7 a8) := set_block h2 _
  have h4 : (((((w.setCell ⟨B, 0, none⟩ v0).setCell ⟨B, 1, none⟩ v1).setCell ⟨B, 2, none⟩ v2).setCell ⟨B, 3, none⟩ v3).setCell ⟨B, 4, none⟩ v4).heap[B]? = some (sob v0 v1 v2 v3 v4 a5 a6 a7 a8) := set_block h3 _
  have h5 : ((((((w.setCell ⟨B, 0, none⟩ v0).setCell ⟨B, 1, none⟩ v1).setCell ⟨B, 2, none⟩ v2).setCell ⟨B, 3, none⟩ v3).setCell ⟨B, 4, none⟩ v4).setCell ⟨B, 5, none⟩ v5).heap[B]? = some (sob v0 v1 v2 v3 v4 v5 a6 a7 a8) := set_block h4 _
  have h6 : (((((((w.setCell ⟨B, 0, none⟩ v0).setCell ⟨B, 1, none⟩ v1).setCell ⟨B, 2, none⟩ v2).setCell ⟨B, 3, none⟩ v3).setCell ⟨B, 4, none⟩ v4).setCell ⟨B, 5, none⟩ v5).setCell ⟨B, 6, none⟩ v6).heap[B]? = some (sob v0 v1 v2 v3 v4 v5 v6 a7 a8) := set_block h5 _
  have h7 : ((((((((w.setCell ⟨B, 0, none⟩ v0).setCell ⟨B, 1, none⟩ v1).setCell ⟨B, 2, none⟩ v2).setCell ⟨B, 3, none⟩ v3).setCell ⟨B, 4, none⟩ v4).setCell ⟨B, 5, none⟩ v5).setCell ⟨B, 6, none⟩ v6).setCell ⟨B, 7, none⟩ v7).heap[B]? = some (sob v0 v1 v2 v3 v4 v5 v6 v7 a8) := set_block h6 _
  have h8 : (((((((((w.setCell ⟨B, 0, none⟩ v0).setCell ⟨B, 1, none⟩ v1).setCell ⟨B, 2, none⟩ v2).setCell ⟨B, 3, none⟩ v3).setCell ⟨B, 4, none⟩ v4).setCell ⟨B, 5, none⟩ v5).setCell ⟨B, 6, none⟩ v6).setCell ⟨B, 7, none⟩ v7).setCell ⟨B, 8, none⟩ v8).heap[B]? = some (sob v0 v1 v2 v3 v4 v5 v6 v7 v8) := set_block h7 _
  exact h8

theorem set9_here {w : World} {B : Nat} {z : ShT} (h : w.heap[B]? = some (so z)) (y : ShT) :
    (Set9 w B (.slice y.a0 y.s.se.length y.c0) (.slice y.a1 y.s.ra.length y.c1) (.slice y.a2 y.s.fi.length y.c2) (.slice y.a3 y.s.co.length y.c3) (.int .i64 y.s.rf) (.int .i64 y.s.ff) (.int .i64 y.s.ft) (.int .i64 y.s.cf) (.int .i64 y.s.ct)).heap[B]? = some (so y) := by
  have h' : w.heap[B]? = some (sob (.slice z.a0 z.s.se.length z.c0) (.slice z.a1 z.s.ra.length z.c1) (.slice z.a2 z.s.fi.length z.c2) (.slice z.a3 z.s.co.length z.c3) (.int .i64 z.s.rf) (.int .i64 z.s.ff) (.int .i64 z.s.ft) (.int .i64 z.s.cf) (.int .i64 z.s.ct)) := h
  exact set9_sob h' _ _ _ _ _ _ _ _ _

theorem own_at {w : World} {base e size n c : Nat} {ao : Option Addr} {xs : List Value} (h : w.ownsRow base e size (.slice ao n c) n xs) {b off : Nat} (ha : ao = some ⟨b, off, none⟩) : base ≤ b := by
  subst ha
  rcases h.2 with ⟨h2, _⟩ | ⟨g, cap, cur, hv, hg, _⟩
  · simp at h2
  · simp at hv
    obtain ⟨⟨rfl, _⟩, _⟩ := hv
    exact hg

/-- what a call made lies in none of the blocks that were there -/
theorem ShO.off {base : Nat} {w : World} {y : ShT} (h : ShO base w y) {r : Option Nat} (hr : ∀ g, r = some g → g < base) : Off9 r y := by
  intro b off ha e
  have hb := hr b e
  rcases ha with ha | ha | ha | ha
  · have := own_at h.o0 ha; omega
  · have := own_at h.o1 ha; omega
  · have := own_at h.o2 ha; omega
  · have := own_at h.o3 ha; omega

theorem seg_lt {w : World} {b off : Nat} {xs : List Value} (h : Seg w (some ⟨b, off, none⟩) xs) (hx : xs ≠ []) : b < w.heap.size := by
  rcases h with h | ⟨b', off', e, hc⟩
  · exact absurd h hx
  · simp at e
    obtain ⟨rfl, rfl⟩ := e
    exact Seg.block_lt hc hx

theorem seg_set9 {w : World} {B : Nat} {ao : Option Addr} {xs : List Value} (h : Seg w ao xs) (hne : ∀ b off, ao = some ⟨b, off, none⟩ → b ≠ B) (v0 v1 v2 v3 v4 v5 v6 v7 v8 : Value) : Seg (Set9 w B v0 v1 v2 v3 v4 v5 v6 v7 v8) ao xs := by
  rcases h with h | ⟨b, off, rfl, hc⟩
  · exact .inl h
  · refine .inr ⟨b, off, rfl, fun j hj => ?_⟩
    have hb := set9_far (w := w) (hne b off rfl) v0 v1 v2 v3 v4 v5 v6 v7 v8
    rw [← hc j hj]
    simp [World.cell?, hb]

theorem ShIn.set9 {w : World} {B : Nat} {y : ShT} (h : ShIn w y) (ho : Off9 (some B) y) (v0 v1 v2 v3 v4 v5 v6 v7 v8 : Value) : ShIn (Set9 w B v0 v1 v2 v3 v4 v5 v6 v7 v8) y :=
  ⟨seg_set9 h.g0 (fun b off e hb => ho b off (.inl e) (by rw [hb])) _ _ _ _ _ _ _ _ _, seg_set9 h.g1 (fun b off e hb => ho b off (.inr (.inl e)) (by rw [hb])) _ _ _ _ _ _ _ _ _, seg_set9 h.g2 (fun b off e hb => ho b off (.inr (.inr (.inl e))) (by rw [hb])) _ _ _ _ _ _ _ _ _, seg_set9 h.g3 (fun b off e hb => ho b off (.inr (.inr (.inr e))) (by rw [hb])) _ _ _ _ _ _ _ _ _, h.fits, h.n0, h.n1, h.n2, h.n3, h.z0, h.z1, h.z2, h.z3⟩

/-- while acts are played: the shelf lies at S, all that were taken in a row of the call's own -/
structure PI (w wr : World) (X S b0 : Nat) (y : ShT) (ro : Option Addr) (N c : Nat) (A : List (Int × Int)) : Prop where
  s : wr.heap[S]? = some (so y)
  x : wr.heap[X]? = some (so szT)
  inn : ShIn wr y
  row : wr.ownsRow b0 29 2 (.slice ro N c) N (scells A)
  off : Off9 (Value.slice ro N c).ownBlock y
  offX : Off9 (some X) y
  bel : Below w.heap.size w wr
  xw : w.heap.size ≤ X
  sx : X < S
  sb : S < b0
  bs : b0 ≤ wr.heap.size

theorem PI.call {w wr w' : World} {X S b0 : Nat} {y : ShT} {ro : Option Addr} {N c : Nat} {A : List (Int × Int)} (h : PI w wr X S b0 y ro N c A) (hb : Below wr.heap.size wr w') : PI w w' X S b0 y ro N c A :=
  ⟨below_block hb h.s, below_block hb h.x, h.inn.below hb, own_below h.row hb, h.off, h.offX, h.bel.trans (hb.mono h.bel.size), h.xw, h.sx, h.sb, Nat.le_trans h.bs hb.size⟩

end Go.Proofs.Ytcgcefnfelmmkaa
