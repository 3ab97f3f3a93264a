/-
  What the document's look hands over, as it lies in memory: cells, and beside them sums.
-/
import Derived.Test.YthohkokhimdamaaGreatP40
import Derived.Test.YthohkokhimdamaaGreatP33
import Derived.Test.YthohkokhimdamaaGreatP36
import Derived.Test.YthohkokhimdamaaGreatP37
/-
  The words that AggTells asks for: the eight, and one more.
-/
namespace Go.Proofs.YthohkokhimdamaaGreat
open Go.RowKit Go.GrainU

theorem Tryz.infoString : (Tryz.prog.info? 9).map (fun i => (i.zero, i.size, i.bytes)) = some (some (.string ⟨#[]⟩), 1, 16) := by kernel_rfl

def wsL (x : ByteArray) : List Value := [.string ⟨#[97, 118, 103]⟩, .string ⟨#[99, 111, 117, 110, 116]⟩, .string ⟨#[102, 105, 114, 115, 116]⟩, .string ⟨#[108, 97, 115, 116]⟩, .string ⟨#[109, 97, 120]⟩, .string ⟨#[109, 105, 110]⟩, .string ⟨#[114, 105, 115, 101]⟩, .string ⟨#[115, 117, 109]⟩] ++ [.string x]

theorem ws_at (x : ByteArray) (s : Grain.Sm) (k : Nat) (hk : k < 9) : ∃ y, (wsL x)[k]? = some (.string y) ∧ (k < 8 → (resw y s).2 = true) := by
  rcases k with _ | _ | _ | _ | _ | _ | _ | _ | _ | k
  · exact ⟨⟨#[97, 118, 103]⟩, rfl, fun _ => by simp [resw]⟩
  · exact ⟨⟨#[99, 111, 117, 110, 116]⟩, rfl, fun _ => by simp [resw]⟩
  · exact ⟨⟨#[102, 105, 114, 115, 116]⟩, rfl, fun _ => by simp [resw]⟩
  · exact ⟨⟨#[108, 97, 115, 116]⟩, rfl, fun _ => by simp [resw]⟩
  · exact ⟨⟨#[109, 97, 120]⟩, rfl, fun _ => by simp [resw]⟩
  · exact ⟨⟨#[109, 105, 110]⟩, rfl, fun _ => by simp [resw]⟩
  · exact ⟨⟨#[114, 105, 115, 101]⟩, rfl, fun _ => by simp [resw]⟩
  · exact ⟨⟨#[115, 117, 109]⟩, rfl, fun _ => by simp [resw]⟩
  · exact ⟨x, rfl, fun h => by omega⟩
  · omega

theorem value_q (s : Grain.Sm) (x : ByteArray) (q : Int) (z : Bool) (h : resa x s = (q, z)) (w : World) (t0 : -9223372036854775808 ≤ s.t) (t1 : s.t ≤ 9223372036854775807) :
    Calls Tryz.prog 56 #[.string x, .agg #[.int .i64 s.c, .int .i64 s.t, .int .i64 s.mn, .int .i64 s.mx, .int .i64 s.f, .int .i64 s.l, .int .i64 s.r]] w fun e w' => e = .returned (.tuple #[.int .i64 q, .bool z]) ∧ Below w.heap.size w w' := by
  have := value_all s x w t0 t1
  rw [h] at this
  exact this

theorem word_q (s : Grain.Sm) (x : ByteArray) (q : Int) (z : Bool) (h : resa x s = (q, z)) (w : World) (t0 : -9223372036854775808 ≤ s.t) (t1 : s.t ≤ 9223372036854775807) :
    Calls Tryz.prog 39 #[.string x, .agg #[.int .i64 s.c, .int .i64 s.t, .int .i64 s.mn, .int .i64 s.mx, .int .i64 s.f, .int .i64 s.l, .int .i64 s.r]] w fun e w' => e = .returned (.tuple #[.int .i64 q, .bool z]) ∧ Below w.heap.size w w' := by
  have := word_all s x w t0 t1
  rw [h] at this
  exact this

end Go.Proofs.YthohkokhimdamaaGreat

/-
  What the document's look hands over, as it lies in memory: cells, and beside them sums.
-/
namespace Go.GrainU
open Go.RowKit

/-- a series that a window has, what it came to, and where its labels lie -/
structure QT where
  ser : Lb
  sm : Grain.Sm
  sa : Option Addr
  sc : Nat

def QT.ct (q : QT) : CT := ⟨q.ser, 0, q.sa, q.sc⟩
def QT.lk (q : QT) : Lb × Grain.Sm := (q.ser, q.sm)
def qt0 : QT := ⟨[], Grain.zero, none, 0⟩
def qt (l : List QT) (k : Nat) : QT := l.getD k qt0

def ucells : List QT → List Value
  | [] => []
  | q :: r => .int .i64 q.sm.c :: .int .i64 q.sm.t :: .int .i64 q.sm.mn :: .int .i64 q.sm.mx :: .int .i64 q.sm.f :: .int .i64 q.sm.l :: .int .i64 q.sm.r :: ucells r

theorem ucells_length (l : List QT) : (ucells l).length = l.length * 7 := by
  induction l with
  | nil => rfl
  | cons s r ih => simp only [ucells, List.length_cons, ih]; omega

theorem ucells_append (a b : List QT) : ucells (a ++ b) = ucells a ++ ucells b := by
  induction a with
  | nil => rfl
  | cons x r ih => simp [ucells, ih]

/-- the seven cells of a sum in a row -/
def Cells7u (w : World) (b o : Nat) (s : Grain.Sm) : Prop :=
  w.cell? ⟨b, o, none⟩ = some (.int .i64 s.c) ∧ w.cell? ⟨b, o + 1, none⟩ = some (.int .i64 s.t) ∧ w.cell? ⟨b, o + 2, none⟩ = some (.int .i64 s.mn) ∧ w.cell? ⟨b, o + 3, none⟩ = some (.int .i64 s.mx) ∧ w.cell? ⟨b, o + 4, none⟩ = some (.int .i64 s.f) ∧ w.cell? ⟨b, o + 5, none⟩ = some (.int .i64 s.l) ∧ w.cell? ⟨b, o + 6, none⟩ = some (.int .i64 s.r)

theorem Cells7u.below {w w' : World} {b o N : Nat} {s : Grain.Sm} (h : Cells7u w b o s) (hb : Below N w w') (hl : b < N) : Cells7u w' b o s :=
  ⟨(hb.cell (p := ⟨b, o, none⟩) hl).trans h.1, (hb.cell (p := ⟨b, o + 1, none⟩) hl).trans h.2.1, (hb.cell (p := ⟨b, o + 2, none⟩) hl).trans h.2.2.1, (hb.cell (p := ⟨b, o + 3, none⟩) hl).trans h.2.2.2.1, (hb.cell (p := ⟨b, o + 4, none⟩) hl).trans h.2.2.2.2.1, (hb.cell (p := ⟨b, o + 5, none⟩) hl).trans h.2.2.2.2.2.1, (hb.cell (p := ⟨b, o + 6, none⟩) hl).trans h.2.2.2.2.2.2⟩

theorem ucells_at (l : List QT) : ∀ k, k < l.length → (ucells l)[k * 7]? = some (.int .i64 (qt l k).sm.c) ∧ (ucells l)[k * 7 + 1]? = some (.int .i64 (qt l k).sm.t) ∧ (ucells l)[k * 7 + 2]? = some (.int .i64 (qt l k).sm.mn) ∧ (ucells l)[k * 7 + 3]? = some (.int .i64 (qt l k).sm.mx) ∧ (ucells l)[k * 7 + 4]? = some (.int .i64 (qt l k).sm.f) ∧ (ucells l)[k * 7 + 5]? = some (.int .i64 (qt l k).sm.l) ∧ (ucells l)[k * 7 + 6]? = some (.int .i64 (qt l k).sm.r) := by
  induction l with
  | nil => intro k hk; simp at hk
  | cons s r ih =>
    intro k hk
    match k with
    | 0 => simp [ucells, qt]
    | k + 1 =>
      have := ih k (by simpa using hk)
      rw [show (k + 1) * 7 = k * 7 + 1 + 1 + 1 + 1 + 1 + 1 + 1 from by omega]
      have e : qt (s :: r) (k + 1) = qt r k := rfl
      rw [e]
      refine ⟨?_, ?_, ?_, ?_, ?_, ?_, ?_⟩
      · simpa [ucells] using this.1
      · rw [show k * 7 + 1 + 1 + 1 + 1 + 1 + 1 + 1 + 1 = (k * 7 + 1) + 1 + 1 + 1 + 1 + 1 + 1 + 1 from by omega]; simpa [ucells] using this.2.1
      · rw [show k * 7 + 1 + 1 + 1 + 1 + 1 + 1 + 1 + 2 = (k * 7 + 2) + 1 + 1 + 1 + 1 + 1 + 1 + 1 from by omega]; simpa [ucells] using this.2.2.1
      · rw [show k * 7 + 1 + 1 + 1 + 1 + 1 + 1 + 1 + 3 = (k * 7 + 3) + 1 + 1 + 1 + 1 + 1 + 1 + 1 from by omega]; simpa [ucells] using this.2.2.2.1
      · rw [show k * 7 + 1 + 1 + 1 + 1 + 1 + 1 + 1 + 4 = (k * 7 + 4) + 1 + 1 + 1 + 1 + 1 + 1 + 1 from by omega]; simpa [ucells] using this.2.2.2.2.1
      · rw [show k * 7 + 1 + 1 + 1 + 1 + 1 + 1 + 1 + 5 = (k * 7 + 5) + 1 + 1 + 1 + 1 + 1 + 1 + 1 from by omega]; simpa [ucells] using this.2.2.2.2.2.1
      · rw [show k * 7 + 1 + 1 + 1 + 1 + 1 + 1 + 1 + 6 = (k * 7 + 6) + 1 + 1 + 1 + 1 + 1 + 1 + 1 from by omega]; simpa [ucells] using this.2.2.2.2.2.2

theorem seg_sum {w : World} {ao : Option Addr} {l : List QT} (h : Seg w ao (ucells l)) {k : Nat} (hk : k < l.length) :
    ∃ b off, ao = some ⟨b, off, none⟩ ∧ b < w.heap.size ∧ Cells7u w b (off + k * 7) (qt l k).sm := by
  have hs := ucells_length l
  rcases h with h | ⟨b, off, rfl, h⟩
  · rw [h] at hs; simp at hs; omega
  · obtain ⟨a0, a1, a2, a3, a4, a5, a6⟩ := ucells_at l k hk
    have hc : Cells7u w b (off + k * 7) (qt l k).sm :=
      ⟨(h (k * 7) (by omega)).trans a0, by rw [Nat.add_assoc]; exact (h (k * 7 + 1) (by omega)).trans a1, by rw [Nat.add_assoc]; exact (h (k * 7 + 2) (by omega)).trans a2, by rw [Nat.add_assoc]; exact (h (k * 7 + 3) (by omega)).trans a3, by rw [Nat.add_assoc]; exact (h (k * 7 + 4) (by omega)).trans a4, by rw [Nat.add_assoc]; exact (h (k * 7 + 5) (by omega)).trans a5, by rw [Nat.add_assoc]; exact (h (k * 7 + 6) (by omega)).trans a6⟩
    exact ⟨b, off, rfl, World.block_lt_of_cell? w ⟨b, off + k * 7, none⟩ hc.1, hc⟩

theorem take_qt {l : List QT} {k : Nat} (h : k < l.length) : l.take (k + 1) = l.take k ++ [qt l k] := by
  rw [List.take_add_one, List.getElem?_eq_getElem h]
  simp only [qt, List.getD, List.getElem?_eq_getElem h, Option.getD_some, Option.toList_some]
theorem qt_mem {l : List QT} {k : Nat} (hk : k < l.length) : qt l k ∈ l := by
  simp only [qt, List.getD, List.getElem?_eq_getElem hk, Option.getD_some]; exact List.getElem_mem hk
theorem ct_qt {l : List QT} {k : Nat} (hk : k < l.length) : ct (l.map QT.ct) k = (qt l k).ct := by
  simp [ct, qt, List.getD, List.getElem?_eq_getElem hk]

/-- a row's block is none of another type -/
theorem tk_far {w : World} {base e size n : Nat} {v : Value} {xs : List Value} (h : w.ownsRow base e size v n xs) {k : Nat} {c : Array Value} {t : TypeId} {fr : Nat × Nat} (hk : w.heap[k]? = some (.cells c t fr)) (ht : t ≠ e) : v.ownBlock ≠ some k := by
  intro hv
  rcases h.2 with ⟨h2, _⟩ | ⟨g, cap, cur, h2, _, hg, _⟩
  · rw [h2] at hv; simp [Value.ownBlock] at hv
  · rw [h2] at hv
    simp [Value.ownBlock] at hv
    subst hv
    rw [hk] at hg
    simp at hg
    exact ht hg.2.1

theorem tk_keep {w w' : World} {base e size n : Nat} {v : Value} {xs : List Value} {r : Option Nat} (h : w.ownsRow base e size v n xs) (hg : w.grownBy w' r) (hne : ∀ k, v.ownBlock = some k → r ≠ some k) : w'.ownsRow base e size v n xs := by
  obtain ⟨h1, h2⟩ := h
  refine ⟨h1, ?_⟩
  rcases h2 with h2 | ⟨g, cap, cur, hv, hb, hh, rest⟩
  · exact Or.inl h2
  · have hl : g < w.heap.size := lt_of_block hh
    refine Or.inr ⟨g, cap, cur, hv, hb, ?_, rest⟩
    rw [hg.block g hl (fun e => hne g (by rw [hv]; rfl) e.symm)]; exact hh

theorem tk_types {w : World} {base base' e e' size size' n n' : Nat} {v v' : Value} {xs xs' : List Value} (h : w.ownsRow base e size v n xs) (h' : w.ownsRow base' e' size' v' n' xs') (ht : e ≠ e') : ∀ k, v.ownBlock = some k → v'.ownBlock ≠ some k := by
  intro k hk
  rcases h.2 with ⟨h2, _⟩ | ⟨g, cap, cur, h2, _, hg, _⟩
  · rw [h2] at hk; simp [Value.ownBlock] at hk
  · rw [h2] at hk
    simp [Value.ownBlock] at hk
    subst hk
    exact tk_far h' hg ht

theorem resa_val (x : ByteArray) (s : Grain.Sm) : Go.Proofs.YthohkokhimdamaaGreat.resa x s = valP x s := rfl

theorem lookR_take {l : List LT} {ms : List Mt} {a b : Int} {k : Nat} (h : k < l.length) : lookR (lns (l.take (k + 1))) ms a b = if says (lt l k).ser ms = true then lookR (lns (l.take k)) ms a b ++ [((lt l k).ser, Grain.of (Grain.win (lt l k).smp a b))] else lookR (lns (l.take k)) ms a b := by
  rw [lns_take h]
  unfold lookR
  rw [List.filter_append]
  cases hs : says (lt l k).ser ms <;> simp [LT.ln, hs]

end Go.GrainU
namespace Go.Proofs.YthohkokhimdamaaGreat
open Go.RowKit Go.GrainU

/-- the document's Of, whatever the samples -/
theorem rof_l (l : List (Int × Int)) (ao : Option Addr) (n cap : Nat) (w : World) (hs : Seg w ao (scells l)) (hn : n = l.length) (hL : n ≤ 1152921504606846975)
    (hv : ∀ j, j < n → -9223372036854775808 ≤ Grain.vl l j ∧ Grain.vl l j ≤ 9223372036854775807) (J : Grain.Sm) (hJ : J = Grain.of l) :
    Calls Tryz.prog 18 #[.slice ao n cap] w fun e w' => e = .returned (.agg #[.int .i64 J.c, .int .i64 J.t, .int .i64 J.mn, .int .i64 J.mx, .int .i64 J.f, .int .i64 J.l, .int .i64 J.r]) ∧ Below w.heap.size w w' := by
  subst hJ
  rcases Nat.eq_zero_or_pos n with h0 | h0
  · subst h0
    have e : Grain.of l = Grain.zero := by unfold Grain.of; rw [← hn]; rfl
    rw [e]
    exact rof_none ao cap w
  · obtain ⟨b, off, rfl, _⟩ := hs.sample (k := 0) (by omega)
    exact rof_some l b off n cap w hs hn h0 hL hv

theorem Tryz.infoSum7 : (Tryz.prog.info? 46).map (fun i => (i.zero, i.size, i.bytes)) = some (some (.agg #[.int .i64 0, .int .i64 0, .int .i64 0, .int .i64 0, .int .i64 0, .int .i64 0, .int .i64 0]), 7, 56) := by kernel_rfl
theorem Tryz.infoSmp2 : (Tryz.prog.info? 54).map (fun i => (i.zero, i.size, i.bytes)) = some (some (.agg #[.int .i64 0, .int .i64 0]), 2, 16) := by kernel_rfl

end Go.Proofs.YthohkokhimdamaaGreat
