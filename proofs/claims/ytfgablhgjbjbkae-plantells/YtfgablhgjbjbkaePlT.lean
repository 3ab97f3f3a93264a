/-
  The document's own way of choosing and reading comes to the same. No program is named here.
-/
import Derived.Test.YtfgablhgjbjbkaePlM
namespace Grain

/-- the next part, as the document says it -/
def nxtR (s : Shf) (a to : Int) : Pt :=
  if a + 60 ≤ to ∧ may s ⟨2, a, a + 60⟩ = true then ⟨2, a, a + 60⟩
  else if a + 10 ≤ to ∧ may s ⟨1, a, a + 10⟩ = true then ⟨1, a, a + 10⟩
  else ⟨0, a, min to (a / 10 * 10 + 10)⟩

def chsR (s : Shf) (to : Int) : Nat → Int → List Pt → List Pt × Int
  | 0, _, out => (out, 0)
  | n + 1, a, out => if a < to then (if may s (nxtR s a to) = true then chsR s to n (nxtR s a to).t (putP out (nxtR s a to)) else ([], 10)) else (out, 0)

theorem chsR_end {s : Shf} {to : Int} {a : Int} (h : ¬ a < to) (n : Nat) (out : List Pt) : chsR s to n a out = (out, 0) := by
  cases n with
  | zero => rfl
  | succ n => simp [chsR, h]

theorem nxtR_f (s : Shf) (a to : Int) : (nxtR s a to).f = a := by
  unfold nxtR
  split
  · rfl
  · split <;> rfl

theorem nxtR_t (s : Shf) (a to : Int) : (nxtR s a to).t ≤ to := by
  unfold nxtR
  split
  · next h => exact h.1
  · split
    · next h => exact h.1
    · exact Int.min_le_left _ _

theorem putP_putP (l : List Pt) (k a b c : Int) : putP (putP l ⟨k, a, b⟩) ⟨k, b, c⟩ = putP l ⟨k, a, c⟩ := by
  rcases snoc_or l with rfl | ⟨r, q, rfl⟩
  · rw [putP_nil, putP_nil]
    exact putP_same [] ⟨k, a, b⟩ ⟨k, b, c⟩ rfl
  · by_cases e : q.k = k
    · rw [putP_same _ _ _ e, putP_same r ⟨q.k, q.f, b⟩ ⟨k, b, c⟩ e, putP_same r q ⟨k, a, c⟩ e]
    · rw [putP_other _ _ _ e, putP_same (r ++ [q]) ⟨k, a, b⟩ ⟨k, b, c⟩ rfl, putP_other r q ⟨k, a, c⟩ e]

theorem no_fine {s : Shf} (sr : SR s) {a b : Int} (h : s.ft ≤ a) (hb : a < b) : may s ⟨2, a, b⟩ = false ∧ may s ⟨1, a, b⟩ = false := by
  have f1 := sr.bd
  constructor
  · unfold may
    rw [if_neg (by simp only; omega), if_neg (by simp), if_neg (by simp), if_pos rfl]
    simp
    omega
  · unfold may
    rw [if_neg (by simp only; omega), if_neg (by simp), if_pos rfl]
    simp
    omega

theorem may_raw {s : Shf} (sr : SR s) {a b : Int} (h : s.ft ≤ a) (hb : a < b) (h1 : b ≤ 1000000) : may s ⟨0, a, b⟩ = true := by
  have f1 := sr.bd
  unfold may
  rw [if_neg (by simp only; omega), if_pos rfl]
  simp
  omega

theorem chsR_raw {s : Shf} (sr : SR s) {to : Int} (ht : to ≤ 1000000) : ∀ (n : Nat) (a : Int) (out : List Pt), 0 ≤ a → s.ft ≤ a → a < to → (to - a).toNat ≤ n → chsR s to n a out = (putP out ⟨0, a, to⟩, 0) := by
  intro n
  induction n with
  | zero => intro a out _ _ h1 h2; omega
  | succ n ih =>
    intro a out h0 hf h1 h2
    have e : nxtR s a to = ⟨0, a, min to (a / 10 * 10 + 10)⟩ := by
      rw [nxtR, if_neg (by rw [(no_fine sr hf (show a < a + 60 by omega)).1]; simp), if_neg (by rw [(no_fine sr hf (show a < a + 10 by omega)).2]; simp)]
    obtain ⟨b, hb⟩ : ∃ b, b = min to (a / 10 * 10 + 10) := ⟨_, rfl⟩
    rw [← hb] at e
    have hab : a < b := by omega
    have hbt : b ≤ to := by omega
    rw [chsR, if_pos h1, e, if_pos (may_raw sr hf hab (by omega))]
    simp only
    by_cases c : b < to
    · rw [ih b _ (by omega) (by omega) c (by omega), putP_putP]
    · obtain rfl : b = to := by omega
      rw [chsR_end c]

theorem chsR_chs {s : Shf} (sr : SR s) {to : Int} (ht : to ≤ 1000000) : ∀ (n : Nat) (a : Int) (out : List Pt), 0 ≤ a → (to - a).toNat ≤ n → chsR s to n a out = chs s to n a out := by
  intro n
  induction n with
  | zero => intro a out _ _; rfl
  | succ n ih =>
    intro a out h0 h2
    by_cases e : a < to
    · by_cases hf : s.ft ≤ a
      · have en : nxt s a to = ⟨0, a, to⟩ := by
          rw [nxt, if_neg (by rw [(no_fine sr hf (show a < a + 60 by omega)).1]; simp), if_neg (by rw [(no_fine sr hf (show a < a + 10 by omega)).2]; simp), if_pos hf]
        rw [chsR_raw sr ht (n + 1) a out h0 hf e h2, chs, if_pos e, en, if_pos (may_raw sr hf e ht), chs_end (by simp only; omega)]
      · have en : nxtR s a to = nxt s a to := by
          unfold nxtR nxt
          rw [if_neg hf, show a / 10 * 10 + 10 = a - a % 10 + 10 by omega]
        rw [chsR, chs, if_pos e, if_pos e, en]
        by_cases m : may s (nxt s a to) = true
        · rw [if_pos m, if_pos m]
          have l1 := may_lt m
          have l2 := nxt_f s a to
          exact ih _ _ (by omega) (by omega)
        · rw [if_neg m, if_neg m]
    · rw [chsR_end e, chs_end e]

/-- what is chosen, as the document says it -/
theorem choose_ref {s : Shf} (h0 : swrong s = 0) {f t : Int} (h1 : 0 ≤ f) (h2 : f ≤ t) (h3 : t ≤ 1000000) : choose s f t = chsR s t (t - f).toNat f [] := by
  unfold choose
  rw [if_neg (by simp [h0]), if_neg (by omega), chsR_chs ((sr_iff s).1 h0) h3 _ _ _ h1 (Nat.le_refl _)]

/-- a sum of no more than so many -/
structure Good (a : Sm) (n : Int) : Prop where
  z : a = zero ∨ 1 ≤ a.c
  le : a.c ≤ n

theorem Good.pos {a : Sm} {n : Int} (h : Good a n) : 0 ≤ a.c := by
  rcases h.z with rfl | h
  · decide
  · omega

theorem good_join {a b : Sm} {n m : Int} (ha : Good a n) (hb : Good b m) (h : n + m ≤ 4611686018427387904) : Good (join a b) (n + m) := by
  have p1 := ha.pos
  have p2 := hb.pos
  have l1 := ha.le
  have l2 := hb.le
  by_cases e1 : a.c = 0
  · rw [join_zero_left a b e1]
    exact ⟨hb.z, by omega⟩
  · by_cases e2 : b.c = 0
    · rw [join_zero_right a b e1 e2]
      exact ⟨ha.z, by omega⟩
    · rw [join_full a b e1 e2]
      have e : wr (a.c + b.c) = a.c + b.c := wr_in (by omega) (by omega)
      refine ⟨.inr ?_, ?_⟩
      · simp only; rw [e]; omega
      · simp only; rw [e]; omega

theorem join_none {a : Sm} {n : Int} (h : Good a n) : join a zero = a := by
  rcases h.z with rfl | h
  · rfl
  · exact join_zero_right a zero (by omega) rfl

theorem good_zero {n : Int} (h : 0 ≤ n) : Good zero n := ⟨.inl rfl, h⟩

theorem good_inB (f t : Int) : ∀ B : List Bk, (∀ b ∈ B, 1 ≤ b.s.c ∧ b.s.c ≤ 60) → B.length ≤ 1000000 → Good (inB B f t) (60 * B.length) := by
  refine snoc_ind ?_ ?_
  · intro _ _; exact good_zero (by simp)
  · intro R b ih h hl
    have hb := h b (by simp)
    simp at hl
    have g := ih (fun x hx => h x (by simp [hx])) (by omega)
    rw [inB_snoc]
    have e : (60 : Int) * ((R ++ [b]).length : Int) = 60 * R.length + 60 := by simp; omega
    split
    · rw [e]
      exact good_join g ⟨.inr hb.1, hb.2⟩ (by omega)
    · rw [e]; exact ⟨g.z, by have := g.le; omega⟩

/-- entry by entry, or all at once -/
theorem foldl_inB (f t : Int) {a : Sm} {n : Int} (ha : Good a n) (hn : n ≤ 1000000000000000000) : ∀ B : List Bk, (∀ b ∈ B, 1 ≤ b.s.c ∧ b.s.c ≤ 60) → B.length ≤ 1000000 → B.foldl (fun acc b => if f ≤ b.a ∧ b.a < t then join acc b.s else acc) a = join a (inB B f t) := by
  refine snoc_ind ?_ ?_
  · intro _ _; exact (join_none ha).symm
  · intro R b ih h hl
    have hb := h b (by simp)
    simp at hl
    have g := good_inB f t R (fun x hx => h x (by simp [hx])) (by omega)
    rw [List.foldl_append, ih (fun x hx => h x (by simp [hx])) (by omega), inB_snoc]
    simp only [List.foldl_cons, List.foldl_nil]
    split
    · have p1 := ha.pos
      have p2 := ha.le
      have p3 := g.pos
      have p4 := g.le
      rw [join_assoc a (inB R f t) b.s ⟨p1, by omega⟩ ⟨p3, by omega⟩ ⟨by omega, by omega⟩]
    · rfl

/-- samples as entries -/
def rawB (l : List (Int × Int)) : List Bk := l.map fun x => ⟨x.1, one x.2⟩

theorem rawB_snoc (l : List (Int × Int)) (x : Int × Int) : rawB (l ++ [x]) = rawB l ++ [⟨x.1, one x.2⟩] := by simp [rawB]

theorem inB_raw (f t : Int) : ∀ l : List (Int × Int), l.length ≤ 1000000 → inB (rawB l) f t = of (win l f t) := by
  refine snoc_ind ?_ ?_
  · intro _; rfl
  · intro l x ih h
    simp at h
    rw [rawB_snoc, inB_snoc, ih (by omega), win_snoc]
    simp only
    split
    · rw [of_snoc _ _ (by have := win_len l f t; omega)]
    · rfl

theorem winB_raw (f t : Int) : ∀ l : List (Int × Int), (winB (rawB l) f t).length = (win l f t).length := by
  intro l
  induction l with
  | nil => rfl
  | cons x r ih =>
    simp only [rawB, List.map_cons, winB, win] at ih ⊢
    by_cases h : f ≤ x.1 ∧ x.1 < t
    · rw [List.filter_cons_of_pos (by simpa using h), List.filter_cons_of_pos (by simpa using h)]
      simp only [List.length_cons]
      rw [ih]
    · rw [List.filter_cons_of_neg (by simpa using h), List.filter_cons_of_neg (by simpa using h)]
      exact ih

/-- the entries that a part is read from -/
def ent (s : Shf) (p : Pt) : List Bk := if p.k = 0 then rawB s.ra else if p.k = 2 then s.co else s.fi

theorem ent_ok {s : Shf} (sr : SR s) (p : Pt) : (∀ b ∈ ent s p, 1 ≤ b.s.c ∧ b.s.c ≤ 60) ∧ (ent s p).length ≤ 500 := by
  unfold ent
  split
  · refine ⟨fun b hb => ?_, by simp [rawB]; exact sr.rlen⟩
    simp [rawB] at hb
    obtain ⟨_, _, _, rfl⟩ := hb
    exact ⟨by simp [one], by simp [one]⟩
  · split
    · exact ⟨fun b hb => by have := inRB_get (sr.cin b hb); omega, sr.clen⟩
    · exact ⟨fun b hb => by have := inRB_get (sr.fin b hb); omega, sr.flen⟩

theorem psum_ent {s : Shf} (sr : SR s) {p : Pt} (m : may s p = true) : psum s p = inB (ent s p) p.f p.t ∧ pcost s p = (winB (ent s p) p.f p.t).length := by
  have hl := may_lt m
  unfold may at m
  rw [if_neg (by omega)] at m
  unfold psum pcost ent
  by_cases k0 : p.k = 0
  · have k1 : ¬ p.k = 1 := by omega
    have k2 : ¬ p.k = 2 := by omega
    constructor
    · rw [if_neg k1, if_neg k2, if_pos k0, inB_raw _ _ _ (by have := sr.rlen; omega)]
    · rw [if_neg k1, if_neg k2, if_pos k0, winB_raw]
  · rw [if_neg k0] at m
    by_cases k1 : p.k = 1
    · have k2 : ¬ p.k = 2 := by omega
      constructor
      · rw [if_pos k1, if_neg k0, if_neg k2]
      · rw [if_pos k1, if_neg k0, if_neg k2]
    · rw [if_neg k1] at m
      by_cases k2 : p.k = 2
      · constructor
        · rw [if_neg k1, if_pos k2, if_neg k0, if_pos k2]
        · rw [if_neg k1, if_pos k2, if_neg k0, if_pos k2]
      · rw [if_neg k2] at m; cases m

theorem good_rdS {s : Shf} (sr : SR s) : ∀ l : List Pt, (∀ p ∈ l, may s p = true) → l.length ≤ 10000000000000 → Good (rdS s l) (30000 * l.length) := by
  refine snoc_ind ?_ ?_
  · intro _ _; exact good_zero (by simp)
  · intro r p ih h hl
    simp at hl
    have g := ih (fun x hx => h x (by simp [hx])) (by omega)
    obtain ⟨e1, e2⟩ := ent_ok sr p
    have g2 := good_inB p.f p.t (ent s p) e1 (by omega)
    rw [rdS_snoc, (psum_ent sr (h p (by simp))).1]
    have g3 := good_join g g2 (by omega)
    exact ⟨g3.z, by have := g3.le; simp; omega⟩

end Grain
