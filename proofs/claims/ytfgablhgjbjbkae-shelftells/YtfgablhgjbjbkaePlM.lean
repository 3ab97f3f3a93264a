/-
  The plain mathematics of plans: which parts may be read, which cover a window, which are chosen, and what they come to. No program is named here.
-/
import Derived.Test.YtfgablhgjbjbkaeShK
namespace Grain

/-- a part of a window: its tier, from where on, ahead of where -/
structure Pt where
  k : Int
  f : Int
  t : Int

def pt (l : List Pt) (i : Nat) : Pt := l.getD i ⟨0, 0, 0⟩

def may (s : Shf) (p : Pt) : Bool :=
  if p.t ≤ p.f then false
  else if p.k = 0 then decide (s.rf ≤ p.f ∧ p.t ≤ 1000001)
  else if p.k = 1 then decide (p.f % 10 = 0 ∧ p.t % 10 = 0 ∧ s.ff ≤ p.f ∧ p.t ≤ s.ft)
  else if p.k = 2 then decide (p.f % 60 = 0 ∧ p.t % 60 = 0 ∧ s.cf ≤ p.f ∧ p.t ≤ s.ct)
  else false

def okp (s : Shf) (l : List Pt) (i : Nat) : Bool := may s (pt l i) && (decide (i = 0) || decide ((pt l (i - 1)).t = (pt l i).f))
def fol (s : Shf) (l : List Pt) : Bool := (List.range l.length).all (okp s l)

theorem fol_iff (s : Shf) (l : List Pt) : fol s l = true ↔ ∀ i, i < l.length → okp s l i = true := by simp [fol]

/-- parts cover a window -/
def cvr (s : Shf) : List Pt → Int → Int → Bool
  | [], f, t => decide (f = t)
  | p :: r, f, t => may s p && (decide (p.f = f) && cvr s r p.t t)

theorem pt_zero (p : Pt) (l : List Pt) : pt (p :: l) 0 = p := rfl
theorem pt_succ (p : Pt) (l : List Pt) (i : Nat) : pt (p :: l) (i + 1) = pt l i := by simp [pt]

theorem okp_succ (s : Shf) (p q : Pt) (l : List Pt) (i : Nat) : okp s (p :: q :: l) (i + 1) = if i = 0 then may s q && decide (p.t = q.f) else okp s (q :: l) i := by
  cases i with
  | zero => simp [okp, pt_succ, pt_zero]
  | succ j => simp [okp, pt_succ]

theorem fol_one (s : Shf) (p : Pt) : fol s [p] = may s p := by simp [fol, List.range_succ, okp, pt]

theorem fol_cons (s : Shf) (p q : Pt) (l : List Pt) : fol s (p :: q :: l) = (may s p && (decide (p.t = q.f) && fol s (q :: l))) := by
  rw [Bool.eq_iff_iff]
  simp only [Bool.and_eq_true, fol_iff, decide_eq_true_eq]
  constructor
  · intro h
    have h0 := h 0 (by simp)
    have h1 := h 1 (by simp)
    rw [okp_succ, if_pos rfl] at h1
    simp at h1
    refine ⟨by simpa [okp, pt_zero] using h0, h1.2, fun i hi => ?_⟩
    cases i with
    | zero => simpa [okp, pt_zero] using h1.1
    | succ j =>
      have := h (j + 2) (by simp at hi ⊢; omega)
      rwa [okp_succ, if_neg (by omega)] at this
  · rintro ⟨h0, h1, h2⟩ i hi
    cases i with
    | zero => simpa [okp, pt_zero] using h0
    | succ j =>
      rw [okp_succ]
      by_cases e : j = 0
      · subst e
        have := h2 0 (by simp)
        simp [okp, pt_zero] at this
        simp [this, h1]
      · rw [if_neg e]; exact h2 j (by simp at hi ⊢; omega)

theorem cvr_iff (s : Shf) : ∀ (l : List Pt) (f t : Int), cvr s l f t = if l.length = 0 then decide (f = t) else decide ((pt l 0).f = f) && (decide ((pt l (l.length - 1)).t = t) && fol s l) := by
  intro l
  induction l with
  | nil => intro f t; simp [cvr]
  | cons p r ih =>
    intro f t
    rw [cvr, ih]
    cases r with
    | nil =>
      rw [if_pos (by rfl), if_neg (by simp), fol_one]
      show (may s p && (decide (p.f = f) && decide (p.t = t))) = (decide (p.f = f) && (decide (p.t = t) && may s p))
      cases may s p <;> cases decide (p.f = f) <;> cases decide (p.t = t) <;> rfl
    | cons q r =>
      rw [if_neg (by simp), if_neg (by simp), fol_cons, pt_zero, pt_zero]
      rw [show (p :: q :: r).length - 1 = (q :: r).length - 1 + 1 by simp, pt_succ]
      have e : decide (q.f = p.t) = decide (p.t = q.f) := by
        rw [Bool.eq_iff_iff]; simp only [decide_eq_true_eq]; exact ⟨Eq.symm, Eq.symm⟩
      rw [e]
      cases may s p <;> cases decide (p.f = f) <;> cases decide (p.t = q.f) <;> cases fol s (q :: r) <;> simp

theorem cvr_append (s : Shf) : ∀ (a b : List Pt) (f m t : Int), cvr s a f m = true → cvr s b m t = true → cvr s (a ++ b) f t = true := by
  intro a
  induction a with
  | nil => intro b f m t h1 h2; simp [cvr] at h1; subst h1; exact h2
  | cons p r ih =>
    intro b f m t h1 h2
    simp [cvr] at h1
    simp [cvr, h1.1, h1.2.1, ih b _ _ _ h1.2.2 h2]

theorem cvr_snoc (s : Shf) (p : Pt) : ∀ (a : List Pt) (f t : Int), cvr s (a ++ [p]) f t = true → cvr s a f p.f = true ∧ may s p = true ∧ p.t = t := by
  intro a
  induction a with
  | nil => intro f t h; simp [cvr] at h; simp [cvr, h.1, h.2.1, h.2.2]
  | cons q r ih =>
    intro f t h
    simp [cvr] at h
    obtain ⟨h1, h2, h3⟩ := ih _ _ h.2.2
    simp [cvr, h.1, h.2.1, h1, h2, h3]

theorem cvr_le (s : Shf) : ∀ (l : List Pt) (f t : Int), cvr s l f t = true → f ≤ t := by
  intro l
  induction l with
  | nil => intro f t h; simp [cvr] at h; omega
  | cons p r ih =>
    intro f t h
    simp [cvr] at h
    have := ih _ _ h.2.2
    have h1 := h.1
    unfold may at h1
    by_cases e : p.t ≤ p.f
    · rw [if_pos e] at h1; cases h1
    · omega

theorem cvr_fol {s : Shf} {l : List Pt} {f t : Int} (h : cvr s l f t = true) : fol s l = true := by
  rw [cvr_iff] at h
  by_cases e : l.length = 0
  · rw [List.length_eq_zero_iff] at e; subst e; rfl
  · rw [if_neg e] at h; simp at h; exact h.2.2

/-- the next part from a time on -/
def nxt (s : Shf) (a to : Int) : Pt :=
  if a + 60 ≤ to ∧ may s ⟨2, a, a + 60⟩ = true then ⟨2, a, a + 60⟩
  else if a + 10 ≤ to ∧ may s ⟨1, a, a + 10⟩ = true then ⟨1, a, a + 10⟩
  else if s.ft ≤ a then ⟨0, a, to⟩
  else ⟨0, a, min to (a - a % 10 + 10)⟩

/-- a part more; as a piece of the last one, if that is of its tier -/
def putP (l : List Pt) (p : Pt) : List Pt :=
  match l.getLast? with
  | some q => if q.k = p.k then l.dropLast ++ [⟨q.k, q.f, p.t⟩] else l ++ [p]
  | none => [p]

theorem putP_nil (p : Pt) : putP [] p = [p] := rfl
theorem putP_same (r : List Pt) (q p : Pt) (h : q.k = p.k) : putP (r ++ [q]) p = r ++ [⟨q.k, q.f, p.t⟩] := by simp [putP, h]
theorem putP_other (r : List Pt) (q p : Pt) (h : q.k ≠ p.k) : putP (r ++ [q]) p = r ++ [q] ++ [p] := by simp [putP, h]

theorem putP_len (l : List Pt) (p : Pt) : (putP l p).length ≤ l.length + 1 := by
  rcases snoc_or l with rfl | ⟨r, q, rfl⟩
  · simp [putP_nil]
  · by_cases h : q.k = p.k
    · rw [putP_same _ _ _ h]; simp
    · rw [putP_other _ _ _ h]; simp

def chs (s : Shf) (to : Int) : Nat → Int → List Pt → List Pt × Int
  | 0, _, out => (out, 0)
  | n + 1, a, out => if a < to then (if may s (nxt s a to) = true then chs s to n (nxt s a to).t (putP out (nxt s a to)) else ([], 10)) else (out, 0)

/-- what is chosen -/
def choose (s : Shf) (f t : Int) : List Pt × Int :=
  if swrong s ≠ 0 then ([], swrong s) else if f < 0 ∨ t < f ∨ 1000000 < t then ([], 3) else chs s t (t - f).toNat f []

theorem chs_end {s : Shf} {to : Int} {a : Int} (h : ¬ a < to) (n : Nat) (out : List Pt) : chs s to n a out = (out, 0) := by
  cases n with
  | zero => rfl
  | succ n => simp [chs, h]

theorem nxt_f (s : Shf) (a to : Int) : (nxt s a to).f = a := by
  unfold nxt
  split
  · rfl
  · split
    · rfl
    · split <;> rfl

theorem nxt_t (s : Shf) (a to : Int) : (nxt s a to).t ≤ to := by
  unfold nxt
  split
  · next h => exact h.1
  · split
    · next h => exact h.1
    · split
      · exact Int.le_refl _
      · exact Int.min_le_left _ _

theorem may_lt {s : Shf} {p : Pt} (h : may s p = true) : p.f < p.t := by
  unfold may at h
  by_cases e : p.t ≤ p.f
  · rw [if_pos e] at h; cases h
  · omega

/-- two parts of one tier, one behind the other, are one -/
theorem may_both {s : Shf} {p q : Pt} (h : may s q = true) (h' : may s p = true) (e : q.t = p.f) (k : q.k = p.k) : may s ⟨q.k, q.f, p.t⟩ = true := by
  have l1 := may_lt h
  have l2 := may_lt h'
  unfold may at *
  rw [if_neg (by omega)] at h h'
  rw [if_neg (by simp only; omega)]
  simp only
  rw [k] at h ⊢
  split at h <;> simp_all
  all_goals first | omega | skip
  split at h <;> simp_all
  all_goals first | omega | skip

/-- no two that touch are of one tier -/
def Alt (l : List Pt) : Prop := ∀ i, 0 < i → i < l.length → (pt l i).k ≠ (pt l (i - 1)).k

theorem pt_left {X Y : List Pt} {i : Nat} (h : i < X.length) : pt (X ++ Y) i = pt X i := by simp [pt, List.getD, List.getElem?_append_left h]
theorem pt_last (X : List Pt) (p : Pt) : pt (X ++ [p]) X.length = p := by simp [pt]

theorem Alt.put {l : List Pt} (h : Alt l) (p : Pt) : Alt (putP l p) := by
  rcases snoc_or l with rfl | ⟨r, q, rfl⟩
  · rw [putP_nil]; intro i h0 h1; simp at h1; omega
  · by_cases e : q.k = p.k
    · rw [putP_same _ _ _ e]
      intro i h0 h1
      have := h i h0 (by simp at h1 ⊢; omega)
      by_cases e1 : i = r.length
      · subst e1
        rw [pt_last] at this ⊢
        rw [pt_left (by omega)] at this ⊢
        exact this
      · simp at h1
        rw [pt_left (by omega), pt_left (by omega)] at this ⊢
        exact this
    · rw [putP_other _ _ _ e]
      intro i h0 h1
      by_cases e1 : i = (r ++ [q]).length
      · subst e1
        rw [pt_last, pt_left (by simp)]
        rw [show (r ++ [q]).length - 1 = r.length by simp, pt_last]
        exact fun c => e c.symm
      · have hl : i < (r ++ [q]).length := by
          have h1' : i < ((r ++ [q]) ++ [p]).length := h1
          rw [List.length_append] at h1'
          simp only [List.length_singleton] at h1'
          omega
        rw [pt_left hl, pt_left (X := r ++ [q]) (Y := [p]) (i := i - 1) (by omega)]
        exact h i h0 hl

theorem cvr_put {s : Shf} {l : List Pt} {f : Int} {p : Pt} (h : cvr s l f p.f = true) (hp : may s p = true) : cvr s (putP l p) f p.t = true := by
  rcases snoc_or l with rfl | ⟨r, q, rfl⟩
  · rw [putP_nil]; simp [cvr] at h; simp [cvr, hp, h]
  · obtain ⟨h1, h2, h3⟩ := cvr_snoc s q r f p.f h
    by_cases e : q.k = p.k
    · rw [putP_same _ _ _ e]
      refine cvr_append s r _ f q.f p.t h1 ?_
      simp [cvr, may_both h2 hp h3 e]
    · rw [putP_other _ _ _ e]
      exact cvr_append s _ [p] f p.f p.t h (by simp [cvr, hp])

theorem chs_all {s : Shf} {f to : Int} : ∀ (n : Nat) (a : Int) (out : List Pt), cvr s out f a = true → Alt out → a ≤ to → (to - a).toNat ≤ n →
    ((chs s to n a out).2 = 0 → cvr s (chs s to n a out).1 f to = true ∧ Alt (chs s to n a out).1) ∧ ((chs s to n a out).2 ≠ 0 → (chs s to n a out).1 = [] ∧ (chs s to n a out).2 = 10) := by
  intro n
  induction n with
  | zero =>
    intro a out h1 h2 h3 h4
    obtain rfl : a = to := by omega
    rw [chs]
    exact ⟨fun _ => ⟨h1, h2⟩, fun c => absurd rfl c⟩
  | succ n ih =>
    intro a out h1 h2 h3 h4
    by_cases e : a < to
    · rw [chs, if_pos e]
      by_cases m : may s (nxt s a to) = true
      · rw [if_pos m]
        have e1 := nxt_f s a to
        have e2 := nxt_t s a to
        have e3 := may_lt m
        refine ih _ _ (cvr_put (by rw [e1]; exact h1) m) (h2.put _) e2 (by omega)
      · rw [if_neg m]
        exact ⟨fun c => absurd c (by decide), fun _ => ⟨rfl, rfl⟩⟩
    · rw [chs_end e]
      obtain rfl : a = to := by omega
      exact ⟨fun _ => ⟨h1, h2⟩, fun c => absurd rfl c⟩

theorem choose_ok {s : Shf} {f t : Int} (h : (choose s f t).2 = 0) : cvr s (choose s f t).1 f t = true ∧ Alt (choose s f t).1 ∧ swrong s = 0 := by
  unfold choose at *
  by_cases h0 : swrong s = 0
  · rw [if_neg (by simp [h0])] at *
    by_cases h1 : f < 0 ∨ t < f ∨ 1000000 < t
    · rw [if_pos h1] at h; exact absurd h (by decide)
    · rw [if_neg h1] at *
      have := (chs_all (s := s) (f := f) (to := t) (t - f).toNat f [] (by simp [cvr]) (fun i a b => by simp at b) (by omega) (Nat.le_refl _)).1 h
      exact ⟨this.1, this.2, h0⟩
  · rw [if_pos h0] at h; exact absurd h h0

theorem choose_no {s : Shf} {f t : Int} (h : (choose s f t).2 ≠ 0) : (choose s f t).1 = [] := by
  unfold choose at *
  by_cases h0 : swrong s = 0
  · rw [if_neg (by simp [h0])] at *
    by_cases h1 : f < 0 ∨ t < f ∨ 1000000 < t
    · rw [if_pos h1]
    · rw [if_neg h1] at *
      exact ((chs_all (s := s) (f := f) (to := t) (t - f).toNat f [] (by simp [cvr]) (fun i a b => by simp at b) (by omega) (Nat.le_refl _)).2 h).1
  · rw [if_pos h0]

theorem choose_gone {s : Shf} {f t : Int} (h0 : swrong s = 0) (h1 : 0 ≤ f) (h2 : f ≤ t) (h3 : t ≤ 1000000) (h : (choose s f t).2 ≠ 0) : (choose s f t).2 = 10 := by
  unfold choose at *
  rw [if_neg (by simp [h0]), if_neg (by omega)] at *
  exact ((chs_all (s := s) (f := f) (to := t) (t - f).toNat f [] (by simp [cvr]) (fun i a b => by simp at b) (by omega) (Nat.le_refl _)).2 h).2

/-- what a part comes to, and how many that are -/
def psum (s : Shf) (p : Pt) : Sm := if p.k = 1 then inB s.fi p.f p.t else if p.k = 2 then inB s.co p.f p.t else of (win s.ra p.f p.t)
def pcost (s : Shf) (p : Pt) : Nat := if p.k = 1 then (winB s.fi p.f p.t).length else if p.k = 2 then (winB s.co p.f p.t).length else (win s.ra p.f p.t).length

def rdS (s : Shf) (l : List Pt) : Sm := l.foldl (fun a p => join a (psum s p)) zero
def rdN (s : Shf) (l : List Pt) : Nat := l.foldl (fun a p => a + pcost s p) 0

theorem rdS_snoc (s : Shf) (l : List Pt) (p : Pt) : rdS s (l ++ [p]) = join (rdS s l) (psum s p) := by simp [rdS]
theorem rdN_snoc (s : Shf) (l : List Pt) (p : Pt) : rdN s (l ++ [p]) = rdN s l + pcost s p := by simp [rdN]
theorem take_pt {l : List Pt} {k : Nat} (h : k < l.length) : l.take (k + 1) = l.take k ++ [pt l k] := by
  rw [List.take_add_one, List.getElem?_eq_getElem h]
  simp [pt, List.getD, List.getElem?_eq_getElem h]

/-- what parts come to, how many that are, what is wrong -/
def read (s : Shf) (l : List Pt) : Sm × Int × Int :=
  if swrong s ≠ 0 then (zero, 0, swrong s) else if fol s l = false then (zero, 0, 8) else (rdS s l, (rdN s l : Int), 0)

end Grain
