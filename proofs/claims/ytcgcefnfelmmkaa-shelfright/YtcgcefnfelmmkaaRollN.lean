/-
  The plain mathematics of right buckets. No program is named here.
-/
import Derived.Test.YtcgcefnfelmmkaaRollM
namespace Grain

/-- a bucket is in range -/
def inRB (b : Bk) (st : Int) : Bool := decide (0 ≤ b.a ∧ b.a ≤ 1000000 ∧ b.a % st = 0 ∧ 1 ≤ b.s.c ∧ b.s.c ≤ st)

/-- what is wrong with bucket k: 3, 2, or 0 -/
def badB (B : List Bk) (st : Int) (k : Nat) : Int :=
  if inRB (bk B k) st = false then 3 else if 0 < k ∧ (bk B k).a ≤ (bk B (k - 1)).a then 2 else 0

/-- what is wrong with the buckets from k on, n of them -/
def wrongBF (B : List Bk) (st : Int) : Nat → Nat → Int × Int
  | 0, _ => (0, 0)
  | n + 1, k => if badB B st k = 0 then wrongBF B st n (k + 1) else (badB B st k, k)

/-- what is wrong with buckets of a step, and at which -/
def wrongB (B : List Bk) (st : Int) : Int × Int := if st = 0 then (1, 0) else if 500 < B.length then (5, 0) else wrongBF B st B.length 0

theorem wrongBF_ok {B : List Bk} {st : Int} {n k : Nat} (h : badB B st k = 0) : wrongBF B st (n + 1) k = wrongBF B st n (k + 1) := by simp [wrongBF, h]
theorem wrongBF_no {B : List Bk} {st : Int} {n k : Nat} (h : badB B st k ≠ 0) : wrongBF B st (n + 1) k = (badB B st k, (k : Int)) := by simp [wrongBF, h]

/-- right buckets of a step -/
structure RB (B : List Bk) (st : Int) : Prop where
  rng : ∀ k, k < B.length → inRB (bk B k) st = true
  rise : ∀ k, k + 1 < B.length → (bk B k).a < (bk B (k + 1)).a

theorem badB_zero {B : List Bk} {st : Int} {k : Nat} (h : badB B st k = 0) : inRB (bk B k) st = true ∧ (0 < k → (bk B (k - 1)).a < (bk B k).a) := by
  unfold badB at h
  split at h
  · simp at h
  · rename_i h1
    split at h
    · simp at h
    · rename_i h2
      refine ⟨by simpa using h1, fun hk => ?_⟩
      rcases Int.lt_or_le (bk B (k - 1)).a (bk B k).a with h3 | h3
      · exact h3
      · exact absurd ⟨hk, h3⟩ h2

theorem wrongBF_zero (B : List Bk) (st : Int) (n : Nat) : ∀ k, (wrongBF B st n k).1 = 0 → ∀ j, k ≤ j → j < k + n → badB B st j = 0 := by
  induction n with
  | zero => intro k _ j h1 h2; omega
  | succ n ih =>
    intro k h j h1 h2
    by_cases hb : badB B st k = 0
    · rw [wrongBF_ok hb] at h
      rcases (show j = k ∨ k + 1 ≤ j from by omega) with e | e
      · subst e; exact hb
      · exact ih (k + 1) h j e (by omega)
    · rw [wrongBF_no hb] at h
      exact absurd h hb

theorem wrongBF_all (B : List Bk) (st : Int) (n : Nat) : ∀ k, (∀ j, k ≤ j → j < k + n → badB B st j = 0) → wrongBF B st n k = (0, 0) := by
  induction n with
  | zero => intro k _; rfl
  | succ n ih => intro k h; rw [wrongBF_ok (h k (by omega) (by omega))]; exact ih _ (fun j h1 h2 => h j (by omega) (by omega))

theorem rb_of {B : List Bk} {st : Int} (h : (wrongB B st).1 = 0) : st ≠ 0 ∧ B.length ≤ 500 ∧ RB B st := by
  unfold wrongB at h
  by_cases h0 : st = 0
  · simp [h0] at h
  · by_cases h5 : 500 < B.length
    · simp [h0, h5] at h
    · simp only [h0, h5, if_false] at h
      have hb : ∀ j, j < B.length → _ := fun j hj => badB_zero (wrongBF_zero B st B.length 0 h j (Nat.zero_le _) (by omega))
      refine ⟨h0, by omega, fun k hk => (hb k hk).1, fun k hk => ?_⟩
      have := (hb (k + 1) hk).2 (by omega)
      simpa using this

theorem wrongB_of {B : List Bk} {st : Int} (h0 : st ≠ 0) (h5 : B.length ≤ 500) (h : RB B st) : wrongB B st = (0, 0) := by
  unfold wrongB
  rw [if_neg h0, if_neg (by omega)]
  refine wrongBF_all B st _ 0 (fun j _ hj => ?_)
  have hr := h.rng j (by omega)
  unfold badB
  rw [if_neg (by simp [hr]), if_neg]
  rintro ⟨h1, h2⟩
  have := h.rise (j - 1) (by omega)
  rw [show j - 1 + 1 = j from by omega] at this
  omega

theorem wrongBF_snd (B : List Bk) (st : Int) (n : Nat) : ∀ k, (wrongBF B st n k).1 = 0 → wrongBF B st n k = (0, 0) := by
  intro k h
  exact wrongBF_all B st n k (wrongBF_zero B st n k h)

theorem bk_left {X : List Bk} {b : Bk} {k : Nat} (h : k < X.length) : bk (X ++ [b]) k = bk X k := by simp [bk, List.getD, List.getElem?_append_left h]
theorem bk_last (X : List Bk) (b : Bk) : bk (X ++ [b]) X.length = b := by simp [bk]
theorem bk_mem {X : List Bk} {k : Nat} (h : k < X.length) : bk X k ∈ X := by simp [bk, List.getD, List.getElem?_eq_getElem h]

theorem RB.nil (st : Int) : RB [] st := ⟨fun k h => by simp at h, fun k h => by simp at h⟩

theorem RB.snoc {X : List Bk} {b : Bk} {st : Int} (h : RB X st) (hb : inRB b st = true) (hr : ∀ R c, X = R ++ [c] → c.a < b.a) : RB (X ++ [b]) st := by
  constructor
  · intro k hk
    simp at hk
    rcases (show k < X.length ∨ k = X.length from by omega) with e | e
    · rw [bk_left e]; exact h.rng k e
    · subst e; rw [bk_last]; exact hb
  · intro k hk
    simp at hk
    rcases (show k + 1 < X.length ∨ k + 1 = X.length from by omega) with e | e
    · rw [bk_left e, bk_left (by omega)]; exact h.rise k e
    · rw [e, bk_last, bk_left (by omega)]
      rcases snoc_or X with rfl | ⟨R, c, rfl⟩
      · simp at e
      · simp at e
        subst e
        rw [bk_last]
        exact hr R c rfl

theorem RB.head {X : List Bk} {b : Bk} {st : Int} (h : RB (X ++ [b]) st) : RB X st ∧ inRB b st = true ∧ ∀ R c, X = R ++ [c] → c.a < b.a := by
  refine ⟨⟨fun k hk => ?_, fun k hk => ?_⟩, ?_, fun R c e => ?_⟩
  · have := h.rng k (by simp; omega); rw [bk_left hk] at this; exact this
  · have := h.rise k (by simp; omega); rw [bk_left hk, bk_left (by omega)] at this; exact this
  · have := h.rng X.length (by simp); rw [bk_last] at this; exact this
  · subst e
    have := h.rise R.length (by simp)
    have e2 : R.length + 1 = (R ++ [c]).length := by simp
    rw [bk_left (by simp), bk_last, e2, bk_last] at this
    exact this

/-- samples whose times are in range, and rise -/
structure Tim (l : List (Int × Int)) : Prop where
  rng : ∀ x ∈ l, 0 ≤ x.1 ∧ x.1 ≤ 1000000
  rise : ∀ r x y, (∃ q, l = r ++ [x] ++ [y] ++ q) → x.1 < y.1

theorem Tim.head {l : List (Int × Int)} {x : Int × Int} (h : Tim (l ++ [x])) : Tim l ∧ (0 ≤ x.1 ∧ x.1 ≤ 1000000) ∧ ∀ r y, l = r ++ [y] → y.1 < x.1 := by
  refine ⟨⟨fun y hy => h.rng y (by simp [hy]), fun r a b ⟨q, e⟩ => h.rise r a b ⟨q ++ [x], by rw [e]; simp⟩⟩, h.rng x (by simp), fun r y e => h.rise r y x ⟨[], by rw [e]; simp⟩⟩

theorem tm_mid (r q : List (Int × Int)) (x : Int × Int) : tm (r ++ x :: q) r.length = x.1 := by simp [tm]

theorem Right.tim {l : List (Int × Int)} (h : Right l) : Tim l := by
  constructor
  · intro x hx
    obtain ⟨k, hk, rfl⟩ := List.mem_iff_getElem.1 hx
    have := h.rng k hk
    simp [tm, List.getD, List.getElem?_eq_getElem hk] at this
    omega
  · intro r x y ⟨q, e⟩
    subst e
    have := h.rise r.length (by simp)
    have e1 : tm (r ++ [x] ++ [y] ++ q) r.length = x.1 := by
      rw [show r ++ [x] ++ [y] ++ q = r ++ x :: (y :: q) from by simp]; exact tm_mid _ _ _
    have e2 : tm (r ++ [x] ++ [y] ++ q) (r.length + 1) = y.1 := by
      rw [show r ++ [x] ++ [y] ++ q = (r ++ [x]) ++ y :: q from by simp, show r.length + 1 = (r ++ [x]).length from by simp]; exact tm_mid _ _ _
    rw [e1, e2] at this
    exact this

theorem put_ne (X : List Bk) (A : Int) (s : Sm) : ∃ R q, put X A s = R ++ [⟨A, q⟩] := by
  rcases put_cases X A with ho | ⟨R, q, rfl⟩
  · exact ⟨X, s, put_off ho s⟩
  · exact ⟨R, join q s, put_same R A q s⟩

/-- the buckets of right samples are right ones; the last one is the last sample's -/
theorem up_rb {st : Int} (hst : st = 10 ∨ st = 60) : ∀ l : List (Int × Int), Tim l → l.length ≤ 1000000 → RB (up l st) st ∧ ∀ r x, l = r ++ [x] → ∃ R q, up l st = R ++ [⟨beg x.1 st, q⟩] ∧ 1 ≤ q.c ∧ q.c ≤ x.1 - beg x.1 st + 1 := by
  refine snoc_ind ?_ ?_
  · intro _ _
    exact ⟨RB.nil st, fun r x e => by simp at e⟩
  · intro l x ih h hl
    obtain ⟨h1, h2, h3⟩ := h.head
    simp at hl
    obtain ⟨i1, i2⟩ := ih h1 (by omega)
    have hf := up_fit st l (by omega)
    have hbeg : 0 ≤ beg x.1 st ∧ beg x.1 st ≤ 1000000 ∧ beg x.1 st % st = 0 ∧ 0 ≤ x.1 - beg x.1 st ∧ x.1 - beg x.1 st + 1 ≤ st := by
      unfold beg; rcases hst with e | e <;> subst e <;> omega
    rw [up_snoc]
    have key : ∃ R q, put (up l st) (beg x.1 st) (one x.2) = R ++ [⟨beg x.1 st, q⟩] ∧ 1 ≤ q.c ∧ q.c ≤ x.1 - beg x.1 st + 1 ∧ RB R st ∧ ∀ R' c, R = R' ++ [c] → c.a < beg x.1 st := by
      rcases put_cases (up l st) (beg x.1 st) with ho | ⟨R, q, e⟩
      · refine ⟨_, _, put_off ho _, by simp [one], by simp [one]; omega, i1, fun R' c e => ?_⟩
        rcases snoc_or l with rfl | ⟨r, y, rfl⟩
        · simp [up] at e
        · obtain ⟨R2, q2, e2, _, _⟩ := i2 r y rfl
          rw [e2] at e
          have hc := (List.append_inj' e rfl).2
          simp at hc
          subst hc
          have hy := h3 r y rfl
          have hne := ho _ _ e2
          simp only at hne ⊢
          unfold beg at hne ⊢
          rcases hst with e | e <;> subst e <;> omega
      · rcases snoc_or l with rfl | ⟨r, y, rfl⟩
        · simp [up] at e
        · obtain ⟨R2, q2, e2, c1, c2⟩ := i2 r y rfl
          rw [e2] at e
          have hc := (List.append_inj' e rfl)
          obtain ⟨hR, hc⟩ := hc
          simp at hc
          obtain ⟨ha, rfl⟩ := hc
          subst hR
          have hy := h3 r y rfl
          rw [e2] at i1 hf
          rw [e2, ha, put_same]
          obtain ⟨j1, j2, j3⟩ := i1.head
          obtain ⟨f1, f2, f3⟩ := hf.head
          simp only at f2 f3 j3
          simp only [List.length_append, List.length_cons, List.length_nil] at f3 hl
          have hj : (join q2 (one x.2)).c = q2.c + 1 := join_c (by omega) (by simp [one]) (by simp [one]; omega)
          rw [ha] at c2 j3
          exact ⟨R2, _, rfl, by omega, by omega, j1, j3⟩
    obtain ⟨R, q, e, k1, k2, k3, k4⟩ := key
    refine ⟨?_, fun r y e' => ?_⟩
    · rw [e]
      refine k3.snoc ?_ k4
      simp only [inRB, decide_eq_true_eq]
      omega
    · have := (List.append_inj' e' rfl).2
      simp at this
      subst this
      exact ⟨R, q, e, k1, k2⟩

theorem inRB_get {b : Bk} {st : Int} (h : inRB b st = true) : 0 ≤ b.a ∧ b.a ≤ 1000000 ∧ b.a % st = 0 ∧ 1 ≤ b.s.c ∧ b.s.c ≤ st := by simpa [inRB] using h

/-- the buckets of right samples -/
theorem Right.up {l : List (Int × Int)} (h : Right l) {st : Int} (hst : st = 10 ∨ st = 60) : RB (up l st) st ∧ (up l st).length ≤ 500 ∧ Fit (up l st) l.length := by
  have h5 := h.few
  have hf := up_fit st l (by omega)
  have hl := hf.len
  exact ⟨(up_rb hst l h.tim (by omega)).1, by omega, hf⟩

end Grain
