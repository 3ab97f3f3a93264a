namespace Grain
def tm (l : List (Int × Int)) (k : Nat) : Int := (l.getD k (0, 0)).1
def vl (l : List (Int × Int)) (k : Nat) : Int := (l.getD k (0, 0)).2
def inR (t v : Int) : Bool := decide (0 ≤ t ∧ t ≤ 1000000 ∧ -1000000000 ≤ v ∧ v ≤ 1000000000)
def bad (l : List (Int × Int)) (k : Nat) : Int :=
 if inR (tm l k) (vl l k) = false then 3 else if 0 < k ∧ tm l k ≤ tm l (k - 1) then 2 else 0
def wrongF (l : List (Int × Int)) : Nat → Nat → Int × Int
 | 0, _ => (0, 0)
 | n + 1, k => if bad l k = 0 then wrongF l n (k + 1) else (bad l k, k)
def wrong (l : List (Int × Int)) : Int × Int := if 500 < l.length then (5, 0) else wrongF l l.length 0
theorem wrongF_ok {l : List (Int × Int)} {n k : Nat} (h : bad l k = 0) : wrongF l (n + 1) k = wrongF l n (k + 1) := by simp [wrongF, h]
theorem wrongF_no {l : List (Int × Int)} {n k : Nat} (h : bad l k ≠ 0) : wrongF l (n + 1) k = (bad l k, (k : Int)) := by simp [wrongF, h]
structure Right (l : List (Int × Int)) : Prop where
 few : l.length ≤ 500
 rng : ∀ k, k < l.length → 0 ≤ tm l k ∧ tm l k ≤ 1000000 ∧ -1000000000 ≤ vl l k ∧ vl l k ≤ 1000000000
 rise : ∀ k, k + 1 < l.length → tm l k < tm l (k + 1)
theorem bad_zero {l : List (Int × Int)} {k : Nat} (h : bad l k = 0) : inR (tm l k) (vl l k) = true ∧ (0 < k → tm l (k - 1) < tm l k) := by
 unfold bad at h
 split at h
 ·simp at h
 ·rename_i h1
  split at h
  ·simp at h
  ·rename_i h2
   refine ⟨by simpa using h1, fun hk => ?_⟩
   rcases Int.lt_or_le (tm l (k - 1)) (tm l k) with h3 | h3
   ·exact h3
   ·exact absurd ⟨hk, h3⟩ h2
theorem wrongF_zero (l : List (Int × Int)) (n : Nat) : ∀ k, (wrongF l n k).1 = 0 → ∀ j, k ≤ j → j < k + n → bad l j = 0 := by
 induction n with
 | zero => intro k _ j h1 h2; omega
 | succ n ih =>
  intro k h j h1 h2
  by_cases hb : bad l k = 0
  ·rw [wrongF_ok hb] at h
   rcases Nat.lt_or_ge k j with h3 | h3
   ·exact ih (k + 1) h j h3 (by omega)
   ·rw [show j = k from by omega]; exact hb
  ·rw [wrongF_no hb] at h; exact absurd h hb
theorem right_of {l : List (Int × Int)} (h : (wrong l).1 = 0) : Right l := by
 unfold wrong at h
 by_cases h5 : 500 < l.length
 ·simp [h5] at h
 ·simp only [h5, if_false] at h
  have hb : ∀ j, j < l.length → _ := fun j hj => bad_zero (wrongF_zero l l.length 0 h j (Nat.zero_le _) (by omega))
  refine ⟨by omega, fun k hk => ?_, fun k hk => ?_⟩
  ·have := (hb k hk).1; simp [inR] at this; omega
  ·have := (hb (k + 1) hk).2 (by omega); simpa using this
/-! ### numbers read -/
theorem steps_lt (f : Nat → Int) (n : Nat) (h : ∀ k, k + 1 < n → f k < f (k + 1)) : ∀ d i, i + d + 1 < n → f i < f (i + d + 1) := by
 intro d
 induction d with
 | zero => intro i hi; exact h i hi
 | succ d ih =>
  intro i hi
  have h1 := ih i (by omega)
  have h2 := h (i + d + 1) (by omega)
  rw [show i + (d + 1) + 1 = i + d + 1 + 1 from by omega]
  omega
theorem tm_get {l : List (Int × Int)} {k : Nat} (h : k < l.length) : tm l k = l[k].1 ∧ vl l k = l[k].2 := by simp [tm, vl, List.getD, List.getElem?_eq_getElem h]
theorem right_iff (l : List (Int × Int)) : (wrong l).1 = 0 ↔ l.length ≤ 500 ∧ (∀ x ∈ l, inR x.1 x.2 = true) ∧ l.Pairwise (fun x y => x.1 < y.1) := by
 constructor
 ·intro h
  have hr := right_of h
  refine ⟨hr.few, fun x hx => ?_, List.pairwise_iff_getElem.2 fun i j hi hj hij => ?_⟩
  ·obtain ⟨k, hk, rfl⟩ := List.mem_iff_getElem.1 hx
   have := hr.rng k hk
   rw [(tm_get hk).1, (tm_get hk).2] at this
   simp only [inR, decide_eq_true_eq]
   exact this
  ·obtain ⟨d, rfl⟩ : ∃ d, j = i + d + 1 := ⟨j - i - 1, by omega⟩
   have := steps_lt (tm l) l.length hr.rise d i hj
   rwa [(tm_get hi).1, (tm_get hj).1] at this
 ·rintro ⟨h1, h2, h3⟩
  rw [List.pairwise_iff_getElem] at h3
  unfold wrong
  rw [if_neg (by omega)]
  have key : ∀ n k, k + n ≤ l.length → wrongF l n k = (0, 0) := by
   intro n
   induction n with
   | zero => intro k _; rfl
   | succ n ih =>
    intro k hk
    rw [wrongF_ok, ih (k + 1) (by omega)]
    have hk' : k < l.length := by omega
    have e := h2 _ (List.getElem_mem hk')
    unfold bad
    rw [(tm_get hk').1, (tm_get hk').2, if_neg (by simp [e]), if_neg]
    rintro ⟨p, q⟩
    have := h3 (k - 1) k (by omega) hk' (by omega)
    rw [(tm_get (k := k - 1) (by omega)).1] at q
    omega
  rw [key _ 0 (by omega)]
end Grain
