/-
  The plain mathematics of what never falls: it rises by the last one less the first one. No program is named here.
-/
import Derived.Test.YthbllehncjeolabSum
namespace Grain

/-- the sum of the first k numbers -/
def ac (l : List Int) : Nat → Int
  | 0 => 0
  | k + 1 => ac l k + l.getD k 0

/-- the samples that the first k numbers make -/
def sm (l : List Int) : Nat → List (Int × Int)
  | 0 => []
  | k + 1 => sm l k ++ [(((k : Nat) : Int), ac l (k + 1))]

theorem sm_len (l : List Int) (k : Nat) : (sm l k).length = k := by
  induction k with
  | zero => rfl
  | succ k ih => simp [sm, ih]

theorem sm_vl (l : List Int) : ∀ k j, j < k → vl (sm l k) j = ac l (j + 1) := by
  intro k
  induction k with
  | zero => intro j hj; omega
  | succ k ih =>
    intro j hj
    have hl := sm_len l k
    rcases Nat.lt_or_ge j k with h | h
    · rw [← ih j h]
      simp [sm, vl, List.getD, List.getElem?_append_left (show j < (sm l k).length by omega)]
    · have : j = k := by omega
      subst this
      simp [sm, vl, List.getD, hl]

/-- all are at least 0, and at most 1000 -/
def Ok (l : List Int) (k : Nat) : Prop := ∀ j, j < k → 0 ≤ l.getD j 0 ∧ l.getD j 0 ≤ 1000

theorem ac_bd (l : List Int) : ∀ k, Ok l k → 0 ≤ ac l k ∧ ac l k ≤ 1000 * k := by
  intro k
  induction k with
  | zero => intro _; simp [ac]
  | succ k ih =>
    intro h
    have h1 := ih (fun j hj => h j (by omega))
    have h2 := h k (by omega)
    simp only [ac]
    omega

theorem ac_up (l : List Int) (k : Nat) (h : Ok l (k + 1)) : ac l k ≤ ac l (k + 1) := by
  have := h k (by omega)
  simp only [ac]
  omega

theorem ac_first (l : List Int) : ∀ k, Ok l (k + 1) → ac l 1 ≤ ac l (k + 1) := by
  intro k
  induction k with
  | zero => intro _; exact Int.le_refl _
  | succ k ih =>
    intro h
    have h1 := ih (fun j hj => h j (by omega))
    have h2 := ac_up l (k + 1) h
    omega

/-- what such samples come to -/
theorem rise_of (l : List Int) (n : Nat) : ∀ k, k + 1 ≤ n → k + 1 ≤ 1001 → Ok l (k + 1) →
    (ofN (sm l n) (k + 1)).c = ((k + 1 : Nat) : Int) ∧ (ofN (sm l n) (k + 1)).f = ac l 1 ∧ (ofN (sm l n) (k + 1)).l = ac l (k + 1) ∧ (ofN (sm l n) (k + 1)).r = ac l (k + 1) - ac l 1 := by
  intro k
  induction k with
  | zero =>
    intro hn _ _
    have e : ofN (sm l n) (0 + 1) = one (ac l 1) := by
      rw [ofN, ofN, join_zero_left _ _ rfl, sm_vl l n 0 (by omega)]
    rw [e]
    exact ⟨rfl, rfl, rfl, by simp [one]⟩
  | succ k ih =>
    intro hn hk h
    obtain ⟨i1, i2, i3, i4⟩ := ih (by omega) (by omega) (fun j hj => h j (by omega))
    have b1 := ac_bd l (k + 1) (fun j hj => h j (by omega))
    have b2 := ac_bd l (k + 1 + 1) h
    have b3 := ac_bd l 1 (fun j hj => h j (by omega))
    have u := ac_up l (k + 1) h
    have e : vl (sm l n) (k + 1) = ac l (k + 1 + 1) := sm_vl l n (k + 1) (by omega)
    have hc := ofN_c (sm l n) (k + 1 + 1) (by omega)
    rw [ofN, e]
    rw [ofN, e] at hc
    refine ⟨hc, ?_, ?_, ?_⟩
    · rw [join_full _ _ (by omega) (by simp [one])]; exact i2
    · rw [join_full _ _ (by omega) (by simp [one])]; rfl
    · rw [join_full _ _ (by omega) (by simp [one])]
      show wr (wr ((ofN (sm l n) (k + 1)).r + rise (ofN (sm l n) (k + 1)).l (ac l (k + 1 + 1))) + 0) = _
      rw [i3, i4]
      have hr : rise (ac l (k + 1)) (ac l (k + 1 + 1)) = ac l (k + 1 + 1) - ac l (k + 1) := by
        unfold rise
        rw [if_neg (by omega), wr_in (by omega) (by omega)]
      rw [hr]
      simp only [wr_eq]
      omega

theorem rise_one (l : List Int) (n : Nat) (h0 : 1 ≤ n) (h1 : n ≤ 1001) (h : Ok l n) : (of (sm l n)).r = ac l n - ac l 1 := by
  obtain ⟨k, rfl⟩ : ∃ k, n = k + 1 := ⟨n - 1, by omega⟩
  unfold of
  rw [sm_len]
  exact (rise_of l (k + 1) k (Nat.le_refl _) (by omega) h).2.2.2

theorem rise_two (a b : List Int) (n m : Nat) (n0 : 1 ≤ n) (n1 : n ≤ 1001) (m0 : 1 ≤ m) (m1 : m ≤ 1001) (ha : Ok a n) (hb : Ok b m) (hlt : ac b 1 < ac a n) :
    (of (sm a n ++ sm b m)).r = ac a n - ac a 1 + ac b m := by
  obtain ⟨k, rfl⟩ : ∃ k, n = k + 1 := ⟨n - 1, by omega⟩
  obtain ⟨j, rfl⟩ : ∃ j, m = j + 1 := ⟨m - 1, by omega⟩
  have la := sm_len a (k + 1)
  have lb := sm_len b (j + 1)
  rw [of_append _ _ (by omega) (by omega)]
  have ea : of (sm a (k + 1)) = ofN (sm a (k + 1)) (k + 1) := by unfold of; rw [la]
  have eb : of (sm b (j + 1)) = ofN (sm b (j + 1)) (j + 1) := by unfold of; rw [lb]
  obtain ⟨a1, a2, a3, a4⟩ := rise_of a (k + 1) k (Nat.le_refl _) (by omega) ha
  obtain ⟨b1, b2, b3, b4⟩ := rise_of b (j + 1) j (Nat.le_refl _) (by omega) hb
  have p1 := ac_bd a (k + 1) ha
  have p2 := ac_bd a 1 (fun i hi => ha i (by omega))
  have p3 := ac_bd b (j + 1) hb
  have p4 := ac_bd b 1 (fun i hi => hb i (by omega))
  have p5 := ac_first a k ha
  have p6 := ac_first b j hb
  rw [ea, eb, join_full _ _ (by omega) (by omega)]
  show wr (wr ((ofN (sm a (k + 1)) (k + 1)).r + rise (ofN (sm a (k + 1)) (k + 1)).l (ofN (sm b (j + 1)) (j + 1)).f) + (ofN (sm b (j + 1)) (j + 1)).r) = _
  rw [a3, a4, b2, b4]
  have hr : rise (ac a (k + 1)) (ac b 1) = ac b 1 := by unfold rise; rw [if_pos hlt]
  rw [hr]
  simp only [wr_eq]
  omega

end Grain
