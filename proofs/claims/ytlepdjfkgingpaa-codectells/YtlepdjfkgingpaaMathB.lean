/-
  The plain mathematics behind CodecEven and CodecMoved: how many bytes samples take.
-/
import Derived.Test.YtlepdjfkgingpaaMath
namespace Grain

/-- samples that are so many apart, and have the same value -/
def ev (a s v : Int) (n : Nat) : List (Int × Int) := (List.range n).map fun i : Nat => (a + (i : Int) * s, v)

theorem ev_len (a s v : Int) (n : Nat) : (ev a s v n).length = n := by simp [ev]
theorem ev_succ (a s v : Int) (n : Nat) : ev a s v (n + 1) = ev a s v n ++ [(a + n * s, v)] := by simp [ev, List.range_succ]
theorem ev_tm {a s v : Int} {n k : Nat} (h : k < n) : tm (ev a s v n) k = a + k * s ∧ vl (ev a s v n) k = v := by
  simp [tm, vl, ev, List.getD, h]
theorem ev_take {a s v : Int} {n : Nat} (h : 2 ≤ n) : (ev a s v n).take 2 = ev a s v 2 := by
  obtain ⟨m, rfl⟩ : ∃ m, n = m + 2 := ⟨n - 2, by omega⟩
  induction m with
  | zero => simp [ev]; rfl
  | succ m ih => rw [ev_succ, List.take_append_of_le_length (by rw [ev_len]; omega), ih (by omega)]

theorem wrongF_all (l : List (Int × Int)) (n : Nat) : ∀ k, (∀ j, k ≤ j → j < k + n → bad l j = 0) → wrongF l n k = (0, 0) := by
  induction n with
  | zero => intro k _; rfl
  | succ n ih => intro k h; rw [wrongF_ok (h k (by omega) (by omega))]; exact ih _ (fun j h1 h2 => h j (by omega) (by omega))

theorem wrong_of_right {l : List (Int × Int)} (h : Right l) : wrong l = (0, 0) := by
  unfold wrong
  rw [if_neg (by have := h.few; omega)]
  refine wrongF_all l _ 0 (fun j _ hj => ?_)
  have hr := h.rng j (by omega)
  unfold bad
  rw [if_neg (by simp [inR]; omega), if_neg]
  rintro ⟨h1, h2⟩
  have := h.rise (j - 1) (by omega)
  rw [show j - 1 + 1 = j from by omega] at this
  omega

theorem ev_right {a s v : Int} {n : Nat} (ha : 0 ≤ a) (ha' : a ≤ 100000) (hs : 1 ≤ s) (hs' : s ≤ 1000) (hn : n ≤ 100) (hv : -1000 ≤ v) (hv' : v ≤ 1000) : Right (ev a s v n) := by
  refine ⟨by rw [ev_len]; omega, fun k hk => ?_, fun k hk => ?_⟩
  · rw [ev_len] at hk
    obtain ⟨e1, e2⟩ := ev_tm (a := a) (s := s) (v := v) hk
    have h1 : (k : Int) * s ≤ 100 * 1000 := Int.mul_le_mul (by omega) hs' (by omega) (by omega)
    have h2 : 0 ≤ (k : Int) * s := Int.mul_nonneg (by omega) (by omega)
    rw [e1, e2]
    omega
  · rw [ev_len] at hk
    rw [(ev_tm (a := a) (s := s) (v := v) hk).1, (ev_tm (a := a) (s := s) (v := v) (show k < n by omega)).1]
    have : ((k + 1 : Nat) : Int) * s = (k : Int) * s + s := by rw [Int.natCast_add, Int.add_mul]; omega
    omega

/-- how many bytes sample k takes -/
def plen (l : List (Int × Int)) (k : Nat) : Nat := (num (tm l k - tp l k - sp l k)).length + (num (vl l k - vp l k)).length

theorem upTo_succ_len (l : List (Int × Int)) (k : Nat) : (upTo l (k + 1)).length = (upTo l k).length + plen l k := by simp [upTo, plen]

theorem num_zero : num 0 = [0] := by decide +kernel

theorem ev_tp {a s v : Int} {n k : Nat} (h : k < n) : tp (ev a s v n) k = (if k = 0 then 0 else a + (k - 1) * s) ∧ vp (ev a s v n) k = (if k = 0 then 0 else v) := by
  match k with
  | 0 => simp [tp, vp]
  | k + 1 =>
    have := ev_tm (a := a) (s := s) (v := v) (n := n) (k := k) (by omega)
    simp [tp, vp, this.1, this.2]

theorem ev_plen {a s v : Int} {n k : Nat} (h : k < n) (hk : 2 ≤ k) : plen (ev a s v n) k = 2 := by
  obtain ⟨m, rfl⟩ : ∃ m, k = m + 2 := ⟨k - 2, by omega⟩
  have h0 := ev_tm (a := a) (s := s) (v := v) (n := n) (k := m + 2) h
  have h1 := ev_tm (a := a) (s := s) (v := v) (n := n) (k := m + 1) (by omega)
  have h2 := ev_tm (a := a) (s := s) (v := v) (n := n) (k := m) (by omega)
  have e1 : tm (ev a s v n) (m + 2) - tp (ev a s v n) (m + 2) - sp (ev a s v n) (m + 2) = 0 := by
    show tm (ev a s v n) (m + 2) - tm (ev a s v n) (m + 1) - (tm (ev a s v n) (m + 1) - tm (ev a s v n) m) = 0
    rw [h0.1, h1.1, h2.1]
    have i1 : ((m + 2 : Nat) : Int) * s = (m : Int) * s + 2 * s := by rw [Int.natCast_add, Int.add_mul]; rfl
    have i2 : ((m + 1 : Nat) : Int) * s = (m : Int) * s + s := by rw [Int.natCast_add, Int.add_mul]; omega
    omega
  have e2 : vl (ev a s v n) (m + 2) - vp (ev a s v n) (m + 2) = 0 := by
    show vl (ev a s v n) (m + 2) - vl (ev a s v n) (m + 1) = 0
    rw [h0.2, h1.2]; omega
  unfold plen
  rw [e1, e2, num_zero]; rfl

theorem plen_same {a s v : Int} {n n' k : Nat} (h : k < n) (h' : k < n') : plen (ev a s v n) k = plen (ev a s v n') k := by
  have h0 := ev_tm (a := a) (s := s) (v := v) h
  have h0' := ev_tm (a := a) (s := s) (v := v) h'
  have h1 := ev_tp (a := a) (s := s) (v := v) h
  have h1' := ev_tp (a := a) (s := s) (v := v) h'
  have h2 : sp (ev a s v n) k = sp (ev a s v n') k := by
    match k with
    | 0 => rfl
    | k + 1 =>
      have g0 := ev_tm (a := a) (s := s) (v := v) (n := n) (k := k) (by omega)
      have g0' := ev_tm (a := a) (s := s) (v := v) (n := n') (k := k) (by omega)
      have g1 := ev_tp (a := a) (s := s) (v := v) (n := n) (k := k) (by omega)
      have g1' := ev_tp (a := a) (s := s) (v := v) (n := n') (k := k) (by omega)
      simp only [sp]
      rw [g0.1, g0'.1, g1.1, g1'.1]
  unfold plen
  rw [h0.1, h0.2, h0'.1, h0'.2, h1.1, h1.2, h1'.1, h1'.2, h2]

theorem num_small {n : Nat} (h : n ≤ 100) : 1 ≤ (num n).length ∧ (num n).length ≤ 2 := by
  have hf : fold (n : Int) = 2 * n := by unfold fold; rw [if_neg (by omega)]
  unfold num
  rw [hf]
  by_cases h1 : 2 * (n : Int) < 128
  · rw [dig_last h1]; simp
  · rw [dig_more h1, dig_last (by omega)]; simp

theorem ev_upTo {a s v : Int} {n : Nat} (k : Nat) (hk : k + 2 ≤ n) : (upTo (ev a s v n) (k + 2)).length = (num n).length + plen (ev a s v 2) 0 + plen (ev a s v 2) 1 + 2 * k := by
  induction k with
  | zero =>
    rw [upTo_succ_len, upTo_succ_len, plen_same (n' := 2) (show 0 < n by omega) (by decide), plen_same (n' := 2) (show 1 < n by omega) (by decide)]
    simp [upTo, ev_len]
  | succ k ih => rw [show k + 1 + 2 = (k + 2) + 1 from by omega, upTo_succ_len, ih (by omega), ev_plen (n := n) (k := k + 2) (by omega) (by omega)]; omega

theorem ev_bytes {a s v : Int} {n : Nat} (h3 : 3 ≤ n) (hn : n ≤ 100) :
    (bytes (ev a s v 2)).length + 2 * (n - 2) ≤ (bytes (ev a s v n)).length ∧ (bytes (ev a s v n)).length ≤ (bytes (ev a s v 2)).length + 2 * (n - 2) + 1 := by
  unfold bytes
  rw [ev_len, ev_len]
  have h1 := ev_upTo (a := a) (s := s) (v := v) (n := n) (n - 2) (by omega)
  have h2 := ev_upTo (a := a) (s := s) (v := v) (n := 2) 0 (by omega)
  rw [show n - 2 + 2 = n from by omega] at h1
  simp only [Nat.zero_add] at h2
  have hn := num_small hn
  have h22 : (num ((2 : Nat) : Int)).length = 1 := by decide +kernel
  omega

end Grain
