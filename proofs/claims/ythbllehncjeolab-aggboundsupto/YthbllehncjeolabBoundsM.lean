/-
  The plain mathematics of bounds: between the least and the greatest. No program is named here.
-/
import Derived.Test.YthbllehncjeolabSum
import Derived.Laws.Small
namespace Grain

/-- what is known of the sum of the first k samples, all in range -/
structure Bd (k : Nat) (s : Sm) : Prop where
  c : s.c = k
  m0 : -1000000000 ≤ s.mn
  m1 : s.mx ≤ 1000000000
  lo : s.mn * k ≤ s.t
  hi : s.t ≤ s.mx * k
  f0 : s.mn ≤ s.f
  f1 : s.f ≤ s.mx
  l0 : s.mn ≤ s.l
  l1 : s.l ≤ s.mx

theorem Bd.one {v : Int} (h0 : -1000000000 ≤ v) (h1 : v ≤ 1000000000) : Bd 1 (one v) := by
  constructor <;> simp [Grain.one] <;> omega

theorem mul_room {m : Int} {k : Nat} (h0 : -1000000000 ≤ m) (h1 : m ≤ 1000000000) (hk : k ≤ 1048576) : -1048576000000000 ≤ m * k ∧ m * k ≤ 1048576000000000 := by
  constructor
  · have : (-1000000000) * (k : Int) ≤ m * k := Int.mul_le_mul_of_nonneg_right h0 (by omega)
    omega
  · have : m * (k : Int) ≤ 1000000000 * k := Int.mul_le_mul_of_nonneg_right h1 (by omega)
    omega

theorem Bd.next {k : Nat} {s : Sm} {v : Int} (h : Bd k s) (hk : 1 ≤ k) (hk' : k ≤ 1048576) (h0 : -1000000000 ≤ v) (h1 : v ≤ 1000000000) : Bd (k + 1) (join s (Grain.one v)) := by
  obtain ⟨c, m0, m1, lo, hi, f0, f1, l0, l1⟩ := h
  have hs : s.mn ≤ s.mx := by omega
  have r0 := mul_room (k := k) m0 (by omega) hk'
  have r1 := mul_room (k := k) (m := s.mx) (by omega) m1 hk'
  rw [join_full s _ (by omega) (by simp [Grain.one])]
  have ec : wr (s.c + 1) = ((k + 1 : Nat) : Int) := by rw [c, wr_in (by omega) (by omega)]; omega
  have et : wr (s.t + v) = s.t + v := wr_in (by omega) (by omega)
  constructor
  · exact ec
  · show -1000000000 ≤ if v < s.mn then v else s.mn
    split <;> omega
  · show (if v > s.mx then v else s.mx) ≤ 1000000000
    split <;> omega
  · show (if v < s.mn then v else s.mn) * ((k + 1 : Nat) : Int) ≤ wr (s.t + v)
    rw [et]
    split
    · have : v * (k : Int) ≤ s.mn * k := Int.mul_le_mul_of_nonneg_right (by omega) (by omega)
      rw [Int.natCast_add, Int.mul_add]; simp only [Int.natCast_one, Int.mul_one]; omega
    · rw [Int.natCast_add, Int.mul_add]; simp only [Int.natCast_one, Int.mul_one]; omega
  · show wr (s.t + v) ≤ (if v > s.mx then v else s.mx) * ((k + 1 : Nat) : Int)
    rw [et]
    split
    · have : s.mx * (k : Int) ≤ v * k := Int.mul_le_mul_of_nonneg_right (by omega) (by omega)
      rw [Int.natCast_add, Int.mul_add]; simp only [Int.natCast_one, Int.mul_one]; omega
    · rw [Int.natCast_add, Int.mul_add]; simp only [Int.natCast_one, Int.mul_one]; omega
  · show (if v < s.mn then v else s.mn) ≤ s.f
    split <;> omega
  · show s.f ≤ if v > s.mx then v else s.mx
    split <;> omega
  · show (if v < s.mn then v else s.mn) ≤ v
    split <;> omega
  · show v ≤ if v > s.mx then v else s.mx
    split <;> omega

theorem ofN_bd (l : List (Int × Int)) : ∀ k : Nat, 1 ≤ k → k ≤ 1048577 → (∀ j, j < k → -1000000000 ≤ vl l j ∧ vl l j ≤ 1000000000) → Bd k (ofN l k) := by
  intro k
  induction k with
  | zero => intro h; omega
  | succ k ih =>
    intro _ hk hv
    have v := hv k (by omega)
    by_cases h0 : k = 0
    · subst h0
      have : ofN l (0 + 1) = Grain.one (vl l 0) := by rw [ofN, ofN, join_zero_left _ _ rfl]
      rw [this]
      exact Bd.one v.1 v.2
    · exact (ih (by omega) (by omega) (fun j hj => hv j (by omega))).next (by omega) (by omega) v.1 v.2

theorem Bd.avg {k : Nat} {s : Sm} (h : Bd k s) (hk : 1 ≤ k) : s.mn ≤ s.t.tdiv s.c ∧ s.t.tdiv s.c ≤ s.mx := by
  have hc : (0 : Int) < s.c := by rw [h.c]; omega
  have lo : s.mn * s.c ≤ s.t := by rw [h.c]; exact h.lo
  have hi : s.t ≤ s.mx * s.c := by rw [h.c]; exact h.hi
  rw [Go.tdiv_eq_if]
  split
  · exact ⟨(Int.le_ediv_iff_mul_le hc).mpr lo, Int.ediv_le_of_le_mul hc hi⟩
  · constructor
    · have : -s.t / s.c ≤ -s.mn := Int.ediv_le_of_le_mul hc (by rw [Int.neg_mul]; omega)
      omega
    · have : -s.mx ≤ -s.t / s.c := (Int.le_ediv_iff_mul_le hc).mpr (by rw [Int.neg_mul]; omega)
      omega

end Grain
