/-
  Right samples, otherwise told. No program is named here.
-/
import Derived.Test.YtcgcefnfelmmkaaMath
namespace Grain

theorem steps_lt (f : Nat → Int) (n : Nat) (h : ∀ k, k + 1 < n → f k < f (k + 1)) : ∀ d i, i + d + 1 < n → f i < f (i + d + 1) := by
  intro d
  induction d with
  | zero => intro i hi; exact h i hi
  | succ d ih =>
    intro i hi
    have h1 := ih i (by omega)
    have h2 := h (i + d + 1) (by omega)
    rw [show i + (d + 1) + 1 = i + d + 1 + 1 from by omega]
    omega

theorem tm_get {l : List (Int × Int)} {k : Nat} (h : k < l.length) : tm l k = l[k].1 ∧ vl l k = l[k].2 := by simp [tm, vl, List.getD, List.getElem?_eq_getElem h]

/-- right samples, otherwise told -/
theorem right_iff (l : List (Int × Int)) : (wrong l).1 = 0 ↔ l.length ≤ 500 ∧ (∀ x ∈ l, inR x.1 x.2 = true) ∧ l.Pairwise (fun x y => x.1 < y.1) := by
  constructor
  · intro h
    have hr := right_of h
    refine ⟨hr.few, fun x hx => ?_, List.pairwise_iff_getElem.2 fun i j hi hj hij => ?_⟩
    · obtain ⟨k, hk, rfl⟩ := List.mem_iff_getElem.1 hx
      have := hr.rng k hk
      rw [(tm_get hk).1, (tm_get hk).2] at this
      simp only [inR, decide_eq_true_eq]
      exact this
    · obtain ⟨d, rfl⟩ : ∃ d, j = i + d + 1 := ⟨j - i - 1, by omega⟩
      have := steps_lt (tm l) l.length hr.rise d i hj
      rwa [(tm_get hi).1, (tm_get hj).1] at this
  · rintro ⟨h1, h2, h3⟩
    rw [List.pairwise_iff_getElem] at h3
    unfold wrong
    rw [if_neg (by omega)]
    have key : ∀ n k, k + n ≤ l.length → wrongF l n k = (0, 0) := by
      intro n
      induction n with
      | zero => intro k _; rfl
      | succ n ih =>
        intro k hk
        rw [wrongF_ok, ih (k + 1) (by omega)]
        have hk' : k < l.length := by omega
        have e := h2 _ (List.getElem_mem hk')
        unfold bad
        rw [(tm_get hk').1, (tm_get hk').2, if_neg (by simp [e]), if_neg]
        rintro ⟨p, q⟩
        have := h3 (k - 1) k (by omega) hk' (by omega)
        rw [(tm_get (k := k - 1) (by omega)).1] at q
        omega
    rw [key _ 0 (by omega)]

end Grain
