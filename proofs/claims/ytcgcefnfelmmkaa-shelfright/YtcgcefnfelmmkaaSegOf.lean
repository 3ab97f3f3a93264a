/-
  Cells that lie behind an address, by an element's own list.
-/
import Derived.Test.YtcgcefnfelmmkaaUtil
namespace Go.GrainU
open Go.RowKit

/-- cells that lie behind an address, c of them an element, by an element's own list -/
theorem seg_of {α : Type} {W : World} {b off len c : Nat} (hc : 0 < c) (f : Nat → α) (cell : α → List Value) (hcl : ∀ x, (cell x).length = c)
    (h : ∀ i, i < len → ∀ j, j < c → W.cell? ⟨b, off + (i * c + j), none⟩ = (cell (f i))[j]?) : Seg W (some ⟨b, off, none⟩) ((List.range len).flatMap fun i => cell (f i)) := by
  refine .inr ⟨b, off, rfl, fun j hj => ?_⟩
  have hl : ∀ n, ((List.range n).flatMap fun i => cell (f i)).length = n * c := by
    intro n
    induction n with
    | zero => simp
    | succ n ih => rw [List.range_succ, List.flatMap_append, List.length_append, ih]; simp [hcl, Nat.add_mul]
  rw [hl] at hj
  have hat : ∀ n i, i < n → ∀ q, q < c → ((List.range n).flatMap fun i => cell (f i))[i * c + q]? = (cell (f i))[q]? := by
    intro n
    induction n with
    | zero => intro i hi; omega
    | succ n ih =>
      intro i hi q hq
      rw [List.range_succ, List.flatMap_append]
      have hle : (i + 1) * c ≤ (n + 1) * c := Nat.mul_le_mul_right c (by omega)
      rw [Nat.add_mul] at hle
      by_cases e : i < n
      · have h2 : (i + 1) * c ≤ n * c := Nat.mul_le_mul_right c (by omega)
        rw [Nat.add_mul] at h2
        rw [List.getElem?_append_left (by rw [hl]; omega)]
        exact ih i e q hq
      · have e' : i = n := by omega
        subst e'
        rw [List.getElem?_append_right (by rw [hl]; omega), hl, show i * c + q - i * c = q from by omega]
        simp
  have hq : j % c < c := Nat.mod_lt _ hc
  have hd : j / c < len := Nat.div_lt_of_lt_mul (by rw [Nat.mul_comm]; exact hj)
  have hm : j / c * c + j % c = j := by rw [Nat.mul_comm]; exact Nat.div_add_mod j c
  have h1 := hat len (j / c) hd (j % c) hq
  have h2 := h (j / c) hd (j % c) hq
  rw [hm] at h1 h2
  rw [h1, h2]

end Go.GrainU
