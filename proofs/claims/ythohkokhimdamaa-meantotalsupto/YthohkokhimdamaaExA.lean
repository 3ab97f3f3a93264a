/-
  The walks of what tells words: Words, Totals, In; what is wrong with a match, a word, a number.
-/
import Derived.Test.YthohkokhimdamaaRows
import Derived.Test.YthohkokhimdamaaExM
import Derived.Test.YthohkokhimdamaaNCont
import Derived.Test.YthohkokhimdamaaNNamed
namespace Go.GrainU
open Go.RowKit

theorem seg_words {w : World} {cs : Array Value} {t : TypeId} {l : List ByteArray} (h : cs.toList = wcells l) : Seg (w.alloc (.cells cs t)) (some ⟨w.heap.size, 0, none⟩) (wcells l) := by
  rw [← h]; exact seg_new w cs t

end Go.GrainU
namespace Go.Proofs.Ythohkokhimdamaa
open Go.RowKit Go.GrainU

theorem pwords_any (w : World) : Calls Try.prog 82 #[] w fun e w' => ∃ g, e = .returned (.slice (some ⟨g, 0, none⟩) 8 8) ∧ Seg w' (some ⟨g, 0, none⟩) (wcells words8) ∧ Below w.heap.size w w' := by
  go_enter Try.func82, Try.ntmps82
  go_wp2
  go_ret
  exact ⟨_, rfl, seg_words rfl, (Below.refl _ _).alloc (Nat.le_refl _) _⟩

theorem ptotals_any (w : World) : Calls Try.prog 84 #[] w fun e w' => ∃ g, e = .returned (.slice (some ⟨g, 0, none⟩) 4 4) ∧ Seg w' (some ⟨g, 0, none⟩) (wcells totals4) ∧ Below w.heap.size w w' := by
  go_enter Try.func84, Try.ntmps84
  go_wp2
  go_ret
  exact ⟨_, rfl, seg_words rfl, (Below.refl _ _).alloc (Nat.le_refl _) _⟩

theorem poutside_any (n a b : Int) (w : World) : Calls Try.prog 73 #[.int .i64 n, .int .i64 a, .int .i64 b] w fun e w' => e = .returned (.int .i64 (if n < a ∨ b < n then 3 else 0)) ∧ w' = w := by
  obtain ⟨R, hR⟩ : ∃ R, R = if n < a ∨ b < n then (3 : Int) else 0 := ⟨_, rfl⟩
  rw [← hR]
  have HR := hide hR
  clear hR
  by_cases h1 : n < a
  · go_enter Try.func73, Try.ntmps73
    go_wp2
    go_ret
    exact ⟨ret_int (a := 3) (by rw [HR.out, if_pos (.inl (by first | exact h1 | trivial))]), rfl⟩
  · by_cases h2 : b < n
    · go_enter Try.func73, Try.ntmps73
      go_wp2
      go_ret
      exact ⟨ret_int (a := 3) (by rw [HR.out, if_pos (.inr (by first | exact h2 | trivial))]), rfl⟩
    · go_enter Try.func73, Try.ntmps73
      go_wp2
      go_ret
      exact ⟨ret_int (a := 0) (by rw [HR.out, if_neg (by omega)]), rfl⟩

/-- so many kids a kind has -/
def kidsK (k : Int) : Int × Bool := if k = 1 ∨ k = 2 then (0, true) else if k = 3 then (1, true) else if k = 4 then (2, true) else (0, false)

theorem pkidsOf_any (k : Int) (w : World) : Calls Try.prog 72 #[.int .i64 k] w fun e w' => e = .returned (.tuple #[.int .i64 (kidsK k).1, .bool (kidsK k).2]) ∧ w' = w := by
  obtain ⟨a, ha⟩ : ∃ a, a = (kidsK k).1 := ⟨_, rfl⟩
  obtain ⟨b, hb⟩ : ∃ b, b = (kidsK k).2 := ⟨_, rfl⟩
  rw [← ha, ← hb]
  have HA := hide ha
  have HB := hide hb
  clear ha hb
  unfold kidsK at HA HB
  by_cases h1 : k = 1
  · subst h1
    go_enter Try.func72, Try.ntmps72
    go_wp2
    go_ret2
    exact ⟨by rw [HA.out, HB.out]; rfl, rfl⟩
  by_cases h2 : k = 2
  · subst h2
    go_enter Try.func72, Try.ntmps72
    go_wp2
    go_ret2
    exact ⟨by rw [HA.out, HB.out]; rfl, rfl⟩
  by_cases h3 : k = 3
  · subst h3
    go_enter Try.func72, Try.ntmps72
    go_wp2
    go_ret2
    exact ⟨by rw [HA.out, HB.out]; rfl, rfl⟩
  by_cases h4 : k = 4
  · subst h4
    go_enter Try.func72, Try.ntmps72
    go_wp2
    go_ret2
    exact ⟨by rw [HA.out, HB.out]; rfl, rfl⟩
  have e1 : (k == 1) = false := by simp [h1]
  have e2 : (k == 2) = false := by simp [h2]
  have e3 : (k == 3) = false := by simp [h3]
  have e4 : (k == 4) = false := by simp [h4]
  have HC : Hid (a = 0 ∧ b = false) := ⟨by rw [HA.out]; simp [h1, h2, h3, h4], by rw [HB.out]; simp [h1, h2, h3, h4]⟩
  clear HA HB
  go_enter Try.func72, Try.ntmps72
  go_wp2
  go_ret2
  exact ⟨by rw [HC.out.1, HC.out.2]; rfl, rfl⟩

end Go.Proofs.Ythohkokhimdamaa
