/-
  The walk of alive.
-/
import Derived.Test.YthbllehncjeolabValue
namespace Go.Proofs.Ythbllehncjeolab
open Go.RowKit Go.GrainU

theorem alive_of : Grain.of [(1, 5), (2, 9), (3, 2)] = ⟨3, 16, 2, 9, 5, 2, 6⟩ :=
  Grain.Sm.ext (by decide +kernel) (by decide +kernel) (by decide +kernel) (by decide +kernel) (by decide +kernel) (by decide +kernel) (by decide +kernel)

set_option maxHeartbeats 1000000 in
theorem alive_any (w : World) : Calls Try.prog 6 #[] w fun e w' => e = .returned (.bool true) ∧ Below w.heap.size w w' := by
  go_enter Try.func6, Try.ntmps6
  go_wp2_with fail
  refine (of_len [(1, 5), (2, 9), (3, 2)] (some ⟨w.heap.size, 0, none⟩) 3 3 _ (seg_new w #[.int .i64 1, .int .i64 5, .int .i64 2, .int .i64 9, .int .i64 3, .int .i64 2] 29) rfl (by decide)).mono ?_
  rintro e w1 ⟨J, HJ, rfl, hb1⟩
  have hJ := HJ.out
  rw [alive_of] at hJ
  subst hJ
  have bel1 : Below w.heap.size w w1 := ((Below.refl _ _).alloc (Nat.le_refl _) _).trans (hb1.mono (by simp))
  have hs1 := bel1.size
  clear hb1
  go_wp2_with fail
  refine (value_rise ⟨3, 16, 2, 9, 5, 2, 6⟩ _ (by decide)).mono ?_
  rintro e w2 ⟨rfl, hb2⟩
  have F2 := below_block hb2 (heap_alloc_new w1 (.cells #[.int .i64 3, .int .i64 16, .int .i64 2, .int .i64 9, .int .i64 5, .int .i64 2, .int .i64 6] 23))
  obtain ⟨f0, f1, _, _, _, _, _⟩ := seven_cells F2
  have bel2 : Below w.heap.size w w2 := (bel1.alloc hs1 _).trans (hb2.mono (by simp; omega))
  have hs2 := bel2.size
  clear hb2 bel1 F2
  go_wp2_with fail
  refine (words_any _).mono ?_
  rintro e w3 ⟨g, rfl, hg, hw3⟩
  have bel3 : Below w.heap.size w w3 := by rw [hw3]; exact bel2.alloc hs2 _
  clear hg hw3 bel2
  go_wp2
  go_ret
  exact ⟨rfl, bel3⟩

end Go.Proofs.Ythbllehncjeolab
