/-
  The walk of alive.
-/
import Derived.Test.YtlepdjfkgingpaaWalkC
import Derived.Test.YtlepdjfkgingpaaWalkF
namespace Go.Proofs.Ytlepdjfkgingpaa
open Go.RowKit Go.GrainU

theorem alive_wrong : (Grain.wrong [(10, 5), (20, -3)]).1 = 0 := by decide +kernel
theorem alive_bytes : Grain.bytes [(10, 5), (20, -3)] = [4, 20, 10, 0, 15] := by decide +kernel
theorem alive_rd : Grain.rd [4, 20, 10, 0, 15] = some ([(10, 5), (20, -3)], []) := by decide +kernel

set_option maxHeartbeats 400000 in
theorem alive_any (w : World) : Calls Try.prog 14 #[] w fun e w' => e = .returned (.bool true) ∧ Below w.heap.size w w' := by
  go_enter Try.func14, Try.ntmps14
  go_wp2_with fail
  refine (bytes_yes_len [(10, 5), (20, -3)] (some ⟨w.heap.size, 0, none⟩) 2 2 _ (seg_new w #[.int .i64 10, .int .i64 5, .int .i64 20, .int .i64 (-3)] 36) rfl alive_wrong).mono ?_
  rintro e w1 ⟨g, N, c, rfl, own1, hb1⟩
  rw [alive_bytes] at own1
  have hN : N = 5 := own_len own1
  subst hN
  have hc := own_cap own1
  have bel1 : Below w.heap.size w w1 := ((Below.refl _ _).alloc (Nat.le_refl _) _).trans (hb1.mono (by simp))
  have hs1 := bel1.size
  clear hb1
  go_wp2_with fail
  refine (parse_ok [4, 20, 10, 0, 15] (some ⟨g, 0, none⟩) 5 c _ (own_seg (own1.alloc _)) rfl hc.1 hc.2 (by intro x hx; simp at hx; omega) _ alive_rd alive_wrong).mono ?_
  rintro e w2 ⟨g2, N2, c2, rfl, own2, hb2⟩
  have hN2 : N2 = 2 := own_slen own2
  subst hN2
  have F2 := below_block hb2 (heap_alloc_new w1 (.cells #[.int .i64 0, .int .i64 0] 26))
  obtain ⟨f0, _, _, _⟩ := two_cells F2
  have v3 : w2.cell? ⟨g2, 3, none⟩ = some (.int .i64 (-3)) := (own2.cellAt 3 (by omega)).trans rfl
  have bel2 : Below w.heap.size w w2 := (bel1.alloc hs1 _).trans (hb2.mono (by simp; omega))
  clear own2 own1 hb2 bel1 F2
  go_wp2
  go_ret
  exact ⟨rfl, bel2⟩

end Go.Proofs.Ytlepdjfkgingpaa
