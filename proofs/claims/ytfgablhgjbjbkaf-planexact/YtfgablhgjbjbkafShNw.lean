/-
  The walk of New alone (for a seat without Same).
-/
import Derived.Test.YtfgablhgjbjbkafShL
namespace Go.Proofs.Ytfgablhgjbjbkaf
open Go.RowKit Go.GrainU

set_option maxHeartbeats 1000000 in
theorem snew_any (l : List (ByteArray × ByteArray)) (ao : Option Addr) (n c : Nat) (w : World) (hs : Seg w ao (lcells l)) (hn : n = l.length) (hf : Fits l) (hL : n * 32 ≤ 140737488355328) (hnil : ao = none → n = 0 ∧ c = 0) :
    Calls Try.prog 14 #[.slice ao n c] w fun e w' => ∃ y : ShT, e = .returned y.v ∧ y.s = { Grain.szero with se := l } ∧ ShO w.heap.size w' y ∧ Below w.heap.size w w' := by
  have HN := hide hn
  have HZ := hide hnil
  have HL := hide hL
  obtain ⟨X, hX⟩ : ∃ X, X = w.heap.size := ⟨_, rfl⟩
  obtain ⟨V, hV⟩ : ∃ V, V = w.alloc (.cells #[.slice none 0 0, .slice none 0 0, .slice none 0 0, .slice none 0 0, .int .i64 0, .int .i64 0, .int .i64 0, .int .i64 0, .int .i64 0] 27) := ⟨_, rfl⟩
  have bel : Below w.heap.size w V := by rw [hV]; exact (Below.refl _ _).alloc (Nat.le_refl _) _
  have R0 : V.heap[X]? = some (so szT) := by rw [hV, hX]; exact heap_alloc_new w _
  have hVs : V.heap.size = X + 1 := by rw [hV, hX]; simp
  have HV := hide hV
  have HX := hide hX
  have hsV := hs.below bel
  clear hV hX hn hnil hL
  go_enter Try.func14, Try.ntmps14
  go_wp2_with fail
  rw [← HV.out, ← HX.out]
  refine (lcopy_any l ao n c V hsV HN.out HL.out HZ.out).mono ?_
  rintro e w1 ⟨A, M, D, rfl, own, hb1⟩
  have hM : M = n := by have := own.1; rw [lcells_length, ← HN.out] at this; omega
  have HM := hide hM
  have bel1 : Below w.heap.size w w1 := bel.trans (hb1.mono bel.size)
  have R1 := below_block hb1 R0
  clear HV hb1 R0 hM
  obtain ⟨q0, q1, q2, q3, q4, q5, q6, q7, q8⟩ := sz_cells R1
  obtain ⟨f0, f1, f2, f3, f4, f5, f6, f7, f8⟩ := so_free R1
  go_wp2
  refine bodyPost_ret (v := .agg #[.slice A M D, .slice none 0 0, .slice none 0 0, .slice none 0 0, .int .i64 0, .int .i64 0, .int .i64 0, .int .i64 0, .int .i64 0]) (by simp [results, Try.results14, go_sem, q0, q1, q2, q3, q4, q5, q6, q7, q8]) rfl ?_
  have hml : M = l.length := HM.out.trans HN.out
  refine ⟨⟨{ Grain.szero with se := l }, A, D, none, 0, none, 0, none, 0⟩, ?_, rfl, ⟨?_, World.ownsRow_nil _ _ _ _, World.ownsRow_nil _ _ _ _, World.ownsRow_nil _ _ _ _, fun g h => ?_, hf, ?_, ?_, ?_, ?_⟩, below_set9 bel1 (by have := HX.out; omega) _ _ _ _ _ _ _ _ _⟩
  · simp only [ShT.v, ← hml]; rfl
  · simp only [← hml]; exact own_down (own_set9 own (by omega) _ _ _ _ _ _ _ _ _) (by have := HX.out; omega)
  · simp [Value.ownBlock] at h
  · show l.length * 32 ≤ _; rw [← HN.out]; exact HL.out
  · simp [Grain.szero]
  · simp [Grain.szero]
  · simp [Grain.szero]

end Go.Proofs.Ytfgablhgjbjbkaf
