/-
  The walk of chapter 3's alive.
-/
import Derived.Test.YtondeenhndkjbabRollGr
namespace Go.Proofs.Ytondeenhndkjbab
open Go.RowKit Go.GrainU

theorem alive_up : Grain.up [(5, 1), (9, 2), (61, 3)] 10 = [⟨0, ⟨2, 3, 1, 2, 1, 2, 1⟩⟩, ⟨60, ⟨1, 3, 3, 3, 3, 3, 0⟩⟩] := by kernel_rfl
theorem alive_great : (Grain.great [⟨0, ⟨2, 3, 1, 2, 1, 2, 1⟩⟩, ⟨60, ⟨1, 3, 3, 3, 3, 3, 0⟩⟩]).length = 2 := by kernel_rfl

set_option maxHeartbeats 1000000 in
theorem kalive_any (w : World) : Calls Try.prog 25 #[] w fun e w' => e = .returned (.bool true) ∧ Below w.heap.size w w' := by
  go_enter Try.func25, Try.ntmps25
  go_wp2_with fail
  refine (up_yes [(5, 1), (9, 2), (61, 3)] (some ⟨w.heap.size, 0, none⟩) 3 3 1 10 _ (seg_new w #[.int .i64 5, .int .i64 1, .int .i64 9, .int .i64 2, .int .i64 61, .int .i64 3] 29) rfl (by decide) ?_ (by simp [stepOf]) (.inl rfl)).mono ?_
  · intro j hj
    simp at hj
    rcases (show j = 0 ∨ j = 1 ∨ j = 2 from by omega) with e | e | e <;> subst e <;> simp [Grain.tm]
  rintro e w1 ⟨bo, N, c, rfl, own, hb1⟩
  rw [alive_up] at own
  have hN := own_klen own
  simp at hN
  subst hN
  obtain ⟨g, cp, hv, _, _⟩ := own.form (by omega)
  simp at hv
  obtain ⟨rfl, rfl⟩ := hv
  have sg := own_seg own
  obtain ⟨b, off, e1, hbl, hcell⟩ := seg_bucket sg (k := 0) (by simp)
  simp at e1
  obtain ⟨rfl, rfl⟩ := e1
  have q0 := (hcell 0 (by simp)).2.1
  have q1 := (hcell 1 (by simp)).1
  simp [Grain.bk] at q0 q1
  have bel1 : Below w.heap.size w w1 := ((Below.refl _ _).alloc (Nat.le_refl _) _).trans (hb1.mono (by simp))
  have hs1 := bel1.size
  clear hb1 hcell own
  go_wp2_with fail
  refine (great_any _ (some ⟨g, 0, none⟩) 2 c _ sg rfl (by decide) ?_).mono ?_
  · intro j hj
    simp at hj
    rcases (show j = 0 ∨ j = 1 from by omega) with e | e <;> subst e <;> simp [Grain.bk]
  rintro e w2 ⟨bo, N, c2, rfl, own2, hb2⟩
  have hN := own_klen own2
  rw [alive_great] at hN
  subst hN
  have bel2 := bel1.trans (hb2.mono hs1)
  clear own2 hb2 bel1
  go_wp2_with (go_at_call 14; refine (step_any 2 _).mono ?_; intro e w3 hh; rw [hh.1, hh.2, show stepOf 2 = 60 from by simp [stepOf]]; clear hh)
  go_ret
  exact ⟨rfl, bel2⟩

end Go.Proofs.Ytondeenhndkjbab
