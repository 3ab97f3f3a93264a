/-
  The walk of the document's Num.
-/
import Derived.Test.YtlepdjfkgingpaaWalkB
namespace Go.Proofs.Ytlepdjfkgingpaa
open Go.RowKit Go.GrainU

set_option maxHeartbeats 1000000 in
theorem rnum_any (n : Int) (w : World) (h1 : -1099511627776 ≤ n) (h2 : n ≤ 1099511627776) :
    Calls Try.prog 16 #[.int .i64 n] w fun e w' => ∃ g N cap, e = .returned (.slice (some ⟨g, 0, none⟩) N cap) ∧
      w'.ownsRow w.heap.size 5 1 (.slice (some ⟨g, 0, none⟩) N cap) N (bcells (Grain.num n)) ∧ Below w.heap.size w w' := by
  obtain ⟨i0, hi, hz0, hz1, hz2⟩ := info_parts Try.info5
  obtain ⟨F0, F1⟩ := Grain.fold_bd h1 h2
  have HF : Hid (Grain.fold n = if n < 0 then -2 * n - 1 else 2 * n) := rfl
  by_cases hneg : n < 0
  all_goals
    go_enter Try.func16, Try.ntmps16
    go_wp2
    go_loopw [4, 3] (fun b u wr => ∃ (pre : List Int) (f M : Nat) (U : Int), 0 ≤ U ∧ U ≤ 4398046511104 ∧ u = .int .i64 U ∧ M ≤ 9 - f ∧ f ≤ 9 ∧ Hid (Grain.fits f U) ∧ Hid (Grain.num n = pre ++ Grain.dig f U) ∧
      wr.ownsRow w.heap.size 5 1 b M (bcells pre) ∧ Below w.heap.size w wr) (fun _ u _ => (intOf u).toNat)
    case atStart =>
      have e := HF.out
      first | rw [if_pos (by omega)] at e | rw [if_neg (by omega)] at e
      exact ⟨[], 9, 0, Grain.fold n, F0, F1, by rw [e], by omega, by omega, Grain.fits_start F1, rfl, World.ownsRow_nil _ _ _ _, Below.refl _ _⟩
    case round =>
      obtain ⟨pre, f, M, U, U0, U1, rfl, hM, hf, HU, HN, own, bel⟩ := hrel
      have hsz := bel.size
      by_cases hU : U < 128
      · have HN' : Hid (bcells pre ++ [.int .u8 U] = bcells (Grain.num n)) := by
          show bcells pre ++ [.int .u8 U] = bcells (Grain.num n)
          rw [HN.out, Grain.dig_last hU, ← bcells_snoc]
        clear HN HU HF
        go_wp2_with (at_builtin; refine wpList_append_lies _ rfl _ _ 23 rfl w.heap.size 5 i0 (.int .u8 0) 1 1 Try.underlying23 hi hz0 hz1 hz2 rfl (by decide) _ _ _ rfl (own.alloc _) ⟨wr.heap.size, 0, none⟩ 1 1 [.int .u8 U] rfl rfl (cell_one_new _ _ _) (by simp [Value.oneCell']) (by decide) (by unfold maxLen; omega) (by omega) (by simp; omega) (wr.heap.size + 1) (by simp) ?_)
        intro g cap w1 own1 gr1 hat hlt
        rw [HN'.out] at own1
        have bel1 : Below w.heap.size w w1 := (bel.alloc hsz _).grown gr1 (by simp; omega) (fun j hj => (own.lt j hj).1)
        clear gr1 hat own HN'
        go_wp2
        go_ret
        exact ⟨g, _, cap, rfl, own1, bel1⟩
      · obtain ⟨f', rfl⟩ : ∃ f', f = f' + 1 := ⟨f - 1, by
          rcases Nat.eq_zero_or_pos f with e | e
          · subst e; exact absurd (Grain.fits_zero HU.out) hU
          · omega⟩
        have HU' : Hid (Grain.fits f' (U / 128)) := Grain.fits_succ HU.out
        have HN' : Hid (Grain.num n = (pre ++ [128 + U % 128]) ++ Grain.dig f' (U / 128)) := by
          show Grain.num n = (pre ++ [128 + U % 128]) ++ Grain.dig f' (U / 128)
          rw [HN.out, Grain.dig_more hU, List.append_assoc]; rfl
        clear HN HU HF
        go_wp2_with (at_builtin; refine wpList_append_lies _ rfl _ _ 23 rfl w.heap.size 5 i0 (.int .u8 0) 1 1 Try.underlying23 hi hz0 hz1 hz2 rfl (by decide) _ _ _ rfl (own.alloc _) ⟨wr.heap.size, 0, none⟩ 1 1 [.int .u8 (128 + U % 128)] rfl rfl (cell_one_new _ _ _) (by simp [Value.oneCell']) (by decide) (by unfold maxLen; omega) (by omega) (by simp; omega) (wr.heap.size + 1) (by simp) ?_)
        intro g cap w1 own1 gr1 hat hlt
        rw [← bcells_snoc] at own1
        have bel1 : Below w.heap.size w w1 := (bel.alloc hsz _).grown gr1 (by simp; omega) (fun j hj => (own.lt j hj).1)
        clear gr1 hat own
        go_wp2
        go_roundw
        case rel => exact ⟨pre ++ [128 + U % 128], f', M + 1, U / 128, by omega, by omega, by go_num, by omega, by omega, HU', HN', own1, bel1⟩
        case measure => simp [intOf]; omega

end Go.Proofs.Ytlepdjfkgingpaa
