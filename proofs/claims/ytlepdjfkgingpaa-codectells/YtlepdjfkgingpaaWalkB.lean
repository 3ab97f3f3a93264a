/-
  The walk of appendNumber.
-/
import Derived.Test.YtlepdjfkgingpaaWalkA
namespace Go.Proofs.Ytlepdjfkgingpaa
open Go.RowKit Go.GrainU

theorem Try.info5 : (Try.prog.info? 5).map (fun i => (i.zero, i.size, i.bytes)) = some (some (.int .u8 0), 1, 1) := by kernel_rfl

set_option maxHeartbeats 400000 in
theorem appendNumber_any (base N : Nat) (v : Value) (xs : List Int) (n : Int) (w : World) (hown : w.ownsRow base 5 1 v N (bcells xs)) (hb : base ≤ w.heap.size) (hl : N ≤ 1000000)
    (h1 : -1099511627776 ≤ n) (h2 : n ≤ 1099511627776) :
    Calls Try.prog 15 #[v, .int .i64 n] w fun e w' => ∃ g N' cap, e = .returned (.slice (some ⟨g, 0, none⟩) N' cap) ∧
      w'.ownsRow base 5 1 (.slice (some ⟨g, 0, none⟩) N' cap) N' (bcells (xs ++ Grain.num n)) ∧ w.grownBy w' v.ownBlock ∧ (v.ownBlock = some g ∨ w.heap.size ≤ g) ∧ g < w'.heap.size := by
  obtain ⟨i0, hi, hz0, hz1, hz2⟩ := info_parts Try.info5
  go_enter Try.func15, Try.ntmps15
  go_wp2_with (go_at_call 20; refine (fold_any n _ h1 h2).mono ?_; intro e w' hh; rw [hh.1, hh.2]; clear hh)
  obtain ⟨F0, F1⟩ := Grain.fold_bd h1 h2
  go_loopw [0, 5] (fun b u wr => ∃ (pre : List Int) (f M : Nat) (U : Int), 0 ≤ U ∧ U ≤ 4398046511104 ∧ u = .int .u64 U ∧ M ≤ 1000009 - f ∧ f ≤ 9 ∧ Hid (Grain.fits f U) ∧ Hid (Grain.num n = pre ++ Grain.dig f U) ∧
      wr.ownsRow base 5 1 b M (bcells (xs ++ pre)) ∧ w.grownBy wr v.ownBlock ∧ Hid (b.ownBlock = v.ownBlock ∨ ∃ g, b.ownBlock = some g ∧ w.heap.size ≤ g)) (fun _ u _ => (intOf u).toNat)
  case atStart => exact ⟨[], 9, N, _, F0, F1, rfl, by omega, by omega, Grain.fits_start F1, rfl, by simpa using hown, World.grownBy.refl _ _, .inl rfl⟩
  case round =>
    obtain ⟨pre, f, M, U, U0, U1, rfl, hM, hf, HF, HN, hownr, hgr, HL⟩ := hrel
    have hbr : base ≤ wr.heap.size := Nat.le_trans hb hgr.size
    by_cases hU : U < 128
    · have HN' : Hid (bcells (xs ++ pre) ++ [.int .u8 U] = bcells (xs ++ Grain.num n)) := by
        show bcells (xs ++ pre) ++ [.int .u8 U] = bcells (xs ++ Grain.num n)
        rw [HN.out, Grain.dig_last hU, ← bcells_snoc, List.append_assoc]
      clear HN HF
      go_wp2_with (at_builtin; refine wpList_append_lies _ rfl _ _ 23 rfl base 5 i0 (.int .u8 0) 1 1 Try.underlying23 hi hz0 hz1 hz2 rfl (by decide) _ _ _ rfl (hownr.alloc _) ⟨wr.heap.size, 0, none⟩ 1 1 [.int .u8 U] rfl rfl (cell_one_new _ _ _) (by simp [Value.oneCell']) (by decide) (by unfold maxLen; omega) (by omega) (by simp; omega) (wr.heap.size + 1) (by simp) ?_)
      intro g cap w1 hown1 hgrow hat hlt
      rw [HN'.out] at hown1
      have R := grown_push hgr HL.out hgrow hat
      clear hgrow hat hownr HN' HL hgr
      go_wp2
      go_ret
      exact ⟨g, _, cap, rfl, hown1, R.1, R.2, hlt⟩
    · obtain ⟨f', rfl⟩ : ∃ f', f = f' + 1 := ⟨f - 1, by
        rcases Nat.eq_zero_or_pos f with e | e
        · subst e; exact absurd (Grain.fits_zero HF.out) hU
        · omega⟩
      have HF' : Hid (Grain.fits f' (U / 128)) := Grain.fits_succ HF.out
      have HN' : Hid (Grain.num n = (pre ++ [128 + U % 128]) ++ Grain.dig f' (U / 128)) := by
        show Grain.num n = (pre ++ [128 + U % 128]) ++ Grain.dig f' (U / 128)
        rw [HN.out, Grain.dig_more hU, List.append_assoc]; rfl
      clear HN HF
      have hor := or128 U
      go_wp2_with (at_builtin; refine wpList_append_lies _ rfl _ _ 23 rfl base 5 i0 (.int .u8 0) 1 1 Try.underlying23 hi hz0 hz1 hz2 rfl (by decide) _ _ _ rfl (hownr.alloc _) ⟨wr.heap.size, 0, none⟩ 1 1 [.int .u8 (128 + U % 128)] rfl rfl (cell_one_new _ _ _) (by simp [Value.oneCell']) (by decide) (by unfold maxLen; omega) (by omega) (by simp; omega) (wr.heap.size + 1) (by simp) ?_)
      intro g cap w1 hown1 hgrow hat hlt
      rw [← bcells_snoc, List.append_assoc] at hown1
      have R := grown_push hgr HL.out hgrow hat
      clear hgrow hat hownr HL hgr hor
      go_wp2
      go_roundw
      case rel => exact ⟨pre ++ [128 + U % 128], f', M + 1, U / 128, by omega, by omega, by go_num, by omega, by omega, HF', HN', hown1, R.1, R.2.imp (fun h => h.symm) (fun h => ⟨g, rfl, h⟩)⟩
      case measure => simp [intOf]; omega
end Go.Proofs.Ytlepdjfkgingpaa
