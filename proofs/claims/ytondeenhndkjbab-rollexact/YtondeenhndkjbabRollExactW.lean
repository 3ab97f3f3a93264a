/-
  The walk of RollExact.
-/
import Derived.Test.YtondeenhndkjbabRollAlive
import Derived.Test.YtondeenhndkjbabCodecWrong
import Derived.Test.YtondeenhndkjbabRollWrong
import Derived.Test.YtondeenhndkjbabRollOf
import Derived.Test.YtondeenhndkjbabInfo
namespace Go.Proofs.Ytondeenhndkjbab
open Go.RowKit Go.GrainU

theorem xfield_err (x y : Int) (w : World) : (Instr.field 44 (.agg #[.int .i64 x, .int .i64 y]) 0).run Try.prog w = .ok (.int .i64 x) w := by
  simp [Instr.field, go_sem, asAgg]

set_option maxHeartbeats 2000000 in
theorem rexact_out (l : List (Int × Int)) (ao : Option Addr) (n cap : Nat) (tier a b : Int) (w : World) (hs : Seg w ao (scells l)) (hn : n = l.length)
    (h : (Grain.wrong l).1 ≠ 0 ∨ stepOf tier = 0 ∨ ((stepOf tier = 10 ∨ stepOf tier = 60) ∧ (a < 0 ∨ b < a ∨ 1000000 / stepOf tier < b))) :
    Calls Try.prog 8 #[.slice ao n cap, .int .i64 tier, .int .i64 a, .int .i64 b] w fun e w' => e = .returned (.bool true) ∧ Below w.heap.size w w' := by
  have HN := hide hn
  clear hn
  obtain ⟨x, hx⟩ : ∃ x, x = (Grain.wrong l).1 := ⟨_, rfl⟩
  obtain ⟨y, hy⟩ : ∃ y, y = (Grain.wrong l).2 := ⟨_, rfl⟩
  obtain ⟨st, hst⟩ : ∃ st, st = stepOf tier := ⟨_, rfl⟩
  rw [← hx, ← hst] at h
  have HX := hide hx
  have HY := hide hy
  have HST := hide hst
  have ff := xfield_err x y
  clear hx hy hst
  have h' : x ≠ 0 ∨ (x = 0 ∧ st = 0) ∨ (x = 0 ∧ (st = 10 ∨ st = 60) ∧ (a < 0 ∨ (0 ≤ a ∧ b < a) ∨ (0 ≤ a ∧ a ≤ b ∧ 1000000 / st < b))) := by omega
  clear h
  rcases h' with h | ⟨rfl, rfl⟩ | ⟨rfl, h | h, h' | ⟨h1, h2⟩ | ⟨h1, h2, h3⟩⟩
  · have hz : (x != 0) = true := by simpa using h
    clear h
    go_enter Try.func8, Try.ntmps8
    go_wp2_with fail
    refine (kalive_any _).mono ?_
    rintro e w1 ⟨rfl, bel1⟩
    have hs1 := bel1.size
    go_wp2_with (go_at_call 14; refine (step_any tier _).mono ?_; intro e w3 hh; rw [hh.1, hh.2, ← HST.out]; clear hh)
    refine (wrong_len l ao n cap _ (hs.below bel1) HN.out).mono ?_
    rintro e w2 ⟨rfl, hb2⟩
    rw [← HX.out, ← HY.out]
    have bel2 := bel1.trans (hb2.mono hs1)
    clear hb2 bel1
    go_wp2
    go_ret
    exact ⟨rfl, bel2⟩
  · go_enter Try.func8, Try.ntmps8
    go_wp2_with fail
    refine (kalive_any _).mono ?_
    rintro e w1 ⟨rfl, bel1⟩
    have hs1 := bel1.size
    go_wp2_with (go_at_call 14; refine (step_any tier _).mono ?_; intro e w3 hh; rw [hh.1, hh.2, ← HST.out]; clear hh)
    refine (wrong_len l ao n cap _ (hs.below bel1) HN.out).mono ?_
    rintro e w2 ⟨rfl, hb2⟩
    rw [← HX.out, ← HY.out]
    have bel2 := bel1.trans (hb2.mono hs1)
    clear hb2 bel1
    go_wp2
    go_ret
    exact ⟨rfl, bel2⟩
  all_goals
    subst h
    go_enter Try.func8, Try.ntmps8
    go_wp2_with fail
    refine (kalive_any _).mono ?_
    rintro e w1 ⟨rfl, bel1⟩
    have hs1 := bel1.size
    go_wp2_with (go_at_call 14; refine (step_any tier _).mono ?_; intro e w3 hh; rw [hh.1, hh.2, ← HST.out]; clear hh)
    refine (wrong_len l ao n cap _ (hs.below bel1) HN.out).mono ?_
    rintro e w2 ⟨rfl, hb2⟩
    rw [← HX.out, ← HY.out]
    have bel2 := bel1.trans (hb2.mono hs1)
    clear hb2 bel1
    go_wp2
    go_ret
    exact ⟨rfl, bel2⟩

end Go.Proofs.Ytondeenhndkjbab
