/-
  The walks of shelf's isSpan and multiple.
-/
import Derived.Test.YtcgcefnfelmmkaaRows
import Derived.Test.YtcgcefnfelmmkaaShM
namespace Go.Proofs.Ytcgcefnfelmmkaa
open Go.RowKit Go.GrainU

theorem tmod_emod (x s : Int) : x.tmod s = 0 ↔ x % s = 0 := by
  constructor
  · intro h; exact Int.emod_eq_zero_of_dvd (Int.dvd_of_tmod_eq_zero h)
  · intro h; exact Int.tmod_eq_zero_of_dvd (Int.dvd_of_emod_eq_zero h)

set_option maxHeartbeats 1000000 in
theorem span_any (f t st : Int) (w : World) (hst : st = 10 ∨ st = 60) :
    Calls Try.prog 45 #[.int .i64 f, .int .i64 t, .int .i64 st] w fun e w' => e = .returned (.bool (Grain.span f t st)) ∧ w' = w := by
  have H1 := hide (tmod_emod f st)
  have H2 := hide (tmod_emod t st)
  rcases hst with rfl | rfl
  all_goals
    go_enter Try.func45, Try.ntmps45
    go_wp2
    all_goals
      go_ret
      refine ⟨ret_bool ?_, rfl⟩
      have h1 := H1.out
      have h2 := H2.out
      clear H1 H2
      rw [Bool.eq_iff_iff]
      simp [Grain.span]
      omega

set_option maxHeartbeats 400000 in
theorem mult_any (t st : Int) (w : World) (h0 : 0 ≤ t) (h1 : t ≤ 1000000) (hst : st = 10 ∨ st = 60) :
    Calls Try.prog 26 #[.int .i64 t, .int .i64 st] w fun e w' => e = .returned (.int .i64 (Grain.beg t st)) ∧ w' = w := by
  rcases hst with rfl | rfl
  all_goals
    go_enter Try.func26, Try.ntmps26
    go_wp2
    go_ret
    refine ⟨ret_int ?_, rfl⟩
    unfold Grain.beg
    first | omega | (rw [IntKind.wrap_i64]; omega)

end Go.Proofs.Ytcgcefnfelmmkaa
