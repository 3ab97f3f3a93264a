/-
  The walk of the document's Up.
-/
import Derived.Test.YtfgablhgjbjbkaeOf
namespace Go.Proofs.Ytfgablhgjbjbkae
open Go.RowKit Go.GrainU

set_option maxHeartbeats 400000 in
theorem up_any (a b : Int) (w : World) :
    Calls Try.prog 99 #[.int .i64 a, .int .i64 b] w fun e w' => e = .returned (.int .i64 (Grain.rise a b)) ∧ w' = w := by
  by_cases hn : b < a
  · have hf : Grain.rise a b = b := by simp [Grain.rise, hn]
    rw [hf]; clear hf
    go_enter Try.func99, Try.ntmps99
    go_wp2
    go_ret
    exact ⟨rfl, rfl⟩
  · have hf : Grain.rise a b = IntKind.i64.wrap (b - a) := by simp [Grain.rise, hn, Grain.wr]
    rw [hf]; clear hf
    go_enter Try.func99, Try.ntmps99
    go_wp2
    go_ret
    exact ⟨ret_int (by simp [IntWalk.i64_left]), rfl⟩

end Go.Proofs.Ytfgablhgjbjbkae
