/-
  A row of the program's table of types.
-/
import Derived.Test.YtondeenhndkjbabRows
namespace Go.Proofs.Ytondeenhndkjbab

theorem Try.infoSample : (Try.prog.info? 29).map (fun i => (i.zero, i.size, i.bytes)) = some (some (.agg #[.int .i64 0, .int .i64 0]), 2, 16) := by kernel_rfl

end Go.Proofs.Ytondeenhndkjbab
