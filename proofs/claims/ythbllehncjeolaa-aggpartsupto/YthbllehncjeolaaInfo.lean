/-
  A row of the program's table of types.
-/
import Derived.Test.YthbllehncjeolaaRows
namespace Go.Proofs.Ythbllehncjeolaa

theorem Try.infoSample : (Try.prog.info? 36).map (fun i => (i.zero, i.size, i.bytes)) = some (some (.agg #[.int .i64 0, .int .i64 0]), 2, 16) := by kernel_rfl

end Go.Proofs.Ythbllehncjeolaa
