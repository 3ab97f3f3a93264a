/-
  A field of a sum that no variable holds.
-/
import Derived.Test.YthbllehncjeolabRows
import Derived.WalkKit
namespace Go.Proofs.Ythbllehncjeolab
open Go.RowKit

theorem field_rise (x0 x1 x2 x3 x4 x5 : Value) (z : Int) (w : World) : (Instr.field 23 (.agg #[x0, x1, x2, x3, x4, x5, .int .i64 z]) 6).run Try.prog w = .ok (.int .i64 z) w := by
  simp [Instr.field, go_sem, asAgg]

end Go.Proofs.Ythbllehncjeolab
