import Derived.Lib.AppendIntMem
import Derived.Test.YtoldmigappbjcaaGreatDoorL09
import Derived.Test.YtoldmigappbjcaaGreatDoorL12
namespace Go.GrainU
open Go.RowKit
theorem news_one {W : World} {B : Nat} (hB : W.heap.size = B) (x : Value) (t : TypeId) : ∀ j u, [x][j]? = some u → (W.alloc (.cells #[x] t)).cell? ((⟨B, 0, none⟩ : Addr).add j) = some u := by
 intro j u hj
 subst hB
 match j, hj with
 | 0, hj =>
  simp at hj
  rw [← hj]
  exact (one_cell7 (heap_alloc_new W (.cells #[x] t))).1
 | j + 1, hj => simp at hj
theorem wcells_snoc (l : List ByteArray) (x : ByteArray) : wcells (l ++ [x]) = wcells l ++ [.string x] := by simp [wcells]
end Go.GrainU
namespace Go.Proofs.YtoldmigappbjcaaGreatDoor
open Go.RowKit Go.GrainU
theorem Tryz.infoStr : (Tryz.prog.info? 9).map (fun i => (i.zero, i.size, i.bytes)) = some (some (.string ⟨#[]⟩), 1, 16) := by kernel_rfl
def Tab (w : World) : Prop := Lib.TabIs Tryz.prog w "internal/strconv.uint64pow10" .u64 Lib.pow10Tab
end Go.Proofs.YtoldmigappbjcaaGreatDoor
