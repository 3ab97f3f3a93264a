/-
  The walk of the document's Only.
-/
import Derived.Test.YthohkokhimdamaaRows
import Derived.Test.YthohkokhimdamaaLabM
import Derived.Test.YthohkokhimdamaaWordsU
import Derived.Deep.AppendLies
namespace Go.GrainU
open Go.RowKit

/-- the labels whose keys are among words -/
def only (l : List (ByteArray × ByteArray)) (ks : List ByteArray) : List (ByteArray × ByteArray) := l.filter fun x => has ks x.1

theorem only_take {l : List (ByteArray × ByteArray)} {ks : List ByteArray} {k : Nat} (h : k < l.length) : only (l.take (k + 1)) ks = if has ks (lk l k) = true then only (l.take k) ks ++ [(lk l k, lv l k)] else only (l.take k) ks := by
  rw [take_lab h]
  unfold only
  rw [List.filter_append]
  cases hh : has ks (lk l k) <;> simp [hh]

theorem only_len (l : List (ByteArray × ByteArray)) (ks : List ByteArray) : (only l ks).length ≤ l.length := List.length_filter_le _ _

theorem own_llen {w : World} {base e N : Nat} {v : Value} {l : List (ByteArray × ByteArray)} (h : w.ownsRow base e 2 v N (lcells l)) : N = l.length := by
  have := h.1; rw [lcells_length] at this; omega

end Go.GrainU
namespace Go.Proofs.Ythohkokhimdamaa
open Go.RowKit Go.GrainU

theorem Try.infoLabel : (Try.prog.info? 40).map (fun i => (i.zero, i.size, i.bytes)) = some (some (.agg #[.string ⟨#[]⟩, .string ⟨#[]⟩]), 2, 32) := by kernel_rfl


end Go.Proofs.Ythohkokhimdamaa
