/-
  The walk of the document's Compare.
-/
import Derived.Test.YtcgcefnfelmmkaaRows
import Derived.Test.YtcgcefnfelmmkaaLabM
import Derived.Deep.RegionHeld3
import Derived.Laws.Cover1
namespace Go.GrainU
open Go.RowKit

/-- a word against another -/
def cmpW (x y : ByteArray) : Int := if Op.bytesLess x.toList y.toList = true then -1 else if x = y then 0 else 1

/-- a series against another, from label k on, n of them -/
def cmpF (a b : List (ByteArray × ByteArray)) : Nat → Nat → Int
  | 0, _ => if a.length < b.length then -1 else 0
  | n + 1, k => if b.length ≤ k then 1 else if cmpW (lk a k) (lk b k) ≠ 0 then cmpW (lk a k) (lk b k) else if cmpW (lv a k) (lv b k) ≠ 0 then cmpW (lv a k) (lv b k) else cmpF a b n (k + 1)

/-- a series against another -/
def cmpS (a b : List (ByteArray × ByteArray)) : Int := cmpF a b a.length 0

theorem cmpW_lt {x y : ByteArray} (h : Op.bytesLess x.toList y.toList = true) : cmpW x y = -1 := by simp [cmpW, h]
theorem cmpW_eq {x y : ByteArray} (h : Op.bytesLess x.toList y.toList = false) (e : x = y) : cmpW x y = 0 := by simp only [cmpW, h, if_pos e]; rfl
theorem cmpW_gt {x y : ByteArray} (h : Op.bytesLess x.toList y.toList = false) (e : x ≠ y) : cmpW x y = 1 := by simp only [cmpW, h, if_neg e]; rfl

theorem four_cells {w : World} {B : Nat} {x0 x1 x2 x3 : Value} {t : TypeId} {fr : Nat × Nat} (h : w.heap[B]? = some (.cells #[x0, x1, x2, x3] t fr)) :
    w.cell? ⟨B, 0, none⟩ = some x0 ∧ w.cell? ⟨B, 1, none⟩ = some x1 ∧ w.cell? ⟨B, 2, none⟩ = some x2 ∧ w.cell? ⟨B, 3, none⟩ = some x3 := by
  simp [World.cell?, h]

end Go.GrainU
namespace Go.Proofs.Ytcgcefnfelmmkaa
open Go.RowKit Go.GrainU


end Go.Proofs.Ytcgcefnfelmmkaa
