/-
  What is wrong with a series.
-/
import Derived.Test.YtcgcefnfelmmkaaLabU
namespace Go.GrainU
open Go.RowKit

/-- a word comes ahead of another, or is it -/
def wle (a b : ByteArray) : Bool := Op.bytesLess a.toList b.toList || a.toList == b.toList

/-- what is wrong with label k: 7, 2, or 0 -/
def badS (l : List (ByteArray × ByteArray)) (k : Nat) : Int :=
  if (Grain.named (lk l k) && Grain.named (lv l k)) = false then 7 else if 0 < k ∧ wle (lk l k) (lk l (k - 1)) = true then 2 else 0

/-- what is wrong with the labels from k on, n of them -/
def wrongSF (l : List (ByteArray × ByteArray)) : Nat → Nat → Int
  | 0, _ => 0
  | n + 1, k => if badS l k = 0 then wrongSF l n (k + 1) else badS l k

/-- what is wrong with a series -/
def wrongS (l : List (ByteArray × ByteArray)) : Int := if 4 < l.length then 5 else wrongSF l l.length 0

theorem wrongSF_ok {l : List (ByteArray × ByteArray)} {n k : Nat} (h : badS l k = 0) : wrongSF l (n + 1) k = wrongSF l n (k + 1) := by simp [wrongSF, h]
theorem wrongSF_no {l : List (ByteArray × ByteArray)} {n k : Nat} (h : badS l k ≠ 0) : wrongSF l (n + 1) k = badS l k := by simp [wrongSF, h]

/-- words as long as words can be -/
def Fits (l : List (ByteArray × ByteArray)) : Prop := ∀ k, k < l.length → (lk l k).size ≤ 9223372036854775807 ∧ (lv l k).size ≤ 9223372036854775807

end Go.GrainU
