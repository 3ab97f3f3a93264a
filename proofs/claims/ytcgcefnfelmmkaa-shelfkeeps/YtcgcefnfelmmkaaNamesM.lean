/-
  The plain mathematics of names. No program is named here.
-/
import Derived.WalkKit
namespace Grain

/-- byte k of a word -/
def byt (s : ByteArray) (k : Nat) : Int := ((s.data.toList.getD k 0).toNat : Int)

/-- a small letter -/
def low (c : Int) : Bool := decide (97 ≤ c) && decide (c ≤ 122)

/-- byte k may not stand there -/
def badN (k : Nat) (c : Int) : Bool := (decide (k = 0) && !low c) || (!low c && (decide (c ≠ 95) && (decide (c < 48) || decide (57 < c))))

/-- no byte up to k is wrong -/
def fineN (s : ByteArray) : Nat → Bool
  | 0 => true
  | k + 1 => fineN s k && !badN k (byt s k)

/-- a name -/
def named (s : ByteArray) : Bool := fineN s s.size && (decide (0 < s.size) && decide (s.size ≤ 12))

theorem byt_bd (s : ByteArray) (k : Nat) : 0 ≤ byt s k ∧ byt s k ≤ 255 := by
  unfold byt
  have := (s.data.toList.getD k 0).toNat_lt
  omega

theorem fineN_no {s : ByteArray} {k : Nat} (h : badN k (byt s k) = true) : ∀ n, k < n → fineN s n = false := by
  intro n
  induction n with
  | zero => intro h; omega
  | succ n ih =>
    intro hk
    rcases (show k < n ∨ k = n from by omega) with e | e
    · simp [fineN, ih e]
    · subst e; simp [fineN, h]

end Grain
