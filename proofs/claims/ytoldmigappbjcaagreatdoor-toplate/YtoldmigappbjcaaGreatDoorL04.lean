import Derived.WalkKit
namespace Grain
def byt (s : ByteArray) (k : Nat) : Int := ((s.data.toList.getD k 0).toNat : Int)
def low (c : Int) : Bool := decide (97 ≤ c) && decide (c ≤ 122)
def badN (k : Nat) (c : Int) : Bool := (decide (k = 0) && !low c) || (!low c && (decide (c ≠ 95) && (decide (c < 48) || decide (57 < c))))
def fineN (s : ByteArray) : Nat → Bool
 | 0 => true
 | k + 1 => fineN s k && !badN k (byt s k)
def named (s : ByteArray) : Bool := fineN s s.size && (decide (0 < s.size) && decide (s.size ≤ 12))
theorem fineN_no {s : ByteArray} {k : Nat} (h : badN k (byt s k) = true) : ∀ n, k < n → fineN s n = false := by
 intro n
 induction n with
 | zero => intro h; omega
 | succ n ih =>
  intro hk
  rcases (show k < n ∨ k = n from by omega) with e | e
  ·simp [fineN, ih e]
  ·subst e; simp [fineN, h]
end Grain
