/-
  The plain mathematics of sums: what samples come to, one by one; parts. No program is named here.
-/
import Derived.WalkKit
import Derived.IntWalk
import Derived.Test.YtcgcefnfelmmkaaMath
namespace Grain

/-- a sum: count, total, least, greatest, first, last, rise -/
structure Sm where
  c : Int
  t : Int
  mn : Int
  mx : Int
  f : Int
  l : Int
  r : Int

/-- as a 64 bit number -/
def wr (x : Int) : Int := Go.IntKind.i64.wrap x
theorem wr_eq (x : Int) : wr x = (x + 9223372036854775808) % 18446744073709551616 - 9223372036854775808 := Go.IntKind.wrap_i64 x

def rise (a b : Int) : Int := if b < a then b else wr (b - a)
def zero : Sm := ⟨0, 0, 0, 0, 0, 0, 0⟩
def one (v : Int) : Sm := ⟨1, v, v, v, v, v, 0⟩
def join (a b : Sm) : Sm :=
  if a.c = 0 then b else if b.c = 0 then a else
    ⟨wr (a.c + b.c), wr (a.t + b.t), if b.mn < a.mn then b.mn else a.mn, if b.mx > a.mx then b.mx else a.mx, a.f, b.l, wr (wr (a.r + rise a.l b.f) + b.r)⟩

theorem wr_in {x : Int} (h : -9223372036854775808 ≤ x) (h' : x ≤ 9223372036854775807) : wr x = x := by rw [wr_eq]; omega

theorem join_zero_left (a b : Sm) (h : a.c = 0) : join a b = b := by simp [join, h]
theorem join_zero_right (a b : Sm) (h : a.c ≠ 0) (h' : b.c = 0) : join a b = a := by simp [join, h, h']

theorem join_full (a b : Sm) (h : a.c ≠ 0) (h' : b.c ≠ 0) : join a b = ⟨wr (a.c + b.c), wr (a.t + b.t), if b.mn < a.mn then b.mn else a.mn, if b.mx > a.mx then b.mx else a.mx, a.f, b.l, wr (wr (a.r + rise a.l b.f) + b.r)⟩ := by
  simp [join, h, h']

theorem Sm.ext {a b : Sm} (h1 : a.c = b.c) (h2 : a.t = b.t) (h3 : a.mn = b.mn) (h4 : a.mx = b.mx) (h5 : a.f = b.f) (h6 : a.l = b.l) (h7 : a.r = b.r) : a = b := by
  cases a; cases b; simp at *; exact ⟨h1, h2, h3, h4, h5, h6, h7⟩

theorem join_assoc (a b c : Sm) (ha : 0 ≤ a.c ∧ a.c ≤ 1152921504606846976) (hb : 0 ≤ b.c ∧ b.c ≤ 1152921504606846976) (hc : 0 ≤ c.c ∧ c.c ≤ 1152921504606846976) :
    join a (join b c) = join (join a b) c := by
  by_cases h1 : a.c = 0
  · rw [join_zero_left a _ h1, join_zero_left a b h1]
  by_cases h2 : b.c = 0
  · rw [join_zero_left b c h2, join_zero_right a b h1 h2]
  by_cases h3 : c.c = 0
  · rw [join_zero_right b c h2 h3]
    have : (join a b).c ≠ 0 := by rw [join_full a b h1 h2]; show wr (a.c + b.c) ≠ 0; rw [wr_in (by omega) (by omega)]; omega
    rw [join_zero_right _ c this h3]
  have e1 : wr (b.c + c.c) = b.c + c.c := wr_in (by omega) (by omega)
  have e2 : wr (a.c + b.c) = a.c + b.c := wr_in (by omega) (by omega)
  rw [join_full b c h2 h3, join_full a b h1 h2, join_full a _ h1 (by show wr (b.c + c.c) ≠ 0; omega), join_full _ c (by show wr (a.c + b.c) ≠ 0; omega) h3]
  apply Sm.ext
  · show wr (a.c + wr (b.c + c.c)) = wr (wr (a.c + b.c) + c.c); rw [e1, e2, Int.add_assoc]
  · show wr (a.t + wr (b.t + c.t)) = wr (wr (a.t + b.t) + c.t); simp only [wr_eq]; omega
  · show (if (if c.mn < b.mn then c.mn else b.mn) < a.mn then (if c.mn < b.mn then c.mn else b.mn) else a.mn) = if c.mn < (if b.mn < a.mn then b.mn else a.mn) then c.mn else (if b.mn < a.mn then b.mn else a.mn)
    split <;> split <;> (try split) <;> (try split) <;> omega
  · show (if (if c.mx > b.mx then c.mx else b.mx) > a.mx then (if c.mx > b.mx then c.mx else b.mx) else a.mx) = if c.mx > (if b.mx > a.mx then b.mx else a.mx) then c.mx else (if b.mx > a.mx then b.mx else a.mx)
    split <;> split <;> (try split) <;> (try split) <;> omega
  · rfl
  · rfl
  · show wr (wr (a.r + rise a.l b.f) + wr (wr (b.r + rise b.l c.f) + c.r)) = wr (wr (wr (wr (a.r + rise a.l b.f) + b.r) + rise b.l c.f) + c.r)
    generalize rise a.l b.f = x
    generalize rise b.l c.f = y
    simp only [wr_eq]; omega

/-- what the first k samples come to -/
def ofN (l : List (Int × Int)) : Nat → Sm
  | 0 => zero
  | k + 1 => join (ofN l k) (one (vl l k))

/-- what samples come to -/
def of (l : List (Int × Int)) : Sm := ofN l l.length

theorem ofN_c (l : List (Int × Int)) : ∀ k : Nat, k ≤ 1152921504606846976 → (ofN l k).c = k := by
  intro k
  induction k with
  | zero => intro _; rfl
  | succ k ih =>
    intro h
    have ih := ih (by omega)
    by_cases h0 : k = 0
    · subst h0; simp [ofN, join, zero, one]
    · rw [ofN, join_full _ _ (by omega) (by simp [one])]
      show wr ((ofN l k).c + 1) = ((k + 1 : Nat) : Int)
      rw [ih, wr_in (by omega) (by omega)]; omega

theorem ofN_append_left (a b : List (Int × Int)) : ∀ k, k ≤ a.length → ofN (a ++ b) k = ofN a k := by
  intro k
  induction k with
  | zero => intro _; rfl
  | succ k ih =>
    intro h
    rw [ofN, ofN, ih (by omega)]
    have : vl (a ++ b) k = vl a k := by simp [vl, List.getD, List.getElem?_append_left (show k < a.length by omega)]
    rw [this]

theorem ofN_append (a b : List (Int × Int)) (ha : a.length ≤ 1152921504606846975) : ∀ k, k ≤ 1152921504606846975 → ofN (a ++ b) (a.length + k) = join (of a) (ofN b k) := by
  intro k
  induction k with
  | zero =>
    intro _
    rw [Nat.add_zero, ofN_append_left a b _ (Nat.le_refl _)]
    by_cases h : a.length = 0
    · rw [join_zero_left _ _ (by unfold of; rw [ofN_c a _ (by omega)]; omega), h]; rfl
    · rw [join_zero_right _ _ (by unfold of; rw [ofN_c a _ (by omega)]; omega) rfl]; rfl
  | succ k ih =>
    intro h
    have ih := ih (by omega)
    rw [show a.length + (k + 1) = a.length + k + 1 from by omega, ofN, ofN, ih]
    have hv : vl (a ++ b) (a.length + k) = vl b k := by simp [vl, List.getD, List.getElem?_append_right (show a.length ≤ a.length + k by omega)]
    rw [hv]
    refine (join_assoc _ _ _ ?_ ?_ ?_).symm
    · unfold of; rw [ofN_c a _ (by omega)]; omega
    · rw [ofN_c b _ (by omega)]; omega
    · simp [one]

theorem of_append (a b : List (Int × Int)) (ha : a.length ≤ 1152921504606846975) (hb : b.length ≤ 1152921504606846975) : of (a ++ b) = join (of a) (of b) := by
  have := ofN_append a b ha b.length hb
  rw [← List.length_append] at this
  exact this

end Grain
