/-
  The plain mathematics of the document's Parse: where reading stands, by the samples that were read.
-/
import Derived.Test.YtlepdjfkgingpaaMathB
namespace Grain

/-- the time of the sample two ahead -/
def yp (l : List (Int × Int)) : Nat → Int | 0 => 0 | k + 1 => tp l k

theorem sp_yp (l : List (Int × Int)) (k : Nat) : sp l k = tp l k - yp l k := by
  match k with
  | 0 => rfl
  | k + 1 => rfl

theorem tm_snoc {l : List (Int × Int)} {x : Int × Int} {k : Nat} (h : k < l.length) : tm (l ++ [x]) k = tm l k ∧ vl (l ++ [x]) k = vl l k := by
  simp [tm, vl, List.getD, List.getElem?_append_left h]

theorem tm_last (l : List (Int × Int)) (x : Int × Int) : tm (l ++ [x]) l.length = x.1 ∧ vl (l ++ [x]) l.length = x.2 := by
  simp [tm, vl, List.getD]

theorem tp_snoc {l : List (Int × Int)} {x : Int × Int} {k : Nat} (h : k ≤ l.length) : tp (l ++ [x]) k = tp l k := by
  match k with
  | 0 => rfl
  | k + 1 => exact (tm_snoc (show k < l.length by omega)).1

/-- where reading stands: by the samples alone -/
def AtL (n : Nat) (r0 : List Int) (k : Nat) (rs : List Int) (pre : List (Int × Int)) : Prop := At n r0 k rs pre (tp pre k) (vp pre k) (sp pre k)

theorem AtL.start (n : Nat) (r0 : List Int) : AtL n r0 0 r0 [] := At.start n r0

theorem AtL.next {n k : Nat} {r0 rs r r' : List Int} {pre : List (Int × Int)} {d h : Int} (a : AtL n r0 k rs pre) (hk : k < n) (h1 : getNum rs = some (d, r)) (h2 : getNum r = some (h, r')) :
    AtL n r0 (k + 1) r' (pre ++ [(2 * tp pre k - yp pre k + d, vp pre k + h)]) := by
  have b := At.next a hk h1 h2
  have hl := a.len
  have e1 : tp pre k + (sp pre k + d) = 2 * tp pre k - yp pre k + d := by rw [sp_yp]; omega
  rw [e1] at b
  unfold AtL
  subst hl
  have t1 : tp (pre ++ [(2 * tp pre pre.length - yp pre pre.length + d, vp pre pre.length + h)]) (pre.length + 1) = 2 * tp pre pre.length - yp pre pre.length + d := (tm_last _ _).1
  have t2 : vp (pre ++ [(2 * tp pre pre.length - yp pre pre.length + d, vp pre pre.length + h)]) (pre.length + 1) = vp pre pre.length + h := (tm_last _ _).2
  have t3 : sp (pre ++ [(2 * tp pre pre.length - yp pre pre.length + d, vp pre pre.length + h)]) (pre.length + 1) = sp pre pre.length + d := by
    show tm _ _ - tp _ _ = _
    rw [(tm_last _ _).1, tp_snoc (Nat.le_refl _), sp_yp]; simp only []; omega
  rw [t1, t2, t3]
  exact b

end Grain
