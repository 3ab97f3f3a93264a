/-
  Parts of the caller's own.
-/
import Derived.Test.YtfgablhgjbjbkafPlA
import Derived.Test.YtfgablhgjbjbkafRollPutB
namespace Go.Proofs.Ytfgablhgjbjbkaf
open Go.RowKit Go.GrainU

/-- what put answers: parts in memory of the caller's own -/
def PPost (base : Nat) (v : Value) (w : World) (Y : List Grain.Pt) (e : Ending) (w' : World) : Prop :=
  ∃ g n' cap', e = .returned (.slice (some ⟨g, 0, none⟩) n' cap') ∧ w'.ownsRow base 34 3 (.slice (some ⟨g, 0, none⟩) n' cap') n' (pcells Y) ∧ w.grownBy w' v.ownBlock

/-- the cells of the last part of an owned row -/
theorem own_plast {w : World} {base e g n cap : Nat} {R : List Grain.Pt} {b : Grain.Pt} (h : w.ownsRow base e 3 (.slice (some ⟨g, 0, none⟩) n cap) n (pcells (R ++ [b]))) : Cells3 w g (R.length * 3) b := by
  obtain ⟨bb, off, e1, _, hc⟩ := seg_part (own_seg h) (k := R.length) (by simp)
  simp at e1
  obtain ⟨rfl, rfl⟩ := e1
  have := hc R.length (by simp)
  rw [Nat.zero_add] at this
  have eb : Grain.pt (R ++ [b]) R.length = b := by simp [Grain.pt]
  rw [eb] at this
  exact this

end Go.Proofs.Ytfgablhgjbjbkaf
