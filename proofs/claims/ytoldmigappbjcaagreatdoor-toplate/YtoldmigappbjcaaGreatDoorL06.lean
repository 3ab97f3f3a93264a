import Derived.Below
import Derived.ChangeOld
import Derived.Deep.Slices
import Derived.OpenShut
import Derived.ProofKit
import Derived.SizedLaws
import Derived.Test.YtoldmigappbjcaaGreatDoorL02
import Derived.Test.YtoldmigappbjcaaGreatDoorL05
import Derived.Test.YtoldmigappbjcaaGreatDoorRows
namespace Go.GrainU
open Go.RowKit
instance : Inhabited Mt := ⟨⟨0, ⟨#[]⟩, ⟨#[]⟩⟩⟩
end Go.GrainU
namespace Go.Proofs.YtoldmigappbjcaaGreatDoor
open Go.ChangeShapes Go.WideShapes Go.ChangeAt Go.RowKit Go.GrainU
theorem Tryz.own : ownKnob Tryz.prog.godebug = none := by kernel_rfl
end Go.Proofs.YtoldmigappbjcaaGreatDoor
