import Derived.Deep.RegionHeld3
import Derived.Test.YtoldmigappbjcaaGreatDoorL24
import Derived.Test.YtoldmigappbjcaaGreatDoorL25
import Derived.Test.YtoldmigappbjcaaGreatDoorL36
import Derived.Test.YtoldmigappbjcaaGreatDoorL37
namespace Go.GrainU
open Go.RowKit
theorem below_step {W w1 w2 : World} (h2 : Below w1.heap.size w1 w2) (h1 : Below W.heap.size W w1) : Below W.heap.size W w2 := h1.trans (h2.mono h1.size)
end Go.GrainU
namespace Go.Proofs.YtoldmigappbjcaaGreatDoor
open Go.RowKit Go.GrainU
end Go.Proofs.YtoldmigappbjcaaGreatDoor
