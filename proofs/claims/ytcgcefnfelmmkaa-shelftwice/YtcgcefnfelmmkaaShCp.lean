/-
  A shelf whose slices have room for what they hold.
-/
import Derived.Test.YtcgcefnfelmmkaaShU
namespace Go.GrainU

structure ShCap (x : ShT) : Prop where
  k1 : x.s.ra.length ≤ x.c1
  k2 : x.s.fi.length ≤ x.c2
  k3 : x.s.co.length ≤ x.c3

end Go.GrainU
