/-
  A shelf in memory.
-/
import Derived.Test.YtcgcefnfelmmkaaShM
import Derived.Test.YtcgcefnfelmmkaaRollU
namespace Go.GrainU
open Go.RowKit

/-- a shelf, and where its slices lie -/
structure ShT where
  s : Grain.Shf
  a0 : Option Addr
  c0 : Nat
  a1 : Option Addr
  c1 : Nat
  a2 : Option Addr
  c2 : Nat
  a3 : Option Addr
  c3 : Nat

/-- its cells -/
def ShT.cells (x : ShT) : List Value :=
  [.slice x.a0 x.s.se.length x.c0, .slice x.a1 x.s.ra.length x.c1, .slice x.a2 x.s.fi.length x.c2, .slice x.a3 x.s.co.length x.c3, .int .i64 x.s.rf, .int .i64 x.s.ff, .int .i64 x.s.ft, .int .i64 x.s.cf, .int .i64 x.s.ct]

/-- its value -/
def ShT.v (x : ShT) : Value :=
  .agg #[.slice x.a0 x.s.se.length x.c0, .slice x.a1 x.s.ra.length x.c1, .slice x.a2 x.s.fi.length x.c2, .slice x.a3 x.s.co.length x.c3, .int .i64 x.s.rf, .int .i64 x.s.ff, .int .i64 x.s.ft, .int .i64 x.s.cf, .int .i64 x.s.ct]

/-- it lies there, and holds no more than can -/
structure ShIn (w : World) (x : ShT) : Prop where
  g0 : Seg w x.a0 (lcells x.s.se)
  g1 : Seg w x.a1 (scells x.s.ra)
  g2 : Seg w x.a2 (kcells x.s.fi)
  g3 : Seg w x.a3 (kcells x.s.co)
  fits : Fits x.s.se
  n0 : x.s.se.length * 32 ≤ 140737488355328
  n1 : x.s.ra.length * 16 ≤ 140737488355328
  n2 : x.s.fi.length * 64 ≤ 140737488355328
  n3 : x.s.co.length * 64 ≤ 140737488355328
  z0 : x.a0 = none → x.s.se.length = 0 ∧ x.c0 = 0
  z1 : x.a1 = none → x.s.ra.length = 0 ∧ x.c1 = 0
  z2 : x.a2 = none → x.s.fi.length = 0 ∧ x.c2 = 0
  z3 : x.a3 = none → x.s.co.length = 0 ∧ x.c3 = 0

theorem ShIn.below {w w' : World} {x : ShT} (h : ShIn w x) (hb : Below w.heap.size w w') : ShIn w' x :=
  ⟨h.g0.below hb, h.g1.below hb, h.g2.below hb, h.g3.below hb, h.fits, h.n0, h.n1, h.n2, h.n3, h.z0, h.z1, h.z2, h.z3⟩

end Go.GrainU
