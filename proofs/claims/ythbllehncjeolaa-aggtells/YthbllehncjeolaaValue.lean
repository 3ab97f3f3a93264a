/-
  The walks of Value and Words.
-/
import Derived.Test.YthbllehncjeolaaOf
namespace Go.Proofs.Ythbllehncjeolaa
open Go.RowKit Go.GrainU

def wAvg : ByteArray := ⟨#[97, 118, 103]⟩
def wCount : ByteArray := ⟨#[99, 111, 117, 110, 116]⟩
def wFirst : ByteArray := ⟨#[102, 105, 114, 115, 116]⟩
def wLast : ByteArray := ⟨#[108, 97, 115, 116]⟩
def wMax : ByteArray := ⟨#[109, 97, 120]⟩
def wMin : ByteArray := ⟨#[109, 105, 110]⟩
def wRise : ByteArray := ⟨#[114, 105, 115, 101]⟩
def wSum : ByteArray := ⟨#[115, 117, 109]⟩

/-- what a word says of a sum -/
def val (b : ByteArray) (s : Grain.Sm) : Int × Bool :=
  if s.c < 1 then (0, false) else if b == ⟨#[97, 118, 103]⟩ then (s.t.tdiv s.c, true) else if b == ⟨#[99, 111, 117, 110, 116]⟩ then (s.c, true) else if b == ⟨#[102, 105, 114, 115, 116]⟩ then (s.f, true) else if b == ⟨#[108, 97, 115, 116]⟩ then (s.l, true)
  else if b == ⟨#[109, 97, 120]⟩ then (s.mx, true) else if b == ⟨#[109, 105, 110]⟩ then (s.mn, true) else if b == ⟨#[114, 105, 115, 101]⟩ then (s.r, true) else if b == ⟨#[115, 117, 109]⟩ then (s.t, true) else (0, false)

set_option maxHeartbeats 1000000 in
theorem value_rise (s : Grain.Sm) (w : World) (h : 1 ≤ s.c) :
    Calls Try.prog 23 #[.string ⟨#[114, 105, 115, 101]⟩, .agg #[.int .i64 s.c, .int .i64 s.t, .int .i64 s.mn, .int .i64 s.mx, .int .i64 s.f, .int .i64 s.l, .int .i64 s.r]] w fun e w' => e = .returned (.tuple #[.int .i64 s.r, .bool true]) ∧ Below w.heap.size w w' := by
  go_enter Try.func23, Try.ntmps23
  go_wp2
  exact bodyPost_ret (v := .tuple #[.int .i64 s.r, .bool true]) (by simp [results, Try.results23, go_sem]) rfl ⟨rfl, by go_grown⟩

set_option maxHeartbeats 1000000 in
theorem words_any (w : World) :
    Calls Try.prog 22 #[] w fun e w' => ∃ g, e = .returned (.slice (some ⟨g, 0, none⟩) 8 8) ∧ g = w.heap.size ∧ w' = w.alloc (.cells #[.string wAvg, .string wCount, .string wFirst, .string wLast, .string wMax, .string wMin, .string wRise, .string wSum] 9) := by
  go_enter Try.func22, Try.ntmps22
  go_wp2
  go_ret
  exact ⟨_, rfl, rfl, rfl⟩

end Go.Proofs.Ythbllehncjeolaa
