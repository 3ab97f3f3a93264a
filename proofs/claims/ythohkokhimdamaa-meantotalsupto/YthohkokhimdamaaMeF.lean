/-
  The walk of windowOf.
-/
import Derived.Test.YthohkokhimdamaaMeE
import Derived.Deep.CutRange
namespace Go.GrainU
open Go.RowKit

theorem below_dr {W V : World} (h : Below W.heap.size W V) : Below W.heap.size W V.drew := below_drewN h 1

theorem below_al {W V : World} (h : Below W.heap.size W V) (o : Obj) : Below W.heap.size W (V.alloc o) := h.alloc h.size _

/-- lines that are right -/
structure LnRt (x : LT) : Prop where
  ser : x.ser.length ≤ 4
  smp : Grain.Right x.smp

/-- an own row of cells, and their series elsewhere -/
structure OwnC (w : World) (base T : Nat) (v : Value) (N : Nat) (l : List CT) : Prop where
  own : w.ownsRow base T 2 v N (ccells l)
  ser : ∀ c ∈ l, SegN w v.ownBlock c.sa (lcells c.ser)

theorem OwnC.nil (w : World) (base T : Nat) : OwnC w base T (.slice none 0 0) 0 [] := ⟨World.ownsRow_nil _ _ _ _, fun c hc => by cases hc⟩

theorem OwnC.len {w : World} {base T N : Nat} {v : Value} {l : List CT} (h : OwnC w base T v N l) : N = l.length := by
  have := h.own.1; rw [ccells_length] at this; omega

theorem OwnC.below {w w' : World} {base T N : Nat} {v : Value} {l : List CT} (h : OwnC w base T v N l) (hb : Below w.heap.size w w') : OwnC w' base T v N l := ⟨own_below h.own hb, fun c hc => (h.ser c hc).below hb⟩

theorem OwnC.csIn {w : World} {base T N d : Nat} {co : Option Addr} {l : List CT} (h : OwnC w base T (.slice co N d) N l) : CsIn w co l := by
  obtain ⟨ao', c, hv, hs, _⟩ := own_open h.own
  simp only [Value.slice.injEq] at hv
  obtain ⟨rfl, -, rfl⟩ := hv
  exact ⟨hs, fun c hc => (h.ser c hc).seg⟩

/-- an append of one cell -/
theorem OwnC.push {w w' : World} {base T N d g' cp' : Nat} {co : Option Addr} {l : List CT} (h : OwnC w base T (.slice co N d) N l) (c : CT) (hc : SegN w (Value.slice co N d).ownBlock c.sa (lcells c.ser))
    (own : w'.ownsRow base T 2 (.slice (some ⟨g', 0, none⟩) (N + 1) cp') (N + 1) (ccells l ++ [.slice c.sa c.ser.length c.sc, .int .i64 c.v])) (gr : w.grownBy w' (Value.slice co N d).ownBlock) (hat : (Value.slice co N d).ownBlock = some g' ∨ w.heap.size ≤ g') :
    OwnC w' base T (.slice (some ⟨g', 0, none⟩) (N + 1) cp') (N + 1) (l ++ [c]) := by
  have hr : ∀ g, (Value.slice (some ⟨g', 0, none⟩) (N + 1) cp').ownBlock = some g → (Value.slice co N d).ownBlock = some g ∨ w.heap.size ≤ g := fun g hg => by
    simp [Value.ownBlock] at hg
    subst hg
    exact hat
  refine ⟨by rw [ccells_append]; exact own, fun x hx => ?_⟩
  rcases List.mem_append.1 hx with e | e
  · exact (h.ser x e).grown gr hr
  · simp at e
    subst e
    exact hc.grown gr hr

end Go.GrainU
namespace Go.Proofs.Ythohkokhimdamaa
open Go.RowKit Go.GrainU

theorem sum_new (w : World) (J : Grain.Sm) : SumAt (w.alloc (.cells #[.int .i64 J.c, .int .i64 J.t, .int .i64 J.mn, .int .i64 J.mx, .int .i64 J.f, .int .i64 J.l, .int .i64 J.r] 54)) w.heap.size J := heap_alloc_new _ _
theorem sum_zero {w : World} {B : Nat} (h : w.heap[B]? = some (Obj.cells #[.int .i64 0, .int .i64 0, .int .i64 0, .int .i64 0, .int .i64 0, .int .i64 0, .int .i64 0] 54 (0, 0))) : SumAt w B Grain.zero := h

end Go.Proofs.Ythohkokhimdamaa
