/-
  The map of steps that the document's answer is made with: one entry, another one, looked into.
-/
import Derived.Test.YtfgablhgjbjbkaeRollPut
import Derived.MapKept
namespace Go.Proofs.Ytfgablhgjbjbkae
open Go.RowKit Go.GrainU

/-- an entry -/
def me (k v : Int) (b : Nat) : MapEntry := { key := .int .i64 k, val := .int .i64 v, born := b }

theorem set_new (W : World) (o o' : Obj) : ({ W.alloc o with heap := (W.alloc o).heap.setIfInBounds W.heap.size o' } : World) = W.alloc o' := by
  have : (W.alloc o).heap = W.heap.push o := rfl
  have h2 : (W.alloc o').heap = W.heap.push o' := rfl
  show World.mk _ _ _ _ _ = World.mk _ _ _ _ _
  congr 1
  show (W.heap.push o).setIfInBounds W.heap.size o' = W.heap.push o'
  apply Array.ext
  · simp
  · intro i h1 h3
    simp at h1 h3
    by_cases e : i = W.heap.size
    · subst e; simp
    · rw [Array.getElem_setIfInBounds_ne (by simp; omega) (Ne.symm e)]
      simp [Array.getElem_push, show i < W.heap.size from by omega]

theorem smap_put {W : World} {B : Nat} (hB : W.heap.size = B) (es : Array MapEntry) (c : Nat) (k v : Int) (hf : Instr.findNow (.int .i64) (.int .i64 k) es.toList 0 = some none) :
    (Instr.mapUpdate 137 (.map (some B)) (.int .i64 k) (.int .i64 v)).run Try.prog (W.alloc (.map es c)) = .ok () (W.alloc (.map (es.push (me k v c)) (c + 1))) := by
  subst hB
  have hb : (W.alloc (.map es c)).heap[W.heap.size]? = some (.map es c) := heap_alloc_new W _
  have hc : (Instr.checkKey false 10000 3 (.int .i64 k)).run Try.prog (W.alloc (.map es c)) = .ok () (W.alloc (.map es c)) := MapKept.run_checkKey (k := .int .i64 k) Try.underlying3 (by simp [MapKept.IsKey]) false 9999
  have hs := set_new W (.map es c) (.map (es.push (me k v c)) (c + 1))
  simp [Instr.mapUpdate, run_underlying Try.underlying137, MapKept.run_getObj_map hb, hc, MapKept.run_findKey Try.underlying3 hf, MapKept.run_setObj_map _ hb, Result.andThen]
  exact hs

theorem smap_get {W : World} {B : Nat} (hB : W.heap.size = B) (es : Array MapEntry) (c : Nat) (k : Int) (r : Int) (hf : (∃ i, Instr.findNow (.int .i64) (.int .i64 k) es.toList 0 = some (some (i, .int .i64 r))) ∨ (Instr.findNow (.int .i64) (.int .i64 k) es.toList 0 = some none ∧ r = 0)) :
    (Instr.lookup 137 (.map (some B)) (.int .i64 k) false).run Try.prog (W.alloc (.map es c)) = .ok (.int .i64 r) (W.alloc (.map es c)) := by
  subst hB
  have hb : (W.alloc (.map es c)).heap[W.heap.size]? = some (.map es c) := heap_alloc_new W _
  have hc : (Instr.checkKey es.isEmpty 10000 3 (.int .i64 k)).run Try.prog (W.alloc (.map es c)) = .ok () (W.alloc (.map es c)) := MapKept.run_checkKey (k := .int .i64 k) Try.underlying3 (by simp [MapKept.IsKey]) es.isEmpty 9999
  have hz : (zeroValue 3).run Try.prog (W.alloc (.map es c)) = .ok (.int .i64 0) (W.alloc (.map es c)) := by
    simp [zeroValue, go_sem, Try.t3]
  rcases hf with ⟨i, hf⟩ | ⟨hf, rfl⟩
  · simp [Instr.lookup, run_underlying Try.underlying137, MapKept.run_getObj_map hb, hc, MapKept.run_findKey Try.underlying3 hf, Result.andThen]
  · simp [Instr.lookup, run_underlying Try.underlying137, MapKept.run_getObj_map hb, hc, MapKept.run_findKey Try.underlying3 hf, hz, Result.andThen]

/-- the map, in either order -/
theorem smap_new {W : World} {B : Nat} (hB : W.heap.size = B) (k v : Int) : (Instr.mapUpdate 137 (.map (some B)) (.int .i64 k) (.int .i64 v)).run Try.prog (W.alloc (.map #[] 0)) = .ok () (W.alloc (.map #[me k v 0] 1)) :=
  smap_put hB #[] 0 k v rfl

theorem smap_12 {W : World} {B : Nat} (hB : W.heap.size = B) : (Instr.mapUpdate 137 (.map (some B)) (.int .i64 2) (.int .i64 60)).run Try.prog (W.alloc (.map #[me 1 10 0] 1)) = .ok () (W.alloc (.map #[me 1 10 0, me 2 60 1] 2)) :=
  smap_put hB #[me 1 10 0] 1 2 60 (by simp [Instr.findNow, Instr.sameNow, me])

theorem smap_21 {W : World} {B : Nat} (hB : W.heap.size = B) : (Instr.mapUpdate 137 (.map (some B)) (.int .i64 1) (.int .i64 10)).run Try.prog (W.alloc (.map #[me 2 60 0] 1)) = .ok () (W.alloc (.map #[me 2 60 0, me 1 10 1] 2)) :=
  smap_put hB #[me 2 60 0] 1 1 10 (by simp [Instr.findNow, Instr.sameNow, me])

theorem smap_look {W : World} {B : Nat} (hB : W.heap.size = B) (tier : Int) : (Instr.lookup 137 (.map (some B)) (.int .i64 tier) false).run Try.prog (W.alloc (.map #[me 1 10 0, me 2 60 1] 2)) = .ok (.int .i64 (stepOf tier)) (W.alloc (.map #[me 1 10 0, me 2 60 1] 2)) := by
  refine smap_get hB _ _ tier _ ?_
  unfold stepOf
  by_cases h1 : tier = 1
  · subst h1; left; exact ⟨0, by simp [Instr.findNow, Instr.sameNow, me]⟩
  · by_cases h2 : tier = 2
    · subst h2; left; exact ⟨1, by simp [Instr.findNow, Instr.sameNow, me]⟩
    · right; simp [Instr.findNow, Instr.sameNow, me, h1, h2, show (tier == 1) = false from by simpa using h1, show (tier == 2) = false from by simpa using h2]

theorem smap_look' {W : World} {B : Nat} (hB : W.heap.size = B) (tier : Int) : (Instr.lookup 137 (.map (some B)) (.int .i64 tier) false).run Try.prog (W.alloc (.map #[me 2 60 0, me 1 10 1] 2)) = .ok (.int .i64 (stepOf tier)) (W.alloc (.map #[me 2 60 0, me 1 10 1] 2)) := by
  refine smap_get hB _ _ tier _ ?_
  unfold stepOf
  by_cases h1 : tier = 1
  · subst h1; left; exact ⟨1, by simp [Instr.findNow, Instr.sameNow, me]⟩
  · by_cases h2 : tier = 2
    · subst h2; left; exact ⟨0, by simp [Instr.findNow, Instr.sameNow, me]⟩
    · right; simp [Instr.findNow, Instr.sameNow, me, h1, h2, show (tier == 1) = false from by simpa using h1, show (tier == 2) = false from by simpa using h2]

end Go.Proofs.Ytfgablhgjbjbkae
