/-
  The map of kinds that the document's answer is made with: four entries, looked into.
-/
import Derived.Test.YtppaknkhmmcanacDoorExE
import Derived.MapKept
namespace Go.Proofs.YtppaknkhmmcanacDoor
open Go.RowKit Go.GrainU

/-- an entry -/
def kme (k v : Int) (b : Nat) : MapEntry := { key := .int .i64 k, val := .int .i64 v, born := b }

theorem kset_new (W : World) (o o' : Obj) : ({ W.alloc o with heap := (W.alloc o).heap.setIfInBounds W.heap.size o' } : World) = W.alloc o' := by
  have : (W.alloc o).heap = W.heap.push o := rfl
  have h2 : (W.alloc o').heap = W.heap.push o' := rfl
  show World.mk _ _ _ _ _ = World.mk _ _ _ _ _
  congr 1
  show (W.heap.push o).setIfInBounds W.heap.size o' = W.heap.push o'
  apply Array.ext
  · simp
  · intro i h1 h3
    simp at h1 h3
    by_cases e : i = W.heap.size
    · subst e; simp
    · rw [Array.getElem_setIfInBounds_ne (by simp; omega) (Ne.symm e)]
      simp [Array.getElem_push, show i < W.heap.size from by omega]

theorem kmap_put {W : World} {B : Nat} (hB : W.heap.size = B) (es : Array MapEntry) (c : Nat) (k v : Int) (hf : Instr.findNow (.int .i64) (.int .i64 k) es.toList 0 = some none) :
    (Instr.mapUpdate 74 (.map (some B)) (.int .i64 k) (.int .i64 v)).run Tryd.prog (W.alloc (.map es c)) = .ok () (W.alloc (.map (es.push (kme k v c)) (c + 1))) := by
  subst hB
  have hb : (W.alloc (.map es c)).heap[W.heap.size]? = some (.map es c) := heap_alloc_new W _
  have hc : (Instr.checkKey false 10000 3 (.int .i64 k)).run Tryd.prog (W.alloc (.map es c)) = .ok () (W.alloc (.map es c)) := MapKept.run_checkKey (k := .int .i64 k) Tryd.underlying3 (by simp [MapKept.IsKey]) false 9999
  have hs := kset_new W (.map es c) (.map (es.push (kme k v c)) (c + 1))
  simp [Instr.mapUpdate, run_underlying Tryd.underlying74, MapKept.run_getObj_map hb, hc, MapKept.run_findKey Tryd.underlying3 hf, MapKept.run_setObj_map _ hb, Result.andThen]
  exact hs

theorem kmap_get {W : World} {B : Nat} (hB : W.heap.size = B) (es : Array MapEntry) (c : Nat) (k : Int) (r : Int) (ok : Bool) (hf : (∃ i, Instr.findNow (.int .i64) (.int .i64 k) es.toList 0 = some (some (i, .int .i64 r)) ∧ ok = true) ∨ (Instr.findNow (.int .i64) (.int .i64 k) es.toList 0 = some none ∧ r = 0 ∧ ok = false)) :
    (Instr.lookup 74 (.map (some B)) (.int .i64 k) true).run Tryd.prog (W.alloc (.map es c)) = .ok (.tuple #[.int .i64 r, .bool ok]) (W.alloc (.map es c)) := by
  subst hB
  have hb : (W.alloc (.map es c)).heap[W.heap.size]? = some (.map es c) := heap_alloc_new W _
  have hc : (Instr.checkKey es.isEmpty 10000 3 (.int .i64 k)).run Tryd.prog (W.alloc (.map es c)) = .ok () (W.alloc (.map es c)) := MapKept.run_checkKey (k := .int .i64 k) Tryd.underlying3 (by simp [MapKept.IsKey]) es.isEmpty 9999
  have hz : (zeroValue 3).run Tryd.prog (W.alloc (.map es c)) = .ok (.int .i64 0) (W.alloc (.map es c)) := by
    simp [zeroValue, go_sem, Tryd.t3]
  rcases hf with ⟨i, hf, rfl⟩ | ⟨hf, rfl, rfl⟩
  · simp [Instr.lookup, run_underlying Tryd.underlying74, MapKept.run_getObj_map hb, hc, MapKept.run_findKey Tryd.underlying3 hf, Result.andThen]
  · simp [Instr.lookup, run_underlying Tryd.underlying74, MapKept.run_getObj_map hb, hc, MapKept.run_findKey Tryd.underlying3 hf, hz, Result.andThen]

/-- the map -/
def kes : Array MapEntry := #[kme 1 0 0, kme 2 0 1, kme 3 1 2, kme 4 2 3]

theorem kmap_all {W : World} {B : Nat} (hB : W.heap.size = B) (kd : Int) :
    (Instr.mapUpdate 74 (.map (some B)) (.int .i64 1) (.int .i64 0)).run Tryd.prog (W.alloc (.map #[] 0)) = .ok () (W.alloc (.map #[kme 1 0 0] 1)) ∧
    (Instr.mapUpdate 74 (.map (some B)) (.int .i64 2) (.int .i64 0)).run Tryd.prog (W.alloc (.map #[kme 1 0 0] 1)) = .ok () (W.alloc (.map #[kme 1 0 0, kme 2 0 1] 2)) ∧
    (Instr.mapUpdate 74 (.map (some B)) (.int .i64 3) (.int .i64 1)).run Tryd.prog (W.alloc (.map #[kme 1 0 0, kme 2 0 1] 2)) = .ok () (W.alloc (.map #[kme 1 0 0, kme 2 0 1, kme 3 1 2] 3)) ∧
    (Instr.mapUpdate 74 (.map (some B)) (.int .i64 4) (.int .i64 2)).run Tryd.prog (W.alloc (.map #[kme 1 0 0, kme 2 0 1, kme 3 1 2] 3)) = .ok () (W.alloc (.map #[kme 1 0 0, kme 2 0 1, kme 3 1 2, kme 4 2 3] 4)) ∧
    (Instr.lookup 74 (.map (some B)) (.int .i64 kd) true).run Tryd.prog (W.alloc (.map #[kme 1 0 0, kme 2 0 1, kme 3 1 2, kme 4 2 3] 4)) = .ok (.tuple #[.int .i64 (kidsK kd).1, .bool (kidsK kd).2]) (W.alloc (.map #[kme 1 0 0, kme 2 0 1, kme 3 1 2, kme 4 2 3] 4)) := by
  refine ⟨kmap_put hB #[] 0 1 0 rfl, kmap_put hB #[kme 1 0 0] 1 2 0 (by simp [Instr.findNow, Instr.sameNow, kme]), kmap_put hB #[kme 1 0 0, kme 2 0 1] 2 3 1 (by simp [Instr.findNow, Instr.sameNow, kme]), kmap_put hB #[kme 1 0 0, kme 2 0 1, kme 3 1 2] 3 4 2 (by simp [Instr.findNow, Instr.sameNow, kme]), kmap_get hB _ _ kd _ _ ?_⟩
  by_cases h1 : kd = 1
  · subst h1; left; exact ⟨0, by simp [Instr.findNow, Instr.sameNow, kme, kidsK], by simp [kidsK]⟩
  by_cases h2 : kd = 2
  · subst h2; left; exact ⟨1, by simp [Instr.findNow, Instr.sameNow, kme, kidsK], by simp [kidsK]⟩
  by_cases h3 : kd = 3
  · subst h3; left; exact ⟨2, by simp [Instr.findNow, Instr.sameNow, kme, kidsK], by simp [kidsK]⟩
  by_cases h4 : kd = 4
  · subst h4; left; exact ⟨3, by simp [Instr.findNow, Instr.sameNow, kme, kidsK], by simp [kidsK]⟩
  right
  exact ⟨by simp [Instr.findNow, Instr.sameNow, kme, show (kd == 1) = false from by simpa using h1, show (kd == 2) = false from by simpa using h2, show (kd == 3) = false from by simpa using h3, show (kd == 4) = false from by simpa using h4], by simp [kidsK, h1, h2, h3, h4], by simp [kidsK, h1, h2, h3, h4]⟩

end Go.Proofs.YtppaknkhmmcanacDoor
