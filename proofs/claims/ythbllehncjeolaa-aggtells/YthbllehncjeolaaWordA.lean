/-
  The walk of the document's Word: a map of all words, filled in whatever order, looked into.
-/
import Derived.Test.YthbllehncjeolaaOf
import Derived.Test.YthbllehncjeolaaMapL
import Derived.Test.YthbllehncjeolaaFlowL
namespace Go.Proofs.Ythbllehncjeolaa
open Go.RowKit Go.GrainU

def sl (b : Bool) (v : Value) : Value := cond b v undef

/-- the frame, by which operations have come up -/
def wF (w : World) (s : Grain.Sm) (x : ByteArray) (r : Int × Bool) (L : Nat → Bool) : Act := { tmps := #[.string x, .agg #[.int .i64 s.c, .int .i64 s.t, .int .i64 s.mn, .int .i64 s.mx, .int .i64 s.f, .int .i64 s.l, .int .i64 s.r], undef, .pointer (some ⟨w.heap.size, 0, none⟩), .int .i64 0, .bool false, sl (L 34) (.int .i64 r.1), sl (L 35) (.bool r.2), .pointer (some ⟨w.heap.size, 0, none⟩), .int .i64 s.c, .bool (decide (s.c < 1)), sl (L 31) (.tuple #[.int .i64 r.1, .bool r.2]), sl (L 0) (.map (some (w.heap.size + 1))), sl (L 1) (.pointer (some ⟨w.heap.size, 1, none⟩)), sl (L 2) (.int .i64 s.t), sl (L 3) (.pointer (some ⟨w.heap.size, 0, none⟩)), sl (L 4) (.int .i64 s.c), sl (L 5) (.int .i64 (s.t.tdiv s.c)), sl (L 7) (.pointer (some ⟨w.heap.size, 0, none⟩)), sl (L 8) (.int .i64 s.c), sl (L 10) (.pointer (some ⟨w.heap.size, 4, none⟩)), sl (L 11) (.int .i64 s.f), sl (L 13) (.pointer (some ⟨w.heap.size, 5, none⟩)), sl (L 14) (.int .i64 s.l), sl (L 16) (.pointer (some ⟨w.heap.size, 3, none⟩)), sl (L 17) (.int .i64 s.mx), sl (L 19) (.pointer (some ⟨w.heap.size, 2, none⟩)), sl (L 20) (.int .i64 s.mn), sl (L 22) (.pointer (some ⟨w.heap.size, 6, none⟩)), sl (L 23) (.int .i64 s.r), sl (L 25) (.pointer (some ⟨w.heap.size, 1, none⟩)), sl (L 26) (.int .i64 s.t), sl (L 28) (.map (some (w.heap.size + 1))), sl (L 29) (.string x), sl (L 30) (.tuple #[.int .i64 r.1, .bool r.2]), sl (L 32) (.int .i64 r.1), sl (L 33) (.bool r.2), undef, undef], defers := [] }

/-- what the map holds, by which operations have come up -/
def hasL (s : Grain.Sm) (L : Nat → Bool) (k : ByteArray) (v : Int) : Prop := (L 6 = true ∧ k = ⟨#[97, 118, 103]⟩ ∧ v = s.t.tdiv s.c) ∨ (L 9 = true ∧ k = ⟨#[99, 111, 117, 110, 116]⟩ ∧ v = s.c) ∨ (L 12 = true ∧ k = ⟨#[102, 105, 114, 115, 116]⟩ ∧ v = s.f) ∨ (L 15 = true ∧ k = ⟨#[108, 97, 115, 116]⟩ ∧ v = s.l) ∨ (L 18 = true ∧ k = ⟨#[109, 97, 120]⟩ ∧ v = s.mx) ∨ (L 21 = true ∧ k = ⟨#[109, 105, 110]⟩ ∧ v = s.mn) ∨ (L 24 = true ∧ k = ⟨#[114, 105, 115, 101]⟩ ∧ v = s.r) ∨ (L 27 = true ∧ k = ⟨#[115, 117, 109]⟩ ∧ v = s.t)

structure WI (w : World) (s : Grain.Sm) (L : Nat → Bool) (u : World) : Prop where
  box : SumAt u w.heap.size s
  bel : Below w.heap.size w u
  new : L 0 = false → u.heap.size = w.heap.size + 1 ∧ ∀ k v, ¬ hasL s L k v
  map : L 0 = true → MapHas u (w.heap.size + 1) (hasL s L)
  all : L 28 = true → ∀ i, i < 28 → L i = true

theorem WI.other {w u : World} {s : Grain.Sm} {L : Nat → Bool} (h : WI w s L u) (i : Nat) (hi : i ≠ 0) (hh : hasL s (upd L i) = hasL s L) (ha : upd L i 28 = true → ∀ j, j < 28 → upd L i j = true) : WI w s (upd L i) u := by
  have h0 : upd L i 0 = L 0 := by simp [upd, Ne.symm hi]
  exact ⟨h.box, h.bel, fun e => by rw [h0] at e; rw [hh]; exact h.new e, fun e => by rw [h0] at e; rw [hh]; exact h.map e, ha⟩

theorem has_put6 (s : Grain.Sm) (L : Nat → Bool) (hL : L 6 = false) : (fun k' v' => hasL s L k' v' ∨ (k' = ⟨#[97, 118, 103]⟩ ∧ v' = s.t.tdiv s.c)) = hasL s (upd L 6) := by
  funext k v
  apply propext
  constructor
  · rintro ((h | h | h | h | h | h | h | h) | h)
    · exact absurd h.1 (by rw [hL]; decide)
    · exact .inr (.inl (h))
    · exact .inr (.inr (.inl (h)))
    · exact .inr (.inr (.inr (.inl (h))))
    · exact .inr (.inr (.inr (.inr (.inl (h)))))
    · exact .inr (.inr (.inr (.inr (.inr (.inl (h))))))
    · exact .inr (.inr (.inr (.inr (.inr (.inr (.inl (h)))))))
    · exact .inr (.inr (.inr (.inr (.inr (.inr (.inr (h)))))))
    · exact .inl (⟨rfl, h.1, h.2⟩)
  · rintro (h | h | h | h | h | h | h | h)
    · exact .inr h.2
    · exact .inl (.inr (.inl (h)))
    · exact .inl (.inr (.inr (.inl (h))))
    · exact .inl (.inr (.inr (.inr (.inl (h)))))
    · exact .inl (.inr (.inr (.inr (.inr (.inl (h))))))
    · exact .inl (.inr (.inr (.inr (.inr (.inr (.inl (h)))))))
    · exact .inl (.inr (.inr (.inr (.inr (.inr (.inr (.inl (h))))))))
    · exact .inl (.inr (.inr (.inr (.inr (.inr (.inr (.inr (h))))))))

theorem has_put9 (s : Grain.Sm) (L : Nat → Bool) (hL : L 9 = false) : (fun k' v' => hasL s L k' v' ∨ (k' = ⟨#[99, 111, 117, 110, 116]⟩ ∧ v' = s.c)) = hasL s (upd L 9) := by
  funext k v
  apply propext
  constructor
  · rintro ((h | h | h | h | h | h | h | h) | h)
    · exact .inl (h)
    · exact absurd h.1 (by rw [hL]; decide)
    · exact .inr (.inr (.inl (h)))
    · exact .inr (.inr (.inr (.inl (h))))
    · exact .inr (.inr (.inr (.inr (.inl (h)))))
    · exact .inr (.inr (.inr (.inr (.inr (.inl (h))))))
    · exact .inr (.inr (.inr (.inr (.inr (.inr (.inl (h)))))))
    · exact .inr (.inr (.inr (.inr (.inr (.inr (.inr (h)))))))
    · exact .inr (.inl (⟨rfl, h.1, h.2⟩))
  · rintro (h | h | h | h | h | h | h | h)
    · exact .inl (.inl (h))
    · exact .inr h.2
    · exact .inl (.inr (.inr (.inl (h))))
    · exact .inl (.inr (.inr (.inr (.inl (h)))))
    · exact .inl (.inr (.inr (.inr (.inr (.inl (h))))))
    · exact .inl (.inr (.inr (.inr (.inr (.inr (.inl (h)))))))
    · exact .inl (.inr (.inr (.inr (.inr (.inr (.inr (.inl (h))))))))
    · exact .inl (.inr (.inr (.inr (.inr (.inr (.inr (.inr (h))))))))

theorem has_put12 (s : Grain.Sm) (L : Nat → Bool) (hL : L 12 = false) : (fun k' v' => hasL s L k' v' ∨ (k' = ⟨#[102, 105, 114, 115, 116]⟩ ∧ v' = s.f)) = hasL s (upd L 12) := by
  funext k v
  apply propext
  constructor
  · rintro ((h | h | h | h | h | h | h | h) | h)
    · exact .inl (h)
    · exact .inr (.inl (h))
    · exact absurd h.1 (by rw [hL]; decide)
    · exact .inr (.inr (.inr (.inl (h))))
    · exact .inr (.inr (.inr (.inr (.inl (h)))))
    · exact .inr (.inr (.inr (.inr (.inr (.inl (h))))))
    · exact .inr (.inr (.inr (.inr (.inr (.inr (.inl (h)))))))
    · exact .inr (.inr (.inr (.inr (.inr (.inr (.inr (h)))))))
    · exact .inr (.inr (.inl (⟨rfl, h.1, h.2⟩)))
  · rintro (h | h | h | h | h | h | h | h)
    · exact .inl (.inl (h))
    · exact .inl (.inr (.inl (h)))
    · exact .inr h.2
    · exact .inl (.inr (.inr (.inr (.inl (h)))))
    · exact .inl (.inr (.inr (.inr (.inr (.inl (h))))))
    · exact .inl (.inr (.inr (.inr (.inr (.inr (.inl (h)))))))
    · exact .inl (.inr (.inr (.inr (.inr (.inr (.inr (.inl (h))))))))
    · exact .inl (.inr (.inr (.inr (.inr (.inr (.inr (.inr (h))))))))

theorem has_put15 (s : Grain.Sm) (L : Nat → Bool) (hL : L 15 = false) : (fun k' v' => hasL s L k' v' ∨ (k' = ⟨#[108, 97, 115, 116]⟩ ∧ v' = s.l)) = hasL s (upd L 15) := by
  funext k v
  apply propext
  constructor
  · rintro ((h | h | h | h | h | h | h | h) | h)
    · exact .inl (h)
    · exact .inr (.inl (h))
    · exact .inr (.inr (.inl (h)))
    · exact absurd h.1 (by rw [hL]; decide)
    · exact .inr (.inr (.inr (.inr (.inl (h)))))
    · exact .inr (.inr (.inr (.inr (.inr (.inl (h))))))
    · exact .inr (.inr (.inr (.inr (.inr (.inr (.inl (h)))))))
    · exact .inr (.inr (.inr (.inr (.inr (.inr (.inr (h)))))))
    · exact .inr (.inr (.inr (.inl (⟨rfl, h.1, h.2⟩))))
  · rintro (h | h | h | h | h | h | h | h)
    · exact .inl (.inl (h))
    · exact .inl (.inr (.inl (h)))
    · exact .inl (.inr (.inr (.inl (h))))
    · exact .inr h.2
    · exact .inl (.inr (.inr (.inr (.inr (.inl (h))))))
    · exact .inl (.inr (.inr (.inr (.inr (.inr (.inl (h)))))))
    · exact .inl (.inr (.inr (.inr (.inr (.inr (.inr (.inl (h))))))))
    · exact .inl (.inr (.inr (.inr (.inr (.inr (.inr (.inr (h))))))))

theorem has_put18 (s : Grain.Sm) (L : Nat → Bool) (hL : L 18 = false) : (fun k' v' => hasL s L k' v' ∨ (k' = ⟨#[109, 97, 120]⟩ ∧ v' = s.mx)) = hasL s (upd L 18) := by
  funext k v
  apply propext
  constructor
  · rintro ((h | h | h | h | h | h | h | h) | h)
    · exact .inl (h)
    · exact .inr (.inl (h))
    · exact .inr (.inr (.inl (h)))
    · exact .inr (.inr (.inr (.inl (h))))
    · exact absurd h.1 (by rw [hL]; decide)
    · exact .inr (.inr (.inr (.inr (.inr (.inl (h))))))
    · exact .inr (.inr (.inr (.inr (.inr (.inr (.inl (h)))))))
    · exact .inr (.inr (.inr (.inr (.inr (.inr (.inr (h)))))))
    · exact .inr (.inr (.inr (.inr (.inl (⟨rfl, h.1, h.2⟩)))))
  · rintro (h | h | h | h | h | h | h | h)
    · exact .inl (.inl (h))
    · exact .inl (.inr (.inl (h)))
    · exact .inl (.inr (.inr (.inl (h))))
    · exact .inl (.inr (.inr (.inr (.inl (h)))))
    · exact .inr h.2
    · exact .inl (.inr (.inr (.inr (.inr (.inr (.inl (h)))))))
    · exact .inl (.inr (.inr (.inr (.inr (.inr (.inr (.inl (h))))))))
    · exact .inl (.inr (.inr (.inr (.inr (.inr (.inr (.inr (h))))))))

theorem has_put21 (s : Grain.Sm) (L : Nat → Bool) (hL : L 21 = false) : (fun k' v' => hasL s L k' v' ∨ (k' = ⟨#[109, 105, 110]⟩ ∧ v' = s.mn)) = hasL s (upd L 21) := by
  funext k v
  apply propext
  constructor
  · rintro ((h | h | h | h | h | h | h | h) | h)
    · exact .inl (h)
    · exact .inr (.inl (h))
    · exact .inr (.inr (.inl (h)))
    · exact .inr (.inr (.inr (.inl (h))))
    · exact .inr (.inr (.inr (.inr (.inl (h)))))
    · exact absurd h.1 (by rw [hL]; decide)
    · exact .inr (.inr (.inr (.inr (.inr (.inr (.inl (h)))))))
    · exact .inr (.inr (.inr (.inr (.inr (.inr (.inr (h)))))))
    · exact .inr (.inr (.inr (.inr (.inr (.inl (⟨rfl, h.1, h.2⟩))))))
  · rintro (h | h | h | h | h | h | h | h)
    · exact .inl (.inl (h))
    · exact .inl (.inr (.inl (h)))
    · exact .inl (.inr (.inr (.inl (h))))
    · exact .inl (.inr (.inr (.inr (.inl (h)))))
    · exact .inl (.inr (.inr (.inr (.inr (.inl (h))))))
    · exact .inr h.2
    · exact .inl (.inr (.inr (.inr (.inr (.inr (.inr (.inl (h))))))))
    · exact .inl (.inr (.inr (.inr (.inr (.inr (.inr (.inr (h))))))))

theorem has_put24 (s : Grain.Sm) (L : Nat → Bool) (hL : L 24 = false) : (fun k' v' => hasL s L k' v' ∨ (k' = ⟨#[114, 105, 115, 101]⟩ ∧ v' = s.r)) = hasL s (upd L 24) := by
  funext k v
  apply propext
  constructor
  · rintro ((h | h | h | h | h | h | h | h) | h)
    · exact .inl (h)
    · exact .inr (.inl (h))
    · exact .inr (.inr (.inl (h)))
    · exact .inr (.inr (.inr (.inl (h))))
    · exact .inr (.inr (.inr (.inr (.inl (h)))))
    · exact .inr (.inr (.inr (.inr (.inr (.inl (h))))))
    · exact absurd h.1 (by rw [hL]; decide)
    · exact .inr (.inr (.inr (.inr (.inr (.inr (.inr (h)))))))
    · exact .inr (.inr (.inr (.inr (.inr (.inr (.inl (⟨rfl, h.1, h.2⟩)))))))
  · rintro (h | h | h | h | h | h | h | h)
    · exact .inl (.inl (h))
    · exact .inl (.inr (.inl (h)))
    · exact .inl (.inr (.inr (.inl (h))))
    · exact .inl (.inr (.inr (.inr (.inl (h)))))
    · exact .inl (.inr (.inr (.inr (.inr (.inl (h))))))
    · exact .inl (.inr (.inr (.inr (.inr (.inr (.inl (h)))))))
    · exact .inr h.2
    · exact .inl (.inr (.inr (.inr (.inr (.inr (.inr (.inr (h))))))))

theorem has_put27 (s : Grain.Sm) (L : Nat → Bool) (hL : L 27 = false) : (fun k' v' => hasL s L k' v' ∨ (k' = ⟨#[115, 117, 109]⟩ ∧ v' = s.t)) = hasL s (upd L 27) := by
  funext k v
  apply propext
  constructor
  · rintro ((h | h | h | h | h | h | h | h) | h)
    · exact .inl (h)
    · exact .inr (.inl (h))
    · exact .inr (.inr (.inl (h)))
    · exact .inr (.inr (.inr (.inl (h))))
    · exact .inr (.inr (.inr (.inr (.inl (h)))))
    · exact .inr (.inr (.inr (.inr (.inr (.inl (h))))))
    · exact .inr (.inr (.inr (.inr (.inr (.inr (.inl (h)))))))
    · exact absurd h.1 (by rw [hL]; decide)
    · exact .inr (.inr (.inr (.inr (.inr (.inr (.inr (⟨rfl, h.1, h.2⟩)))))))
  · rintro (h | h | h | h | h | h | h | h)
    · exact .inl (.inl (h))
    · exact .inl (.inr (.inl (h)))
    · exact .inl (.inr (.inr (.inl (h))))
    · exact .inl (.inr (.inr (.inr (.inl (h)))))
    · exact .inl (.inr (.inr (.inr (.inr (.inl (h))))))
    · exact .inl (.inr (.inr (.inr (.inr (.inr (.inl (h)))))))
    · exact .inl (.inr (.inr (.inr (.inr (.inr (.inr (.inl (h))))))))
    · exact .inr h.2

theorem upd_true {L : Nat → Bool} {i j : Nat} (h : L j = true) : upd L i j = true := by
  unfold upd; split
  · rfl
  · exact h

/-- an operation that is neither the map's making, nor an insert, nor what waits for all of them -/
theorem WI.plain {w u : World} {s : Grain.Sm} {L : Nat → Bool} (h : WI w s L u) (i : Nat) (hi : i ≠ 0) (hh : hasL s (upd L i) = hasL s L) (h28 : i ≠ 28) : WI w s (upd L i) u :=
  h.other i hi hh (fun e j hj => upd_true (h.all (by unfold upd at e; rw [if_neg (Ne.symm h28)] at e; exact e) j hj))

/-- an insert -/
theorem WI.put {w u : World} {s : Grain.Sm} {L : Nat → Bool} (h : WI w s L u) (h0 : L 0 = true) (i : Nat) (hi : i ≠ 0) (h28 : i ≠ 28) (k : ByteArray) (v : Int) (hfree : ∀ v', ¬ hasL s L k v')
    (hh : (fun k' v' => hasL s L k' v' ∨ (k' = k ∧ v' = v)) = hasL s (upd L i)) :
    ∃ u', (Instr.mapUpdate 57 (.map (some (w.heap.size + 1))) (.string k) (.int .i64 v)).run Try.prog u = .ok () u' ∧ WI w s (upd L i) u' := by
  obtain ⟨u', hrun, hmap, hbel, hfar, hsz⟩ := map_put (P := Try.prog) Try.underlying57 Try.underlying9 (h.map h0) k v hfree
  refine ⟨u', hrun, ?_, h.bel.trans (hbel.mono (by omega)), fun e => ?_, fun _ => by rw [← hh]; exact hmap, fun e j hj => upd_true (h.all (by unfold upd at e; rw [if_neg (Ne.symm h28)] at e; exact e) j hj)⟩
  · unfold SumAt; rw [hfar _ (by omega)]; exact h.box
  · unfold upd at e; rw [if_neg (Ne.symm hi), h0] at e; cases e

theorem WI.make {w u : World} {s : Grain.Sm} {L : Nat → Bool} (h : WI w s L u) (h0 : L 0 = false) : (Instr.makeMap 57 none).run Try.prog u = .ok (.map (some (w.heap.size + 1))) (u.alloc (.map #[] 0)) ∧ WI w s (upd L 0) (u.alloc (.map #[] 0)) := by
  obtain ⟨hs, hno⟩ := h.new h0
  have hh : hasL s (upd L 0) = hasL s L := by funext k v; simp [hasL, upd]
  refine ⟨by rw [run_makeMap, hs], ?_, h.bel.alloc h.bel.size _, fun e => by simp [upd] at e, fun _ => ⟨#[], 0, ?_, fun e he => by simp at he, fun k v hv => ?_⟩, fun e j hj => upd_true (h.all (by simpa [upd] using e) j hj)⟩
  · unfold SumAt; rw [Below.heap_alloc _ _ _ (lt_of_block h.box)]; exact h.box
  · rw [← hs]; exact heap_alloc_new u _
  · rw [hh] at hv; exact absurd hv (hno k v)

end Go.Proofs.Ythbllehncjeolaa
