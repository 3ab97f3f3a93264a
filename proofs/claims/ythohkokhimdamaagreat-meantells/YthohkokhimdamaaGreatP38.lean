/-
  A map that holds words and whole numbers, filled in whatever order: what it holds, what is found.
-/
import Derived.Test.YthohkokhimdamaaGreatP37
import Derived.WalkKit
import Derived.WalkSpells
import Derived.MapKept
import Derived.Below
/-
  The walks of Value at three words.
-/
namespace Go.Proofs.YthohkokhimdamaaGreat
open Go.RowKit Go.GrainU

set_option maxHeartbeats 1000000 in
theorem value_avg (s : Grain.Sm) (w : World) (h : 1 ≤ s.c) (h0 : -9223372036854775808 ≤ s.t) (h1 : s.t ≤ 9223372036854775807) :
    Calls Tryz.prog 56 #[.string ⟨#[97, 118, 103]⟩, .agg #[.int .i64 s.c, .int .i64 s.t, .int .i64 s.mn, .int .i64 s.mx, .int .i64 s.f, .int .i64 s.l, .int .i64 s.r]] w fun e w' => e = .returned (.tuple #[.int .i64 (s.t.tdiv s.c), .bool true]) ∧ Below w.heap.size w w' := by
  have hq := wrap_i64_tdiv s.t s.c h0 h1 h
  have hz : (s.c == 0) = false := by simp; omega
  go_enter Tryz.func56, Tryz.ntmps56
  go_wp2
  exact bodyPost_ret (v := .tuple #[.int .i64 (s.t.tdiv s.c), .bool true]) (by simp [results, Tryz.results56, go_sem]) rfl ⟨rfl, by go_grown⟩

set_option maxHeartbeats 1000000 in
theorem value_first (s : Grain.Sm) (w : World) (h : 1 ≤ s.c) :
    Calls Tryz.prog 56 #[.string ⟨#[102, 105, 114, 115, 116]⟩, .agg #[.int .i64 s.c, .int .i64 s.t, .int .i64 s.mn, .int .i64 s.mx, .int .i64 s.f, .int .i64 s.l, .int .i64 s.r]] w fun e w' => e = .returned (.tuple #[.int .i64 s.f, .bool true]) ∧ Below w.heap.size w w' := by
  go_enter Tryz.func56, Tryz.ntmps56
  go_wp2
  exact bodyPost_ret (v := .tuple #[.int .i64 s.f, .bool true]) (by simp [results, Tryz.results56, go_sem]) rfl ⟨rfl, by go_grown⟩

set_option maxHeartbeats 1000000 in
theorem value_last (s : Grain.Sm) (w : World) (h : 1 ≤ s.c) :
    Calls Tryz.prog 56 #[.string ⟨#[108, 97, 115, 116]⟩, .agg #[.int .i64 s.c, .int .i64 s.t, .int .i64 s.mn, .int .i64 s.mx, .int .i64 s.f, .int .i64 s.l, .int .i64 s.r]] w fun e w' => e = .returned (.tuple #[.int .i64 s.l, .bool true]) ∧ Below w.heap.size w w' := by
  go_enter Tryz.func56, Tryz.ntmps56
  go_wp2
  exact bodyPost_ret (v := .tuple #[.int .i64 s.l, .bool true]) (by simp [results, Tryz.results56, go_sem]) rfl ⟨rfl, by go_grown⟩

end Go.Proofs.YthohkokhimdamaaGreat

/-
  A map that holds words and whole numbers, filled in whatever order: what it holds, what is found.
-/
namespace Go.GrainU
open Go.RowKit

/-- the map in block M holds just the pairs that 'has' names -/
def MapHas (w : World) (M : Nat) (has : ByteArray → Int → Prop) : Prop :=
  ∃ es clock, w.heap[M]? = some (.map es clock) ∧ (∀ e ∈ es.toList, ∃ k v, e.key = .string k ∧ e.val = .int .i64 v ∧ has k v) ∧ (∀ k v, has k v → ∃ e ∈ es.toList, e.key = .string k ∧ e.val = .int .i64 v)

theorem findNow_words (x : ByteArray) : ∀ (es : List MapEntry) (i : Nat), (∀ e ∈ es, ∃ k v, e.key = .string k ∧ e.val = .int .i64 v) →
    (∃ j e, e ∈ es ∧ e.key = .string x ∧ Instr.findNow .string (.string x) es i = some (some (j, e.val))) ∨ ((∀ e ∈ es, e.key ≠ .string x) ∧ Instr.findNow .string (.string x) es i = some none) := by
  intro es
  induction es with
  | nil => intro i _; right; exact ⟨fun e h => (by cases h), rfl⟩
  | cons e r ih =>
    intro i h
    obtain ⟨k, v, hk, hv⟩ := h e (List.mem_cons_self ..)
    by_cases hx : x = k
    · left
      subst hx
      refine ⟨i, e, List.mem_cons_self .., hk, ?_⟩
      have hs : Instr.sameNow .string (.string x) e.key = some true := by rw [hk]; simp [Instr.sameNow, (MapKept.bytes_beq x x).2 rfl]
      simp only [Instr.findNow, hs]
    · have hs : Instr.sameNow .string (.string x) e.key = some false := by
        rw [hk]
        have : (x == k) = false := by
          cases h' : (x == k)
          · rfl
          · exact absurd ((MapKept.bytes_beq x k).1 h') hx
        simp [Instr.sameNow, this]
      rcases ih (i + 1) (fun e' he' => h e' (List.mem_cons_of_mem _ he')) with ⟨j, e', he', hk', hf⟩ | ⟨hn, hf⟩
      · left
        exact ⟨j, e', List.mem_cons_of_mem _ he', hk', by simp only [Instr.findNow, hs]; exact hf⟩
      · right
        refine ⟨fun e' he' => ?_, by simp only [Instr.findNow, hs]; exact hf⟩
        rcases List.mem_cons.1 he' with h' | h'
        · subst h'; rw [hk]; simp; exact fun h => hx h.symm
        · exact hn e' h'

theorem map_put {P : Program} {w : World} {M : Nat} {has : ByteArray → Int → Prop} {mty kt et : TypeId} (hm : P.underlying mty = some (.map kt et)) (hk : P.underlying kt = some .string) (h : MapHas w M has) (k : ByteArray) (v : Int) (hfree : ∀ v', ¬ has k v') :
    ∃ w', (Instr.mapUpdate mty (.map (some M)) (.string k) (.int .i64 v)).run P w = .ok () w' ∧ MapHas w' M (fun k' v' => has k' v' ∨ (k' = k ∧ v' = v)) ∧ Below M w w' ∧ (∀ b, b ≠ M → w'.heap[b]? = w.heap[b]?) ∧ w'.heap.size = w.heap.size := by
  obtain ⟨es, clock, hb, h1, h2⟩ := h
  have hf : Instr.findNow .string (.string k) es.toList 0 = some none := by
    rcases findNow_words k es.toList 0 (fun e he => by obtain ⟨k', v', a, b, _⟩ := h1 e he; exact ⟨k', v', a, b⟩) with ⟨j, e, he, hke, _⟩ | ⟨_, hf⟩
    · obtain ⟨k', v', a, _, c⟩ := h1 e he
      rw [hke] at a
      simp at a
      subst a
      exact absurd c (hfree v')
    · exact hf
  have hc : (Instr.checkKey false 10000 kt (.string k)).run P w = .ok () w := MapKept.run_checkKey (k := .string k) hk (by simp [MapKept.IsKey]) false 9999
  have hlt : M < w.heap.size := lt_of_block hb
  refine ⟨{ w with heap := w.heap.setIfInBounds M (.map (es.push { key := .string k, val := .int .i64 v, born := clock }) (clock + 1)) }, ?_, ?_, ?_, ?_, by simp⟩
  · simp [Instr.mapUpdate, run_underlying hm, MapKept.run_getObj_map hb, hc, MapKept.run_findKey hk hf, MapKept.run_setObj_map _ hb, Result.andThen]
  · refine ⟨es.push { key := .string k, val := .int .i64 v, born := clock }, clock + 1, by simp [hlt], ?_, ?_⟩
    · intro e he
      simp at he
      rcases he with he | he
      · obtain ⟨k', v', a, b, c⟩ := h1 e (by simpa using he)
        exact ⟨k', v', a, b, .inl c⟩
      · subst he
        exact ⟨k, v, rfl, rfl, .inr ⟨rfl, rfl⟩⟩
    · intro k' v' hh
      rcases hh with hh | ⟨rfl, rfl⟩
      · obtain ⟨e, he, a, b⟩ := h2 k' v' hh
        exact ⟨e, by simp; left; simpa using he, a, b⟩
      · exact ⟨{ key := .string k', val := .int .i64 v', born := clock }, by simp, rfl, rfl⟩
  · exact ⟨rfl, rfl, rfl, by simp, fun b hb' => by show (w.heap.setIfInBounds M _)[b]? = _; rw [Array.getElem?_setIfInBounds_ne (by omega)]⟩
  · intro b hb'
    show (w.heap.setIfInBounds M _)[b]? = _
    rw [Array.getElem?_setIfInBounds_ne (by omega)]

theorem map_get {P : Program} {w : World} {M : Nat} {has : ByteArray → Int → Prop} {mty kt et : TypeId} (hm : P.underlying mty = some (.map kt et)) (hk : P.underlying kt = some .string) (hz : (zeroValue et).run P w = .ok (.int .i64 0) w) (h : MapHas w M has) (hfun : ∀ k v v', has k v → has k v' → v = v') (x : ByteArray) (r : Int × Bool)
    (hr : (∃ v, has x v ∧ r = (v, true)) ∨ ((∀ v, ¬ has x v) ∧ r = (0, false))) :
    (Instr.lookup mty (.map (some M)) (.string x) true).run P w = .ok (.tuple #[.int .i64 r.1, .bool r.2]) w := by
  obtain ⟨es, clock, hb, h1, h2⟩ := h
  have hc : (Instr.checkKey es.isEmpty 10000 kt (.string x)).run P w = .ok () w := MapKept.run_checkKey (k := .string x) hk (by simp [MapKept.IsKey]) es.isEmpty 9999
  rcases findNow_words x es.toList 0 (fun e he => by obtain ⟨k', v', a, b, _⟩ := h1 e he; exact ⟨k', v', a, b⟩) with ⟨j, e, he, hke, hf⟩ | ⟨hn, hf⟩
  · obtain ⟨k', v', a, b, c⟩ := h1 e he
    rw [hke] at a
    simp at a
    subst a
    rcases hr with ⟨v, hv, rfl⟩ | ⟨hno, _⟩
    · have := hfun _ _ _ c hv
      subst this
      rw [b] at hf
      simp [Instr.lookup, run_underlying hm, MapKept.run_getObj_map hb, hc, MapKept.run_findKey hk hf, Result.andThen]
    · exact absurd c (hno v')
  · rcases hr with ⟨v, hv, _⟩ | ⟨_, rfl⟩
    · obtain ⟨e, he, a, _⟩ := h2 x v hv
      exact absurd a (hn e he)
    · simp [Instr.lookup, run_underlying hm, MapKept.run_getObj_map hb, hc, MapKept.run_findKey hk hf, hz, Result.andThen]

end Go.GrainU
