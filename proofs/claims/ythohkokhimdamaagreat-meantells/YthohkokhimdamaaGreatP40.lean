/-
  Whatever word: what agg's Value answers, and the document's Word: the same.
-/
import Derived.Test.YthohkokhimdamaaGreatP39
import Derived.Test.YthohkokhimdamaaGreatP38
import Derived.Laws.StructEq
/-
  The walk of the document's Word, a sample at least.
-/
namespace Go.Proofs.YthohkokhimdamaaGreat
open Go.RowKit Go.GrainU

theorem zero_int (u : World) : (zeroValue 3).run Tryz.prog u = .ok (.int .i64 0) u := by
  simp [zeroValue, go_sem, Tryz.t3]

set_option maxRecDepth 100000 in
set_option maxHeartbeats 4000000 in
theorem word_some (s : Grain.Sm) (x : ByteArray) (r : Int × Bool) (w : World) (h : 1 ≤ s.c) (t0 : -9223372036854775808 ≤ s.t) (t1 : s.t ≤ 9223372036854775807)
    (hr : (∃ v, hasL s (fun _ => true) x v ∧ r = (v, true)) ∨ ((∀ v, ¬ hasL s (fun _ => true) x v) ∧ r = (0, false)))
    (hfun : ∀ k v v', hasL s (fun _ => true) k v → hasL s (fun _ => true) k v' → v = v') :
    Calls Tryz.prog 39 #[.string x, .agg #[.int .i64 s.c, .int .i64 s.t, .int .i64 s.mn, .int .i64 s.mx, .int .i64 s.f, .int .i64 s.l, .int .i64 s.r]] w fun e w' => e = .returned (.tuple #[.int .i64 r.1, .bool r.2]) ∧ Below w.heap.size w w' := by
  have hq := wrap_i64_tdiv s.t s.c t0 t1 h
  have hz : (s.c == 0) = false := by simp; omega
  have Hq := hide hq
  have Hz := hide hz
  have Hr := hide hr
  have Hf := hide hfun
  clear hq hz hr hfun
  go_enter Tryz.func39, Tryz.ntmps39
  go_wp2_with fail
  refine wp_region_flow (wF w s x r) (WI w s) (by kernel_rfl) (by kernel_rfl) ?_ ?_ ?_
  · intro L u i o ho hL hd hW
    have hq := Hq.out
    have hz : ¬ s.c = 0 := by have := Hz.out; simpa using this
    obtain ⟨b0, b1, b2, b3, b4, b5, b6⟩ := hW.box.cells
    rcases i with _ | _ | _ | _ | _ | _ | _ | _ | _ | _ | _ | _ | _ | _ | _ | _ | _ | _ | _ | _ | _ | _ | _ | _ | _ | _ | _ | _ | _ | _ | _ | _ | _ | _ | _ | _ | i
    · simp at ho
      subst ho
      obtain ⟨hrun, hW'⟩ := hW.make hL
      simp [Oper.wp, execOp, wF, go_sem, Oper.upon, sl, upd, hrun]
      exact hW'
    · simp at ho
      subst ho
      have hW' := hW.plain 1 (by decide) (by funext k v; simp [hasL, upd]) (by decide)
      simp [Oper.wp, execOp, wF, Act.eval, go_sem, Oper.upon, sl, upd]
      exact hW'
    · simp at ho
      subst ho
      have hW' := hW.plain 2 (by decide) (by funext k v; simp [hasL, upd]) (by decide)
      simp [Region.binds] at hd
      simp [Oper.wp, execOp, wF, Act.eval, go_sem, Oper.upon, sl, upd, hd, b1]
      exact hW'
    · simp at ho
      subst ho
      have hW' := hW.plain 3 (by decide) (by funext k v; simp [hasL, upd]) (by decide)
      simp [Oper.wp, execOp, wF, Act.eval, go_sem, Oper.upon, sl, upd]
      exact hW'
    · simp at ho
      subst ho
      have hW' := hW.plain 4 (by decide) (by funext k v; simp [hasL, upd]) (by decide)
      simp [Region.binds] at hd
      simp [Oper.wp, execOp, wF, Act.eval, go_sem, Oper.upon, sl, upd, hd, b0]
      exact hW'
    · simp at ho
      subst ho
      have hW' := hW.plain 5 (by decide) (by funext k v; simp [hasL, upd]) (by decide)
      simp [Region.binds] at hd
      simp [Oper.wp, execOp, wF, Act.eval, go_sem, Oper.upon, sl, upd, hd, hq, hz]
      exact hW'
    · simp at ho
      subst ho
      simp [Region.binds] at hd
      obtain ⟨u', hrun, hW'⟩ := hW.put hd.1 6 (by decide) (by decide) ⟨#[97, 118, 103]⟩ (s.t.tdiv s.c) (by intro v'; simp [hasL, hL]) (has_put6 s L hL)
      simp [Oper.wp, execOp, wF, Act.eval, go_sem, Oper.upon, sl, upd, hd, hrun]
      exact hW'
    · simp at ho
      subst ho
      have hW' := hW.plain 7 (by decide) (by funext k v; simp [hasL, upd]) (by decide)
      simp [Oper.wp, execOp, wF, Act.eval, go_sem, Oper.upon, sl, upd]
      exact hW'
    · simp at ho
      subst ho
      have hW' := hW.plain 8 (by decide) (by funext k v; simp [hasL, upd]) (by decide)
      simp [Region.binds] at hd
      simp [Oper.wp, execOp, wF, Act.eval, go_sem, Oper.upon, sl, upd, hd, b0]
      exact hW'
    · simp at ho
      subst ho
      simp [Region.binds] at hd
      obtain ⟨u', hrun, hW'⟩ := hW.put hd.1 9 (by decide) (by decide) ⟨#[99, 111, 117, 110, 116]⟩ s.c (by intro v'; simp [hasL, hL]) (has_put9 s L hL)
      simp [Oper.wp, execOp, wF, Act.eval, go_sem, Oper.upon, sl, upd, hd, hrun]
      exact hW'
    · simp at ho
      subst ho
      have hW' := hW.plain 10 (by decide) (by funext k v; simp [hasL, upd]) (by decide)
      simp [Oper.wp, execOp, wF, Act.eval, go_sem, Oper.upon, sl, upd]
      exact hW'
    · simp at ho
      subst ho
      have hW' := hW.plain 11 (by decide) (by funext k v; simp [hasL, upd]) (by decide)
      simp [Region.binds] at hd
      simp [Oper.wp, execOp, wF, Act.eval, go_sem, Oper.upon, sl, upd, hd, b4]
      exact hW'
    · simp at ho
      subst ho
      simp [Region.binds] at hd
      obtain ⟨u', hrun, hW'⟩ := hW.put hd.1 12 (by decide) (by decide) ⟨#[102, 105, 114, 115, 116]⟩ s.f (by intro v'; simp [hasL, hL]) (has_put12 s L hL)
      simp [Oper.wp, execOp, wF, Act.eval, go_sem, Oper.upon, sl, upd, hd, hrun]
      exact hW'
    · simp at ho
      subst ho
      have hW' := hW.plain 13 (by decide) (by funext k v; simp [hasL, upd]) (by decide)
      simp [Oper.wp, execOp, wF, Act.eval, go_sem, Oper.upon, sl, upd]
      exact hW'
    · simp at ho
      subst ho
      have hW' := hW.plain 14 (by decide) (by funext k v; simp [hasL, upd]) (by decide)
      simp [Region.binds] at hd
      simp [Oper.wp, execOp, wF, Act.eval, go_sem, Oper.upon, sl, upd, hd, b5]
      exact hW'
    · simp at ho
      subst ho
      simp [Region.binds] at hd
      obtain ⟨u', hrun, hW'⟩ := hW.put hd.1 15 (by decide) (by decide) ⟨#[108, 97, 115, 116]⟩ s.l (by intro v'; simp [hasL, hL]) (has_put15 s L hL)
      simp [Oper.wp, execOp, wF, Act.eval, go_sem, Oper.upon, sl, upd, hd, hrun]
      exact hW'
    · simp at ho
      subst ho
      have hW' := hW.plain 16 (by decide) (by funext k v; simp [hasL, upd]) (by decide)
      simp [Oper.wp, execOp, wF, Act.eval, go_sem, Oper.upon, sl, upd]
      exact hW'
    · simp at ho
      subst ho
      have hW' := hW.plain 17 (by decide) (by funext k v; simp [hasL, upd]) (by decide)
      simp [Region.binds] at hd
      simp [Oper.wp, execOp, wF, Act.eval, go_sem, Oper.upon, sl, upd, hd, b3]
      exact hW'
    · simp at ho
      subst ho
      simp [Region.binds] at hd
      obtain ⟨u', hrun, hW'⟩ := hW.put hd.1 18 (by decide) (by decide) ⟨#[109, 97, 120]⟩ s.mx (by intro v'; simp [hasL, hL]) (has_put18 s L hL)
      simp [Oper.wp, execOp, wF, Act.eval, go_sem, Oper.upon, sl, upd, hd, hrun]
      exact hW'
    · simp at ho
      subst ho
      have hW' := hW.plain 19 (by decide) (by funext k v; simp [hasL, upd]) (by decide)
      simp [Oper.wp, execOp, wF, Act.eval, go_sem, Oper.upon, sl, upd]
      exact hW'
    · simp at ho
      subst ho
      have hW' := hW.plain 20 (by decide) (by funext k v; simp [hasL, upd]) (by decide)
      simp [Region.binds] at hd
      simp [Oper.wp, execOp, wF, Act.eval, go_sem, Oper.upon, sl, upd, hd, b2]
      exact hW'
    · simp at ho
      subst ho
      simp [Region.binds] at hd
      obtain ⟨u', hrun, hW'⟩ := hW.put hd.1 21 (by decide) (by decide) ⟨#[109, 105, 110]⟩ s.mn (by intro v'; simp [hasL, hL]) (has_put21 s L hL)
      simp [Oper.wp, execOp, wF, Act.eval, go_sem, Oper.upon, sl, upd, hd, hrun]
      exact hW'
    · simp at ho
      subst ho
      have hW' := hW.plain 22 (by decide) (by funext k v; simp [hasL, upd]) (by decide)
      simp [Oper.wp, execOp, wF, Act.eval, go_sem, Oper.upon, sl, upd]
      exact hW'
    · simp at ho
      subst ho
      have hW' := hW.plain 23 (by decide) (by funext k v; simp [hasL, upd]) (by decide)
      simp [Region.binds] at hd
      simp [Oper.wp, execOp, wF, Act.eval, go_sem, Oper.upon, sl, upd, hd, b6]
      exact hW'
    · simp at ho
      subst ho
      simp [Region.binds] at hd
      obtain ⟨u', hrun, hW'⟩ := hW.put hd.1 24 (by decide) (by decide) ⟨#[114, 105, 115, 101]⟩ s.r (by intro v'; simp [hasL, hL]) (has_put24 s L hL)
      simp [Oper.wp, execOp, wF, Act.eval, go_sem, Oper.upon, sl, upd, hd, hrun]
      exact hW'
    · simp at ho
      subst ho
      have hW' := hW.plain 25 (by decide) (by funext k v; simp [hasL, upd]) (by decide)
      simp [Oper.wp, execOp, wF, Act.eval, go_sem, Oper.upon, sl, upd]
      exact hW'
    · simp at ho
      subst ho
      have hW' := hW.plain 26 (by decide) (by funext k v; simp [hasL, upd]) (by decide)
      simp [Region.binds] at hd
      simp [Oper.wp, execOp, wF, Act.eval, go_sem, Oper.upon, sl, upd, hd, b1]
      exact hW'
    · simp at ho
      subst ho
      simp [Region.binds] at hd
      obtain ⟨u', hrun, hW'⟩ := hW.put hd.1 27 (by decide) (by decide) ⟨#[115, 117, 109]⟩ s.t (by intro v'; simp [hasL, hL]) (has_put27 s L hL)
      simp [Oper.wp, execOp, wF, Act.eval, go_sem, Oper.upon, sl, upd, hd, hrun]
      exact hW'
    · simp at ho
      subst ho
      simp [Region.binds] at hd
      have hW' := hW.other 28 (by decide) (by funext k v; simp [hasL, upd]) (fun _ j hj => upd_true (by rcases j with _ | _ | _ | _ | _ | _ | _ | _ | _ | _ | _ | _ | _ | _ | _ | _ | _ | _ | _ | _ | _ | _ | _ | _ | _ | _ | _ | _ | j <;> first | (simp [hd]; done) | omega))
      simp [Oper.wp, execOp, wF, Act.eval, go_sem, Oper.upon, sl, upd, hd]
      exact hW'
    · simp at ho
      subst ho
      have hW' := hW.plain 29 (by decide) (by funext k v; simp [hasL, upd]) (by decide)
      simp [Region.binds] at hd
      simp [Oper.wp, execOp, wF, Act.eval, go_sem, Oper.upon, sl, upd]
      exact hW'
    · simp at ho
      subst ho
      simp [Region.binds] at hd
      have hal := hW.all hd.1
      have hh : hasL s L = hasL s (fun _ => true) := by funext k v; simp [hasL, hal]
      have hget := map_get (P := Tryz.prog) Tryz.underlying105 Tryz.underlying9 (zero_int u) (by have := hW.map (hal 0 (by decide)); rw [hh] at this; exact this) Hf.out x r Hr.out
      have hW' := hW.plain 30 (by decide) (by funext k v; simp [hasL, upd]) (by decide)
      simp [Oper.wp, execOp, wF, Act.eval, go_sem, Oper.upon, sl, upd, hd, hget]
      exact hW'
    · simp at ho
      subst ho
      have hW' := hW.plain 31 (by decide) (by funext k v; simp [hasL, upd]) (by decide)
      simp [Region.binds] at hd
      simp [Oper.wp, execOp, wF, Act.eval, go_sem, Oper.upon, sl, upd, hd]
      exact hW'
    · simp at ho
      subst ho
      have hW' := hW.plain 32 (by decide) (by funext k v; simp [hasL, upd]) (by decide)
      simp [Region.binds] at hd
      simp [Oper.wp, execOp, wF, Act.eval, go_sem, Oper.upon, sl, upd, hd]
      exact hW'
    · simp at ho
      subst ho
      have hW' := hW.plain 33 (by decide) (by funext k v; simp [hasL, upd]) (by decide)
      simp [Region.binds] at hd
      simp [Oper.wp, execOp, wF, Act.eval, go_sem, Oper.upon, sl, upd, hd]
      exact hW'
    · simp at ho
      subst ho
      have hW' := hW.plain 34 (by decide) (by funext k v; simp [hasL, upd]) (by decide)
      simp [Region.binds] at hd
      simp [Oper.wp, execOp, wF, Act.eval, go_sem, Oper.upon, sl, upd, hd]
      exact hW'
    · simp at ho
      subst ho
      have hW' := hW.plain 35 (by decide) (by funext k v; simp [hasL, upd]) (by decide)
      simp [Region.binds] at hd
      simp [Oper.wp, execOp, wF, Act.eval, go_sem, Oper.upon, sl, upd, hd]
      exact hW'
    · simp at ho
  · intro L u hL hW
    have e : wF w s x r L = wF w s x r (fun _ => true) := by
      simp [wF, hL]
    rw [e]
    have bel := hW.bel
    clear e hW
    simp only [wF, sl, cond_true]
    go_wp2
    exact bodyPost_ret (v := .tuple #[.int .i64 r.1, .bool r.2]) (by simp [results, Tryz.results39, go_sem]) rfl ⟨rfl, bel⟩
  · exact ⟨(heap_alloc_new w _), below_drewN ((Below.refl _ _).alloc (Nat.le_refl _) _) 1, fun _ => ⟨by simp, fun k v hv => by simp [hasL] at hv⟩, fun e => (by cases e), fun e => (by cases e)⟩

end Go.Proofs.YthohkokhimdamaaGreat

/-
  Whatever word: what agg's Value answers, and the document's Word: the same.
-/
namespace Go.Proofs.YthohkokhimdamaaGreat
open Go.RowKit Go.GrainU

/-- what a word says of a sum with a sample -/
def resw (x : ByteArray) (s : Grain.Sm) : Int × Bool := if x = ⟨#[97, 118, 103]⟩ then (s.t.tdiv s.c, true) else if x = ⟨#[99, 111, 117, 110, 116]⟩ then (s.c, true) else if x = ⟨#[102, 105, 114, 115, 116]⟩ then (s.f, true) else if x = ⟨#[108, 97, 115, 116]⟩ then (s.l, true) else if x = ⟨#[109, 97, 120]⟩ then (s.mx, true) else if x = ⟨#[109, 105, 110]⟩ then (s.mn, true) else if x = ⟨#[114, 105, 115, 101]⟩ then (s.r, true) else if x = ⟨#[115, 117, 109]⟩ then (s.t, true) else (0, false)

theorem has_val (s : Grain.Sm) (k : ByteArray) (v : Int) (h : hasL s (fun _ => true) k v) : resw k s = (v, true) := by
  rcases h with h | h | h | h | h | h | h | h
  all_goals
    obtain ⟨_, rfl, rfl⟩ := h
    simp [resw]

theorem has_fun (s : Grain.Sm) (k : ByteArray) (v v' : Int) (h : hasL s (fun _ => true) k v) (h' : hasL s (fun _ => true) k v') : v = v' := by
  have e := has_val s k v h
  have e' := has_val s k v' h'
  rw [e] at e'
  simpa using e'

theorem res_has (s : Grain.Sm) (x : ByteArray) : (∃ v, hasL s (fun _ => true) x v ∧ resw x s = (v, true)) ∨ ((∀ v, ¬ hasL s (fun _ => true) x v) ∧ resw x s = (0, false)) := by
  by_cases h0 : x = ⟨#[97, 118, 103]⟩
  · exact .inl ⟨_, .inl ⟨rfl, h0, rfl⟩, has_val s x _ (.inl ⟨rfl, h0, rfl⟩)⟩
  by_cases h1 : x = ⟨#[99, 111, 117, 110, 116]⟩
  · exact .inl ⟨_, .inr (.inl ⟨rfl, h1, rfl⟩), has_val s x _ (.inr (.inl ⟨rfl, h1, rfl⟩))⟩
  by_cases h2 : x = ⟨#[102, 105, 114, 115, 116]⟩
  · exact .inl ⟨_, .inr (.inr (.inl ⟨rfl, h2, rfl⟩)), has_val s x _ (.inr (.inr (.inl ⟨rfl, h2, rfl⟩)))⟩
  by_cases h3 : x = ⟨#[108, 97, 115, 116]⟩
  · exact .inl ⟨_, .inr (.inr (.inr (.inl ⟨rfl, h3, rfl⟩))), has_val s x _ (.inr (.inr (.inr (.inl ⟨rfl, h3, rfl⟩))))⟩
  by_cases h4 : x = ⟨#[109, 97, 120]⟩
  · exact .inl ⟨_, .inr (.inr (.inr (.inr (.inl ⟨rfl, h4, rfl⟩)))), has_val s x _ (.inr (.inr (.inr (.inr (.inl ⟨rfl, h4, rfl⟩)))))⟩
  by_cases h5 : x = ⟨#[109, 105, 110]⟩
  · exact .inl ⟨_, .inr (.inr (.inr (.inr (.inr (.inl ⟨rfl, h5, rfl⟩))))), has_val s x _ (.inr (.inr (.inr (.inr (.inr (.inl ⟨rfl, h5, rfl⟩))))))⟩
  by_cases h6 : x = ⟨#[114, 105, 115, 101]⟩
  · exact .inl ⟨_, .inr (.inr (.inr (.inr (.inr (.inr (.inl ⟨rfl, h6, rfl⟩)))))), has_val s x _ (.inr (.inr (.inr (.inr (.inr (.inr (.inl ⟨rfl, h6, rfl⟩)))))))⟩
  by_cases h7 : x = ⟨#[115, 117, 109]⟩
  · exact .inl ⟨_, .inr (.inr (.inr (.inr (.inr (.inr (.inr (⟨rfl, h7, rfl⟩))))))), has_val s x _ (.inr (.inr (.inr (.inr (.inr (.inr (.inr (⟨rfl, h7, rfl⟩))))))))⟩
  · refine .inr ⟨fun v hv => ?_, ?_⟩
    · rcases hv with h | h | h | h | h | h | h | h
      · exact h0 h.2.1
      · exact h1 h.2.1
      · exact h2 h.2.1
      · exact h3 h.2.1
      · exact h4 h.2.1
      · exact h5 h.2.1
      · exact h6 h.2.1
      · exact h7 h.2.1
    · simp [resw, h0, h1, h2, h3, h4, h5, h6, h7]

set_option maxHeartbeats 1000000 in
theorem value_count (s : Grain.Sm) (w : World) (h : 1 ≤ s.c) :
    Calls Tryz.prog 56 #[.string ⟨#[99, 111, 117, 110, 116]⟩, .agg #[.int .i64 s.c, .int .i64 s.t, .int .i64 s.mn, .int .i64 s.mx, .int .i64 s.f, .int .i64 s.l, .int .i64 s.r]] w fun e w' => e = .returned (.tuple #[.int .i64 s.c, .bool true]) ∧ Below w.heap.size w w' := by
  go_enter Tryz.func56, Tryz.ntmps56
  go_wp2
  exact bodyPost_ret (v := .tuple #[.int .i64 s.c, .bool true]) (by simp [results, Tryz.results56, go_sem]) rfl ⟨rfl, by go_grown⟩

set_option maxHeartbeats 1000000 in
theorem value_max (s : Grain.Sm) (w : World) (h : 1 ≤ s.c) :
    Calls Tryz.prog 56 #[.string ⟨#[109, 97, 120]⟩, .agg #[.int .i64 s.c, .int .i64 s.t, .int .i64 s.mn, .int .i64 s.mx, .int .i64 s.f, .int .i64 s.l, .int .i64 s.r]] w fun e w' => e = .returned (.tuple #[.int .i64 s.mx, .bool true]) ∧ Below w.heap.size w w' := by
  go_enter Tryz.func56, Tryz.ntmps56
  go_wp2
  exact bodyPost_ret (v := .tuple #[.int .i64 s.mx, .bool true]) (by simp [results, Tryz.results56, go_sem]) rfl ⟨rfl, by go_grown⟩

set_option maxHeartbeats 1000000 in
theorem value_min (s : Grain.Sm) (w : World) (h : 1 ≤ s.c) :
    Calls Tryz.prog 56 #[.string ⟨#[109, 105, 110]⟩, .agg #[.int .i64 s.c, .int .i64 s.t, .int .i64 s.mn, .int .i64 s.mx, .int .i64 s.f, .int .i64 s.l, .int .i64 s.r]] w fun e w' => e = .returned (.tuple #[.int .i64 s.mn, .bool true]) ∧ Below w.heap.size w w' := by
  go_enter Tryz.func56, Tryz.ntmps56
  go_wp2
  exact bodyPost_ret (v := .tuple #[.int .i64 s.mn, .bool true]) (by simp [results, Tryz.results56, go_sem]) rfl ⟨rfl, by go_grown⟩

set_option maxHeartbeats 1000000 in
theorem value_sum (s : Grain.Sm) (w : World) (h : 1 ≤ s.c) :
    Calls Tryz.prog 56 #[.string ⟨#[115, 117, 109]⟩, .agg #[.int .i64 s.c, .int .i64 s.t, .int .i64 s.mn, .int .i64 s.mx, .int .i64 s.f, .int .i64 s.l, .int .i64 s.r]] w fun e w' => e = .returned (.tuple #[.int .i64 s.t, .bool true]) ∧ Below w.heap.size w w' := by
  go_enter Tryz.func56, Tryz.ntmps56
  go_wp2
  exact bodyPost_ret (v := .tuple #[.int .i64 s.t, .bool true]) (by simp [results, Tryz.results56, go_sem]) rfl ⟨rfl, by go_grown⟩

set_option maxHeartbeats 1000000 in
theorem value_below (s : Grain.Sm) (x : ByteArray) (w : World) (h : s.c < 1) :
    Calls Tryz.prog 56 #[.string x, .agg #[.int .i64 s.c, .int .i64 s.t, .int .i64 s.mn, .int .i64 s.mx, .int .i64 s.f, .int .i64 s.l, .int .i64 s.r]] w fun e w' => e = .returned (.tuple #[.int .i64 0, .bool false]) ∧ Below w.heap.size w w' := by
  go_enter Tryz.func56, Tryz.ntmps56
  go_wp2
  exact bodyPost_ret (v := .tuple #[.int .i64 0, .bool false]) (by simp [results, Tryz.results56, go_sem]) rfl ⟨rfl, by go_grown⟩

set_option maxHeartbeats 1000000 in
theorem word_below (s : Grain.Sm) (x : ByteArray) (w : World) (h : s.c < 1) :
    Calls Tryz.prog 39 #[.string x, .agg #[.int .i64 s.c, .int .i64 s.t, .int .i64 s.mn, .int .i64 s.mx, .int .i64 s.f, .int .i64 s.l, .int .i64 s.r]] w fun e w' => e = .returned (.tuple #[.int .i64 0, .bool false]) ∧ Below w.heap.size w w' := by
  go_enter Tryz.func39, Tryz.ntmps39
  go_wp2
  exact bodyPost_ret (v := .tuple #[.int .i64 0, .bool false]) (by simp [results, Tryz.results39, go_sem]) rfl ⟨rfl, by go_grown⟩

theorem beq_no {x k : ByteArray} (h : ¬ x = k) : (x == k) = false := by
  cases h' : (x == k)
  · rfl
  · exact absurd ((MapKept.bytes_beq x k).1 h') h

theorem list_no {x : ByteArray} {l : List UInt8} (h : ¬ x = ⟨l.toArray⟩) : (x.toList == l) = false := by
  have := beq_no h
  rw [beq_toListBytes, show (ByteArray.mk l.toArray).toList = l from ByteArray.toList_mk l] at this
  exact this

set_option maxHeartbeats 1000000 in
theorem value_other (s : Grain.Sm) (x : ByteArray) (w : World) (h : 1 ≤ s.c) (h0 : (x.toList == [97, 118, 103]) = false) (h1 : (x.toList == [99, 111, 117, 110, 116]) = false) (h2 : (x.toList == [102, 105, 114, 115, 116]) = false) (h3 : (x.toList == [108, 97, 115, 116]) = false) (h4 : (x.toList == [109, 97, 120]) = false) (h5 : (x.toList == [109, 105, 110]) = false) (h6 : (x.toList == [114, 105, 115, 101]) = false) (h7 : (x.toList == [115, 117, 109]) = false) :
    Calls Tryz.prog 56 #[.string x, .agg #[.int .i64 s.c, .int .i64 s.t, .int .i64 s.mn, .int .i64 s.mx, .int .i64 s.f, .int .i64 s.l, .int .i64 s.r]] w fun e w' => e = .returned (.tuple #[.int .i64 0, .bool false]) ∧ Below w.heap.size w w' := by
  go_enter Tryz.func56, Tryz.ntmps56
  go_wp2
  exact bodyPost_ret (v := .tuple #[.int .i64 0, .bool false]) (by simp [results, Tryz.results56, go_sem]) rfl ⟨rfl, by go_grown⟩

/-- Value, whatever the word -/
theorem value_any (s : Grain.Sm) (x : ByteArray) (w : World) (h : 1 ≤ s.c) (t0 : -9223372036854775808 ≤ s.t) (t1 : s.t ≤ 9223372036854775807) :
    Calls Tryz.prog 56 #[.string x, .agg #[.int .i64 s.c, .int .i64 s.t, .int .i64 s.mn, .int .i64 s.mx, .int .i64 s.f, .int .i64 s.l, .int .i64 s.r]] w fun e w' => e = .returned (.tuple #[.int .i64 (resw x s).1, .bool (resw x s).2]) ∧ Below w.heap.size w w' := by
  by_cases h0 : x = ⟨#[97, 118, 103]⟩
  · subst h0
    have e : resw ⟨#[97, 118, 103]⟩ s = (s.t.tdiv s.c, true) := by simp [resw]
    rw [e]
    exact value_avg s w h t0 t1
  by_cases h1 : x = ⟨#[99, 111, 117, 110, 116]⟩
  · subst h1
    have e : resw ⟨#[99, 111, 117, 110, 116]⟩ s = (s.c, true) := by simp [resw]
    rw [e]
    exact value_count s w h
  by_cases h2 : x = ⟨#[102, 105, 114, 115, 116]⟩
  · subst h2
    have e : resw ⟨#[102, 105, 114, 115, 116]⟩ s = (s.f, true) := by simp [resw]
    rw [e]
    exact value_first s w h
  by_cases h3 : x = ⟨#[108, 97, 115, 116]⟩
  · subst h3
    have e : resw ⟨#[108, 97, 115, 116]⟩ s = (s.l, true) := by simp [resw]
    rw [e]
    exact value_last s w h
  by_cases h4 : x = ⟨#[109, 97, 120]⟩
  · subst h4
    have e : resw ⟨#[109, 97, 120]⟩ s = (s.mx, true) := by simp [resw]
    rw [e]
    exact value_max s w h
  by_cases h5 : x = ⟨#[109, 105, 110]⟩
  · subst h5
    have e : resw ⟨#[109, 105, 110]⟩ s = (s.mn, true) := by simp [resw]
    rw [e]
    exact value_min s w h
  by_cases h6 : x = ⟨#[114, 105, 115, 101]⟩
  · subst h6
    have e : resw ⟨#[114, 105, 115, 101]⟩ s = (s.r, true) := by simp [resw]
    rw [e]
    exact value_rise s w h
  by_cases h7 : x = ⟨#[115, 117, 109]⟩
  · subst h7
    have e : resw ⟨#[115, 117, 109]⟩ s = (s.t, true) := by simp [resw]
    rw [e]
    exact value_sum s w h
  · have e : resw x s = (0, false) := by simp [resw, h0, h1, h2, h3, h4, h5, h6, h7]
    rw [e]
    exact value_other s x w h (list_no h0) (list_no h1) (list_no h2) (list_no h3) (list_no h4) (list_no h5) (list_no h6) (list_no h7)

/-- the document's Word, whatever the word -/
theorem word_any (s : Grain.Sm) (x : ByteArray) (w : World) (h : 1 ≤ s.c) (t0 : -9223372036854775808 ≤ s.t) (t1 : s.t ≤ 9223372036854775807) :
    Calls Tryz.prog 39 #[.string x, .agg #[.int .i64 s.c, .int .i64 s.t, .int .i64 s.mn, .int .i64 s.mx, .int .i64 s.f, .int .i64 s.l, .int .i64 s.r]] w fun e w' => e = .returned (.tuple #[.int .i64 (resw x s).1, .bool (resw x s).2]) ∧ Below w.heap.size w w' :=
  word_some s x (resw x s) w h t0 t1 (res_has s x) (has_fun s)

/-- what a word says of whatever sum -/
def resa (x : ByteArray) (s : Grain.Sm) : Int × Bool := if s.c < 1 then (0, false) else resw x s

theorem value_all (s : Grain.Sm) (x : ByteArray) (w : World) (t0 : -9223372036854775808 ≤ s.t) (t1 : s.t ≤ 9223372036854775807) :
    Calls Tryz.prog 56 #[.string x, .agg #[.int .i64 s.c, .int .i64 s.t, .int .i64 s.mn, .int .i64 s.mx, .int .i64 s.f, .int .i64 s.l, .int .i64 s.r]] w fun e w' => e = .returned (.tuple #[.int .i64 (resa x s).1, .bool (resa x s).2]) ∧ Below w.heap.size w w' := by
  by_cases h : s.c < 1
  · have e : resa x s = (0, false) := by simp [resa, h]
    rw [e]; exact value_below s x w h
  · have e : resa x s = resw x s := by simp [resa, h]
    rw [e]; exact value_any s x w (by omega) t0 t1

theorem word_all (s : Grain.Sm) (x : ByteArray) (w : World) (t0 : -9223372036854775808 ≤ s.t) (t1 : s.t ≤ 9223372036854775807) :
    Calls Tryz.prog 39 #[.string x, .agg #[.int .i64 s.c, .int .i64 s.t, .int .i64 s.mn, .int .i64 s.mx, .int .i64 s.f, .int .i64 s.l, .int .i64 s.r]] w fun e w' => e = .returned (.tuple #[.int .i64 (resa x s).1, .bool (resa x s).2]) ∧ Below w.heap.size w w' := by
  by_cases h : s.c < 1
  · have e : resa x s = (0, false) := by simp [resa, h]
    rw [e]; exact word_below s x w h
  · have e : resa x s = resw x s := by simp [resa, h]
    rw [e]; exact word_any s x w (by omega) t0 t1

end Go.Proofs.YthohkokhimdamaaGreat
