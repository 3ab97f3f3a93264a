/-
  The walk of the document's Word, a sample at least.
-/
import Derived.Test.YthbllehncjeolaaWordA
namespace Go.Proofs.Ythbllehncjeolaa
open Go.RowKit Go.GrainU

theorem zero_int (u : World) : (zeroValue 3).run Try.prog u = .ok (.int .i64 0) u := by
  simp [zeroValue, go_sem, Try.t3]

set_option maxHeartbeats 4000000 in
theorem word_some (s : Grain.Sm) (x : ByteArray) (r : Int × Bool) (w : World) (h : 1 ≤ s.c) (t0 : -9223372036854775808 ≤ s.t) (t1 : s.t ≤ 9223372036854775807)
    (hr : (∃ v, hasL s (fun _ => true) x v ∧ r = (v, true)) ∨ ((∀ v, ¬ hasL s (fun _ => true) x v) ∧ r = (0, false)))
    (hfun : ∀ k v v', hasL s (fun _ => true) k v → hasL s (fun _ => true) k v' → v = v') :
    Calls Try.prog 24 #[.string x, .agg #[.int .i64 s.c, .int .i64 s.t, .int .i64 s.mn, .int .i64 s.mx, .int .i64 s.f, .int .i64 s.l, .int .i64 s.r]] w fun e w' => e = .returned (.tuple #[.int .i64 r.1, .bool r.2]) ∧ Below w.heap.size w w' := by
  have hq := wrap_i64_tdiv s.t s.c t0 t1 h
  have hz : (s.c == 0) = false := by simp; omega
  have Hq := hide hq
  have Hz := hide hz
  have Hr := hide hr
  have Hf := hide hfun
  clear hq hz hr hfun
  go_enter Try.func24, Try.ntmps24
  go_wp2_with fail
  refine wp_region_flow (wF w s x r) (WI w s) (by kernel_rfl) (by kernel_rfl) ?_ ?_ ?_
  · intro L u i o ho hL hd hW
    have hq := Hq.out
    have hz : ¬ s.c = 0 := by have := Hz.out; simpa using this
    obtain ⟨b0, b1, b2, b3, b4, b5, b6⟩ := hW.box.cells
    rcases i with _ | _ | _ | _ | _ | _ | _ | _ | _ | _ | _ | _ | _ | _ | _ | _ | _ | _ | _ | _ | _ | _ | _ | _ | _ | _ | _ | _ | _ | _ | _ | _ | _ | _ | _ | _ | i
    · simp at ho
      subst ho
      obtain ⟨hrun, hW'⟩ := hW.make hL
      simp [Oper.wp, execOp, wF, go_sem, Oper.upon, sl, upd, hrun]
      exact hW'
    · simp at ho
      subst ho
      have hW' := hW.plain 1 (by decide) (by funext k v; simp [hasL, upd]) (by decide)
      simp [Oper.wp, execOp, wF, Act.eval, go_sem, Oper.upon, sl, upd]
      exact hW'
    · simp at ho
      subst ho
      have hW' := hW.plain 2 (by decide) (by funext k v; simp [hasL, upd]) (by decide)
      simp [Region.binds] at hd
      simp [Oper.wp, execOp, wF, Act.eval, go_sem, Oper.upon, sl, upd, hd, b1]
      exact hW'
    · simp at ho
      subst ho
      have hW' := hW.plain 3 (by decide) (by funext k v; simp [hasL, upd]) (by decide)
      simp [Oper.wp, execOp, wF, Act.eval, go_sem, Oper.upon, sl, upd]
      exact hW'
    · simp at ho
      subst ho
      have hW' := hW.plain 4 (by decide) (by funext k v; simp [hasL, upd]) (by decide)
      simp [Region.binds] at hd
      simp [Oper.wp, execOp, wF, Act.eval, go_sem, Oper.upon, sl, upd, hd, b0]
      exact hW'
    · simp at ho
      subst ho
      have hW' := hW.plain 5 (by decide) (by funext k v; simp [hasL, upd]) (by decide)
      simp [Region.binds] at hd
      simp [Oper.wp, execOp, wF, Act.eval, go_sem, Oper.upon, sl, upd, hd, hq, hz]
      exact hW'
    · simp at ho
      subst ho
      simp [Region.binds] at hd
      obtain ⟨u', hrun, hW'⟩ := hW.put hd.1 6 (by decide) (by decide) ⟨#[97, 118, 103]⟩ (s.t.tdiv s.c) (by intro v'; simp [hasL, hL]) (has_put6 s L hL)
      simp [Oper.wp, execOp, wF, Act.eval, go_sem, Oper.upon, sl, upd, hd, hrun]
      exact hW'
    · simp at ho
      subst ho
      have hW' := hW.plain 7 (by decide) (by funext k v; simp [hasL, upd]) (by decide)
      simp [Oper.wp, execOp, wF, Act.eval, go_sem, Oper.upon, sl, upd]
      exact hW'
    · simp at ho
      subst ho
      have hW' := hW.plain 8 (by decide) (by funext k v; simp [hasL, upd]) (by decide)
      simp [Region.binds] at hd
      simp [Oper.wp, execOp, wF, Act.eval, go_sem, Oper.upon, sl, upd, hd, b0]
      exact hW'
    · simp at ho
      subst ho
      simp [Region.binds] at hd
      obtain ⟨u', hrun, hW'⟩ := hW.put hd.1 9 (by decide) (by decide) ⟨#[99, 111, 117, 110, 116]⟩ s.c (by intro v'; simp [hasL, hL]) (has_put9 s L hL)
      simp [Oper.wp, execOp, wF, Act.eval, go_sem, Oper.upon, sl, upd, hd, hrun]
      exact hW'
    · simp at ho
      subst ho
      have hW' := hW.plain 10 (by decide) (by funext k v; simp [hasL, upd]) (by decide)
      simp [Oper.wp, execOp, wF, Act.eval, go_sem, Oper.upon, sl, upd]
      exact hW'
    · simp at ho
      subst ho
      have hW' := hW.plain 11 (by decide) (by funext k v; simp [hasL, upd]) (by decide)
      simp [Region.binds] at hd
      simp [Oper.wp, execOp, wF, Act.eval, go_sem, Oper.upon, sl, upd, hd, b4]
      exact hW'
    · simp at ho
      subst ho
      simp [Region.binds] at hd
      obtain ⟨u', hrun, hW'⟩ := hW.put hd.1 12 (by decide) (by decide) ⟨#[102, 105, 114, 115, 116]⟩ s.f (by intro v'; simp [hasL, hL]) (has_put12 s L hL)
      simp [Oper.wp, execOp, wF, Act.eval, go_sem, Oper.upon, sl, upd, hd, hrun]
      exact hW'
    · simp at ho
      subst ho
      have hW' := hW.plain 13 (by decide) (by funext k v; simp [hasL, upd]) (by decide)
      simp [Oper.wp, execOp, wF, Act.eval, go_sem, Oper.upon, sl, upd]
      exact hW'
    · simp at ho
      subst ho
      have hW' := hW.plain 14 (by decide) (by funext k v; simp [hasL, upd]) (by decide)
      simp [Region.binds] at hd
      simp [Oper.wp, execOp, wF, Act.eval, go_sem, Oper.upon, sl, upd, hd, b5]
      exact hW'
    · simp at ho
      subst ho
      simp [Region.binds] at hd
      obtain ⟨u', hrun, hW'⟩ := hW.put hd.1 15 (by decide) (by decide) ⟨#[108, 97, 115, 116]⟩ s.l (by intro v'; simp [hasL, hL]) (has_put15 s L hL)
      simp [Oper.wp, execOp, wF, Act.eval, go_sem, Oper.upon, sl, upd, hd, hrun]
      exact hW'
    · simp at ho
      subst ho
      have hW' := hW.plain 16 (by decide) (by funext k v; simp [hasL, upd]) (by decide)
      simp [Oper.wp, execOp, wF, Act.eval, go_sem, Oper.upon, sl, upd]
      exact hW'
    · simp at ho
      subst ho
      have hW' := hW.plain 17 (by decide) (by funext k v; simp [hasL, upd]) (by decide)
      simp [Region.binds] at hd
      simp [Oper.wp, execOp, wF, Act.eval, go_sem, Oper.upon, sl, upd, hd, b3]
      exact hW'
    · simp at ho
      subst ho
      simp [Region.binds] at hd
      obtain ⟨u', hrun, hW'⟩ := hW.put hd.1 18 (by decide) (by decide) ⟨#[109, 97, 120]⟩ s.mx (by intro v'; simp [hasL, hL]) (has_put18 s L hL)
      simp [Oper.wp, execOp, wF, Act.eval, go_sem, Oper.upon, sl, upd, hd, hrun]
      exact hW'
    · simp at ho
      subst ho
      have hW' := hW.plain 19 (by decide) (by funext k v; simp [hasL, upd]) (by decide)
      simp [Oper.wp, execOp, wF, Act.eval, go_sem, Oper.upon, sl, upd]
      exact hW'
    · simp at ho
      subst ho
      have hW' := hW.plain 20 (by decide) (by funext k v; simp [hasL, upd]) (by decide)
      simp [Region.binds] at hd
      simp [Oper.wp, execOp, wF, Act.eval, go_sem, Oper.upon, sl, upd, hd, b2]
      exact hW'
    · simp at ho
      subst ho
      simp [Region.binds] at hd
      obtain ⟨u', hrun, hW'⟩ := hW.put hd.1 21 (by decide) (by decide) ⟨#[109, 105, 110]⟩ s.mn (by intro v'; simp [hasL, hL]) (has_put21 s L hL)
      simp [Oper.wp, execOp, wF, Act.eval, go_sem, Oper.upon, sl, upd, hd, hrun]
      exact hW'
    · simp at ho
      subst ho
      have hW' := hW.plain 22 (by decide) (by funext k v; simp [hasL, upd]) (by decide)
      simp [Oper.wp, execOp, wF, Act.eval, go_sem, Oper.upon, sl, upd]
      exact hW'
    · simp at ho
      subst ho
      have hW' := hW.plain 23 (by decide) (by funext k v; simp [hasL, upd]) (by decide)
      simp [Region.binds] at hd
      simp [Oper.wp, execOp, wF, Act.eval, go_sem, Oper.upon, sl, upd, hd, b6]
      exact hW'
    · simp at ho
      subst ho
      simp [Region.binds] at hd
      obtain ⟨u', hrun, hW'⟩ := hW.put hd.1 24 (by decide) (by decide) ⟨#[114, 105, 115, 101]⟩ s.r (by intro v'; simp [hasL, hL]) (has_put24 s L hL)
      simp [Oper.wp, execOp, wF, Act.eval, go_sem, Oper.upon, sl, upd, hd, hrun]
      exact hW'
    · simp at ho
      subst ho
      have hW' := hW.plain 25 (by decide) (by funext k v; simp [hasL, upd]) (by decide)
      simp [Oper.wp, execOp, wF, Act.eval, go_sem, Oper.upon, sl, upd]
      exact hW'
    · simp at ho
      subst ho
      have hW' := hW.plain 26 (by decide) (by funext k v; simp [hasL, upd]) (by decide)
      simp [Region.binds] at hd
      simp [Oper.wp, execOp, wF, Act.eval, go_sem, Oper.upon, sl, upd, hd, b1]
      exact hW'
    · simp at ho
      subst ho
      simp [Region.binds] at hd
      obtain ⟨u', hrun, hW'⟩ := hW.put hd.1 27 (by decide) (by decide) ⟨#[115, 117, 109]⟩ s.t (by intro v'; simp [hasL, hL]) (has_put27 s L hL)
      simp [Oper.wp, execOp, wF, Act.eval, go_sem, Oper.upon, sl, upd, hd, hrun]
      exact hW'
    · simp at ho
      subst ho
      simp [Region.binds] at hd
      have hW' := hW.other 28 (by decide) (by funext k v; simp [hasL, upd]) (fun _ j hj => upd_true (by rcases j with _ | _ | _ | _ | _ | _ | _ | _ | _ | _ | _ | _ | _ | _ | _ | _ | _ | _ | _ | _ | _ | _ | _ | _ | _ | _ | _ | _ | j <;> first | (simp [hd]; done) | omega))
      simp [Oper.wp, execOp, wF, Act.eval, go_sem, Oper.upon, sl, upd, hd]
      exact hW'
    · simp at ho
      subst ho
      have hW' := hW.plain 29 (by decide) (by funext k v; simp [hasL, upd]) (by decide)
      simp [Region.binds] at hd
      simp [Oper.wp, execOp, wF, Act.eval, go_sem, Oper.upon, sl, upd]
      exact hW'
    · simp at ho
      subst ho
      simp [Region.binds] at hd
      have hal := hW.all hd.1
      have hh : hasL s L = hasL s (fun _ => true) := by funext k v; simp [hasL, hal]
      have hget := map_get (P := Try.prog) Try.underlying57 Try.underlying9 (zero_int u) (by have := hW.map (hal 0 (by decide)); rw [hh] at this; exact this) Hf.out x r Hr.out
      have hW' := hW.plain 30 (by decide) (by funext k v; simp [hasL, upd]) (by decide)
      simp [Oper.wp, execOp, wF, Act.eval, go_sem, Oper.upon, sl, upd, hd, hget]
      exact hW'
    · simp at ho
      subst ho
      have hW' := hW.plain 31 (by decide) (by funext k v; simp [hasL, upd]) (by decide)
      simp [Region.binds] at hd
      simp [Oper.wp, execOp, wF, Act.eval, go_sem, Oper.upon, sl, upd, hd]
      exact hW'
    · simp at ho
      subst ho
      have hW' := hW.plain 32 (by decide) (by funext k v; simp [hasL, upd]) (by decide)
      simp [Region.binds] at hd
      simp [Oper.wp, execOp, wF, Act.eval, go_sem, Oper.upon, sl, upd, hd]
      exact hW'
    · simp at ho
      subst ho
      have hW' := hW.plain 33 (by decide) (by funext k v; simp [hasL, upd]) (by decide)
      simp [Region.binds] at hd
      simp [Oper.wp, execOp, wF, Act.eval, go_sem, Oper.upon, sl, upd, hd]
      exact hW'
    · simp at ho
      subst ho
      have hW' := hW.plain 34 (by decide) (by funext k v; simp [hasL, upd]) (by decide)
      simp [Region.binds] at hd
      simp [Oper.wp, execOp, wF, Act.eval, go_sem, Oper.upon, sl, upd, hd]
      exact hW'
    · simp at ho
      subst ho
      have hW' := hW.plain 35 (by decide) (by funext k v; simp [hasL, upd]) (by decide)
      simp [Region.binds] at hd
      simp [Oper.wp, execOp, wF, Act.eval, go_sem, Oper.upon, sl, upd, hd]
      exact hW'
    · simp at ho
  · intro L u hL hW
    have e : wF w s x r L = wF w s x r (fun _ => true) := by
      simp [wF, hL]
    rw [e]
    have bel := hW.bel
    clear e hW
    simp only [wF, sl, cond_true]
    go_wp2
    exact bodyPost_ret (v := .tuple #[.int .i64 r.1, .bool r.2]) (by simp [results, Try.results24, go_sem]) rfl ⟨rfl, bel⟩
  · exact ⟨(heap_alloc_new w _), below_drewN ((Below.refl _ _).alloc (Nat.le_refl _) _) 1, fun _ => ⟨by simp, fun k v hv => by simp [hasL] at hv⟩, fun e => (by cases e), fun e => (by cases e)⟩

end Go.Proofs.Ythbllehncjeolaa
