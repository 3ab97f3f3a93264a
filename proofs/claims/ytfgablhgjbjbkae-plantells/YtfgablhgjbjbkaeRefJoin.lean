/-
  The walk of the document's Join.
-/
import Derived.Test.YtfgablhgjbjbkaeRefUp
namespace Go.Proofs.Ytfgablhgjbjbkae
open Go.RowKit Go.GrainU

theorem rjoin_mid {w W : World} {x0 x1 x2 x3 x4 x5 x6 z0 z1 z2 z3 z4 z5 z6 : Value} {t : TypeId} (h1 : W.heap[w.heap.size + 1]? = some (.cells #[x0, x1, x2, x3, x4, x5, x6] t (0, 0))) (h2 : W.heap[w.heap.size + 1 + 1]? = some (.cells #[z0, z1, z2, z3, z4, z5, z6] t (0, 0))) (bel : Below w.heap.size w W) (v0 v1 v2 v3 v4 v5 v6 : Value) :
    ∃ V, V = (W.alloc (.cells #[v0, v1, v2, v3, v4, v5, v6] t)).drew ∧ ∃ D, V.cell? ⟨D, 0, none⟩ = some v0 ∧ V.cell? ⟨D, 1, none⟩ = some v1 ∧ V.cell? ⟨D, 2, none⟩ = some v2 ∧ V.cell? ⟨D, 3, none⟩ = some v3 ∧ V.cell? ⟨D, 4, none⟩ = some v4 ∧ V.cell? ⟨D, 5, none⟩ = some v5 ∧ V.cell? ⟨D, 6, none⟩ = some v6 ∧
      V.frozen? ⟨D, 2, none⟩ = false ∧ V.frozen? ⟨D, 3, none⟩ = false ∧ V.cell? ⟨w.heap.size + 1, 2, none⟩ = some x2 ∧ V.cell? ⟨w.heap.size + 1, 3, none⟩ = some x3 ∧ V.heap[w.heap.size + 1 + 1]? = some (.cells #[z0, z1, z2, z3, z4, z5, z6] t (0, 0)) ∧ Below w.heap.size w V ∧ D = W.heap.size ∧ w.heap.size + 1 + 1 < D := by
  have l2 := lt_of_block h2
  have hd : (W.alloc (.cells #[v0, v1, v2, v3, v4, v5, v6] t)).drew.heap[W.heap.size]? = some (.cells #[v0, v1, v2, v3, v4, v5, v6] t (0, 0)) := heap_alloc_new W _
  have h1' : (W.alloc (.cells #[v0, v1, v2, v3, v4, v5, v6] t)).drew.heap[w.heap.size + 1]? = some (.cells #[x0, x1, x2, x3, x4, x5, x6] t (0, 0)) := by
    show (W.alloc _).heap[_]? = _
    rw [Below.heap_alloc _ _ _ (by omega)]; exact h1
  have h2' : (W.alloc (.cells #[v0, v1, v2, v3, v4, v5, v6] t)).drew.heap[w.heap.size + 1 + 1]? = some (.cells #[z0, z1, z2, z3, z4, z5, z6] t (0, 0)) := by
    show (W.alloc _).heap[_]? = _
    rw [Below.heap_alloc _ _ _ (by omega)]; exact h2
  obtain ⟨c0, c1, c2, c3, c4, c5, c6⟩ := seven_cells hd
  obtain ⟨_, _, g2, g3, _, _, _⟩ := seven_thaw hd
  obtain ⟨_, _, y2, y3, _, _, _⟩ := seven_cells h1'
  exact ⟨_, rfl, W.heap.size, c0, c1, c2, c3, c4, c5, c6, g2, g3, y2, y3, h2', below_drewN (bel.alloc bel.size _) 1, rfl, l2⟩

set_option maxHeartbeats 4000000 in
theorem rjoin_any (a b : Grain.Sm) (w : World) :
    Calls Try.prog 78 #[sv a, sv b] w fun e w' => e = .returned (sv (Grain.join a b)) ∧ Below w.heap.size w w' := by
  by_cases ha : a.c = 0
  · rw [Grain.join_zero_left a b ha]
    obtain ⟨ac, at', amn, amx, af, al, ar⟩ := a
    obtain ⟨bc, bt, bmn, bmx, bf, bl, br⟩ := b
    simp only [sv] at ha ⊢
    subst ha
    go_enter Try.func78, Try.ntmps78
    go_wp2
    exact bodyPost_ret (v := sv ⟨bc, bt, bmn, bmx, bf, bl, br⟩) (by simp [results, Try.results78, go_sem, sv]) rfl ⟨rfl, by go_grown⟩
  · by_cases hb : b.c = 0
    · rw [Grain.join_zero_right a b ha hb]
      obtain ⟨ac, at', amn, amx, af, al, ar⟩ := a
      obtain ⟨bc, bt, bmn, bmx, bf, bl, br⟩ := b
      simp only [sv] at ha hb ⊢
      subst hb
      have ha' : (ac == 0) = false := by simpa using ha
      go_enter Try.func78, Try.ntmps78
      go_wp2
      exact bodyPost_ret (v := sv ⟨ac, at', amn, amx, af, al, ar⟩) (by simp [results, Try.results78, go_sem, sv]) rfl ⟨rfl, by go_grown⟩
    · obtain ⟨ac, at', amn, amx, af, al, ar⟩ := a
      obtain ⟨bc, bt, bmn, bmx, bf, bl, br⟩ := b
      simp only [sv] at ha hb ⊢
      have ha' : (ac == 0) = false := by simpa using ha
      have hb' : (bc == 0) = false := by simpa using hb
      have HJ := hide (Grain.join_full ⟨ac, at', amn, amx, af, al, ar⟩ ⟨bc, bt, bmn, bmx, bf, bl, br⟩ ha hb)
      go_enter Try.func78, Try.ntmps78
      obtain ⟨W, hW, F0, F1, F2, bel⟩ := three_new w (.cells #[.int .i64 ac, .int .i64 at', .int .i64 amn, .int .i64 amx, .int .i64 af, .int .i64 al, .int .i64 ar] 62) (.cells #[.int .i64 bc, .int .i64 bt, .int .i64 bmn, .int .i64 bmx, .int .i64 bf, .int .i64 bl, .int .i64 br] 62) (.cells #[.int .i64 0, .int .i64 0, .int .i64 0, .int .i64 0, .int .i64 0, .int .i64 0, .int .i64 0] 62)
      have HW := hide hW
      clear hW
      go_wp2_with fail
      rw [← HW.out]
      obtain ⟨x0, x1, x2, x3, x4, x5, x6⟩ := seven_cells F0
      obtain ⟨y0, y1, y2, y3, y4, y5, y6⟩ := seven_cells F1
      have l2 := lt_of_block F2
      have n1 : ¬ (w.heap.size = W.heap.size) := by omega
      have n2 : ¬ (W.heap.size = w.heap.size) := by omega
      have n3 : ¬ (w.heap.size + 1 = W.heap.size) := by omega
      have n4 : ¬ (W.heap.size = w.heap.size + 1) := by omega
      go_region_held3 (fun w' => w'.cell? ⟨w.heap.size, 0, none⟩ = some (.int .i64 ac) ∧ w'.cell? ⟨w.heap.size, 1, none⟩ = some (.int .i64 at') ∧ w'.cell? ⟨w.heap.size, 2, none⟩ = some (.int .i64 amn) ∧ w'.cell? ⟨w.heap.size, 3, none⟩ = some (.int .i64 amx) ∧ w'.cell? ⟨w.heap.size, 4, none⟩ = some (.int .i64 af) ∧ w'.cell? ⟨w.heap.size, 5, none⟩ = some (.int .i64 al) ∧ w'.cell? ⟨w.heap.size, 6, none⟩ = some (.int .i64 ar) ∧ w'.cell? ⟨w.heap.size + 1, 0, none⟩ = some (.int .i64 bc) ∧ w'.cell? ⟨w.heap.size + 1, 1, none⟩ = some (.int .i64 bt) ∧ w'.cell? ⟨w.heap.size + 1, 2, none⟩ = some (.int .i64 bmn) ∧ w'.cell? ⟨w.heap.size + 1, 3, none⟩ = some (.int .i64 bmx) ∧ w'.cell? ⟨w.heap.size + 1, 4, none⟩ = some (.int .i64 bf) ∧ w'.cell? ⟨w.heap.size + 1, 5, none⟩ = some (.int .i64 bl) ∧ w'.cell? ⟨w.heap.size + 1, 6, none⟩ = some (.int .i64 br)) (go_keep)
        (first
          | (go_at_call 99; refine (up_any _ _ _).mono ?_; rintro e w' ⟨rfl, rfl⟩))
      all_goals
        obtain ⟨V, hV, D, c0, c1, c2, c3, c4, c5, c6, g2, g3, y2', y3', z, belV, hDW, hD⟩ := rjoin_mid F1 F2 bel (.int .i64 (IntKind.i64.wrap (ac + bc))) (.int .i64 (IntKind.i64.wrap (at' + bt))) (.int .i64 amn) (.int .i64 amx) (.int .i64 af) (.int .i64 bl) (.int .i64 (IntKind.i64.wrap (IntKind.i64.wrap (ar + Grain.rise al bf) + br)))
        rw [← hV]
        obtain ⟨z0, z1, z2, z3, z4, z5, z6⟩ := seven_cells z
        obtain ⟨f0, f1, f2, f3, f4, f5, f6⟩ := seven_thaw z
        rw [← hDW]
        clear hV F0 F1 F2 x0 x1 x2 x3 x4 x5 x6 y0 y1 y2 y3 y4 y5 y6 n1 n2 n3 n4 HW bel l2 z hDW
        have n1 : ¬ (D = w.heap.size + 1 + 1) := by omega
        have n2 : ¬ (w.heap.size + 1 + 1 = D) := by omega
        have n3 : ¬ (D = w.heap.size + 1) := by omega
        have n4 : ¬ (w.heap.size + 1 = D) := by omega
        have hDw : w.heap.size ≤ D := by omega
        by_cases q1 : bmn < amn
        · by_cases q2 : amx < bmx
          · have p1 := hide q1
            have p2 := hide q2
            go_wp2
            exact bodyPost_ret (v := sv (Grain.join ⟨ac, at', amn, amx, af, al, ar⟩ ⟨bc, bt, bmn, bmx, bf, bl, br⟩)) (by have a1 := p1.out; have a2 := p2.out; rw [HJ.out]; simp [results, Try.results78, go_sem, sv, Grain.wr, IntWalk.i64_left, p1.out, p2.out, z0, z1, z2, z3, z4, z5, z6] <;> omega) rfl ⟨rfl, below_set7 ((belV.setCell hDw _).setCell hDw _) (by omega) _ _ _ _ _ _ _⟩
          · have p1 := hide q1
            have p2 := hide q2
            go_wp2
            exact bodyPost_ret (v := sv (Grain.join ⟨ac, at', amn, amx, af, al, ar⟩ ⟨bc, bt, bmn, bmx, bf, bl, br⟩)) (by have a1 := p1.out; have a2 := p2.out; rw [HJ.out]; simp [results, Try.results78, go_sem, sv, Grain.wr, IntWalk.i64_left, p1.out, z0, z1, z2, z3, z4, z5, z6] <;> omega) rfl ⟨rfl, below_set7 (belV.setCell hDw _) (by omega) _ _ _ _ _ _ _⟩
        · by_cases q2 : amx < bmx
          · have p1 := hide q1
            have p2 := hide q2
            go_wp2
            exact bodyPost_ret (v := sv (Grain.join ⟨ac, at', amn, amx, af, al, ar⟩ ⟨bc, bt, bmn, bmx, bf, bl, br⟩)) (by have a1 := p1.out; have a2 := p2.out; rw [HJ.out]; simp [results, Try.results78, go_sem, sv, Grain.wr, IntWalk.i64_left, p2.out, z0, z1, z2, z3, z4, z5, z6] <;> omega) rfl ⟨rfl, below_set7 (belV.setCell hDw _) (by omega) _ _ _ _ _ _ _⟩
          · have p1 := hide q1
            have p2 := hide q2
            go_wp2
            exact bodyPost_ret (v := sv (Grain.join ⟨ac, at', amn, amx, af, al, ar⟩ ⟨bc, bt, bmn, bmx, bf, bl, br⟩)) (by have a1 := p1.out; have a2 := p2.out; rw [HJ.out]; simp [results, Try.results78, go_sem, sv, Grain.wr, IntWalk.i64_left, z0, z1, z2, z3, z4, z5, z6] <;> omega) rfl ⟨rfl, below_set7 belV (by omega) _ _ _ _ _ _ _⟩

end Go.Proofs.Ytfgablhgjbjbkae
