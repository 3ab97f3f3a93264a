/-
  The walks of rise, One and Join.
-/
import Derived.Test.YtcgcefnfelmmkaaRows
import Derived.Test.YtcgcefnfelmmkaaUtil
import Derived.Test.YtcgcefnfelmmkaaSum
import Derived.Laws.Small
import Derived.Deep.RegionHeld3
namespace Go.Proofs.Ytcgcefnfelmmkaa
open Go.RowKit Go.GrainU

/-- a sum as a value -/
def sv (s : Grain.Sm) : Value := .agg #[.int .i64 s.c, .int .i64 s.t, .int .i64 s.mn, .int .i64 s.mx, .int .i64 s.f, .int .i64 s.l, .int .i64 s.r]

set_option maxHeartbeats 400000 in
theorem rise_any (a b : Int) (w : World) :
    Calls Try.prog 51 #[.int .i64 a, .int .i64 b] w fun e w' => e = .returned (.int .i64 (Grain.rise a b)) ∧ w' = w := by
  by_cases hn : b < a
  · have hf : Grain.rise a b = b := by simp [Grain.rise, hn]
    rw [hf]; clear hf
    go_enter Try.func51, Try.ntmps51
    go_wp2
    go_ret
    exact ⟨rfl, rfl⟩
  · have hf : Grain.rise a b = IntKind.i64.wrap (b - a) := by simp [Grain.rise, hn, Grain.wr]
    rw [hf]; clear hf
    go_enter Try.func51, Try.ntmps51
    go_wp2
    go_ret
    exact ⟨ret_int (by simp [IntWalk.i64_left]), rfl⟩

set_option maxHeartbeats 400000 in
theorem one_any (v : Int) (w : World) :
    Calls Try.prog 38 #[.int .i64 v] w fun e w' => e = .returned (sv (Grain.one v)) ∧ Below w.heap.size w w' := by
  go_enter Try.func38, Try.ntmps38
  go_wp2
  exact bodyPost_ret (v := sv (Grain.one v)) (by simp [results, Try.results38, go_sem, sv, Grain.one]) rfl ⟨rfl, by go_grown⟩

/-- seven cells -/
theorem seven_cells {w : World} {B : Nat} {x0 x1 x2 x3 x4 x5 x6 : Value} {t : TypeId} (h : w.heap[B]? = some (.cells #[x0, x1, x2, x3, x4, x5, x6] t (0, 0))) :
    w.cell? ⟨B, 0, none⟩ = some x0 ∧ w.cell? ⟨B, 1, none⟩ = some x1 ∧ w.cell? ⟨B, 2, none⟩ = some x2 ∧ w.cell? ⟨B, 3, none⟩ = some x3 ∧ w.cell? ⟨B, 4, none⟩ = some x4 ∧ w.cell? ⟨B, 5, none⟩ = some x5 ∧ w.cell? ⟨B, 6, none⟩ = some x6 := by
  simp [World.cell?, h]

theorem seven_thaw {w : World} {B : Nat} {x0 x1 x2 x3 x4 x5 x6 : Value} {t : TypeId} (h : w.heap[B]? = some (.cells #[x0, x1, x2, x3, x4, x5, x6] t (0, 0))) :
    w.frozen? ⟨B, 0, none⟩ = false ∧ w.frozen? ⟨B, 1, none⟩ = false ∧ w.frozen? ⟨B, 2, none⟩ = false ∧ w.frozen? ⟨B, 3, none⟩ = false ∧ w.frozen? ⟨B, 4, none⟩ = false ∧ w.frozen? ⟨B, 5, none⟩ = false ∧ w.frozen? ⟨B, 6, none⟩ = false := by
  simp [World.frozen?, h]

theorem seven_done {w W : World} {C : Nat} {x0 x1 x2 x3 x4 x5 x6 : Value} {t : TypeId} (h : W.heap[C]? = some (.cells #[x0, x1, x2, x3, x4, x5, x6] t (0, 0))) (bel : Below w.heap.size w W) (hC : w.heap.size ≤ C) (v0 v1 v2 v3 v4 v5 v6 : Value) :
    ∃ W', W' = (((((((W.setCell ⟨C, 0, none⟩ v0).setCell ⟨C, 1, none⟩ v1).setCell ⟨C, 2, none⟩ v2).setCell ⟨C, 3, none⟩ v3).setCell ⟨C, 4, none⟩ v4).setCell ⟨C, 5, none⟩ v5).setCell ⟨C, 6, none⟩ v6).drew ∧
      W'.cell? ⟨C, 0, none⟩ = some v0 ∧ W'.cell? ⟨C, 1, none⟩ = some v1 ∧ W'.cell? ⟨C, 2, none⟩ = some v2 ∧ W'.cell? ⟨C, 3, none⟩ = some v3 ∧ W'.cell? ⟨C, 4, none⟩ = some v4 ∧ W'.cell? ⟨C, 5, none⟩ = some v5 ∧ W'.cell? ⟨C, 6, none⟩ = some v6 ∧ Below w.heap.size w W' := by
  have hb : ((((((((W.setCell ⟨C, 0, none⟩ v0).setCell ⟨C, 1, none⟩ v1).setCell ⟨C, 2, none⟩ v2).setCell ⟨C, 3, none⟩ v3).setCell ⟨C, 4, none⟩ v4).setCell ⟨C, 5, none⟩ v5).setCell ⟨C, 6, none⟩ v6).drew).heap[C]? = some (.cells #[v0, v1, v2, v3, v4, v5, v6] t (0, 0)) := by
    simp [World.setCell, World.drew, Array.getElem?_modify, h]
  obtain ⟨c0, c1, c2, c3, c4, c5, c6⟩ := seven_cells hb
  exact ⟨_, rfl, c0, c1, c2, c3, c4, c5, c6, below_drewN (((((((bel.setCell hC _).setCell hC _).setCell hC _).setCell hC _).setCell hC _).setCell hC _).setCell hC _) 1⟩

theorem three_new (w : World) (x y z : Obj) : ∃ W, W = ((w.alloc x).alloc y).alloc z ∧ W.heap[w.heap.size]? = some x ∧ W.heap[w.heap.size + 1]? = some y ∧ W.heap[w.heap.size + 1 + 1]? = some z ∧ Below w.heap.size w W := by
  refine ⟨_, rfl, ?_, ?_, ?_, ?_⟩
  · rw [Below.heap_alloc _ _ _ (by simp; omega), Below.heap_alloc _ _ _ (by simp)]; exact heap_alloc_new w x
  · rw [Below.heap_alloc _ _ _ (by simp)]; simpa using heap_alloc_new (w.alloc x) y
  · simpa using heap_alloc_new ((w.alloc x).alloc y) z
  · exact (((Below.refl _ _).alloc (Nat.le_refl _) _).alloc (by simp) _).alloc (by simp; omega) _

set_option maxHeartbeats 4000000 in
theorem join_any (a b : Grain.Sm) (w : World) :
    Calls Try.prog 39 #[sv a, sv b] w fun e w' => e = .returned (sv (Grain.join a b)) ∧ Below w.heap.size w w' := by
  by_cases ha : a.c = 0
  · rw [Grain.join_zero_left a b ha]
    obtain ⟨ac, at', amn, amx, af, al, ar⟩ := a
    obtain ⟨bc, bt, bmn, bmx, bf, bl, br⟩ := b
    simp only [sv] at ha ⊢
    subst ha
    go_enter Try.func39, Try.ntmps39
    go_wp2
    exact bodyPost_ret (v := sv ⟨bc, bt, bmn, bmx, bf, bl, br⟩) (by simp [results, Try.results39, go_sem, sv]) rfl ⟨rfl, by go_grown⟩
  · by_cases hb : b.c = 0
    · rw [Grain.join_zero_right a b ha hb]
      obtain ⟨ac, at', amn, amx, af, al, ar⟩ := a
      obtain ⟨bc, bt, bmn, bmx, bf, bl, br⟩ := b
      simp only [sv] at ha hb ⊢
      subst hb
      have ha' : (ac == 0) = false := by simpa using ha
      go_enter Try.func39, Try.ntmps39
      go_wp2
      exact bodyPost_ret (v := sv ⟨ac, at', amn, amx, af, al, ar⟩) (by simp [results, Try.results39, go_sem, sv]) rfl ⟨rfl, by go_grown⟩
    · rw [Grain.join_full a b ha hb]
      obtain ⟨ac, at', amn, amx, af, al, ar⟩ := a
      obtain ⟨bc, bt, bmn, bmx, bf, bl, br⟩ := b
      simp only [sv] at ha hb ⊢
      have ha' : (ac == 0) = false := by simpa using ha
      have hb' : (bc == 0) = false := by simpa using hb
      generalize hM : (if bmn < amn then bmn else amn) = M
      have hX' : (if bmx > amx then bmx else amx) = (if amx < bmx then bmx else amx) := rfl
      rw [hX']
      clear hX'
      generalize hX : (if amx < bmx then bmx else amx) = X
      go_enter Try.func39, Try.ntmps39
      obtain ⟨W, hW, F0, F1, F2, bel⟩ := three_new w (.cells #[.int .i64 ac, .int .i64 at', .int .i64 amn, .int .i64 amx, .int .i64 af, .int .i64 al, .int .i64 ar] 47) (.cells #[.int .i64 bc, .int .i64 bt, .int .i64 bmn, .int .i64 bmx, .int .i64 bf, .int .i64 bl, .int .i64 br] 47) (.cells #[.int .i64 0, .int .i64 0, .int .i64 0, .int .i64 0, .int .i64 0, .int .i64 0, .int .i64 0] 47)
      have HW := hide hW
      clear hW
      go_wp2_with fail
      rw [← HW.out]
      obtain ⟨x0, x1, x2, x3, x4, x5, x6⟩ := seven_cells F0
      obtain ⟨y0, y1, y2, y3, y4, y5, y6⟩ := seven_cells F1
      obtain ⟨z0, z1, z2, z3, z4, z5, z6⟩ := seven_cells F2
      obtain ⟨f0, f1, f2, f3, f4, f5, f6⟩ := seven_thaw F2
      have n1 : ¬ (w.heap.size = w.heap.size + 1 + 1) := by omega
      have n2 : ¬ (w.heap.size + 1 + 1 = w.heap.size) := by omega
      have n3 : ¬ (w.heap.size + 1 = w.heap.size + 1 + 1) := by omega
      have n4 : ¬ (w.heap.size + 1 + 1 = w.heap.size + 1) := by omega
      go_region_held3 (fun w' => w'.cell? ⟨w.heap.size, 0, none⟩ = some (.int .i64 ac) ∧ w'.cell? ⟨w.heap.size, 1, none⟩ = some (.int .i64 at') ∧ w'.cell? ⟨w.heap.size, 2, none⟩ = some (.int .i64 amn) ∧ w'.cell? ⟨w.heap.size, 3, none⟩ = some (.int .i64 amx) ∧ w'.cell? ⟨w.heap.size, 4, none⟩ = some (.int .i64 af) ∧ w'.cell? ⟨w.heap.size, 5, none⟩ = some (.int .i64 al) ∧ w'.cell? ⟨w.heap.size, 6, none⟩ = some (.int .i64 ar) ∧
          w'.cell? ⟨w.heap.size + 1, 0, none⟩ = some (.int .i64 bc) ∧ w'.cell? ⟨w.heap.size + 1, 1, none⟩ = some (.int .i64 bt) ∧ w'.cell? ⟨w.heap.size + 1, 2, none⟩ = some (.int .i64 bmn) ∧ w'.cell? ⟨w.heap.size + 1, 3, none⟩ = some (.int .i64 bmx) ∧ w'.cell? ⟨w.heap.size + 1, 4, none⟩ = some (.int .i64 bf) ∧ w'.cell? ⟨w.heap.size + 1, 5, none⟩ = some (.int .i64 bl) ∧ w'.cell? ⟨w.heap.size + 1, 6, none⟩ = some (.int .i64 br)) (go_keep)
        (first
          | (go_at_call 51; refine (rise_any _ _ _).mono ?_; rintro e w' ⟨rfl, rfl⟩))
      all_goals
        obtain ⟨W', hW', c0, c1, c2, c3, c4, c5, c6, bel'⟩ := seven_done F2 bel (by omega) (.int .i64 (IntKind.i64.wrap (ac + bc))) (.int .i64 (IntKind.i64.wrap (at' + bt))) (.int .i64 M) (.int .i64 X) (.int .i64 af) (.int .i64 bl) (.int .i64 (IntKind.i64.wrap (IntKind.i64.wrap (ar + Grain.rise al bf) + br)))
        rw [← hW']
        clear hW' F0 F1 F2 x0 x1 x2 x3 x4 x5 x6 y0 y1 y2 y3 y4 y5 y6 z0 z1 z2 z3 z4 z5 z6 f0 f1 f2 f3 f4 f5 f6 n1 n2 n3 n4 HW
        go_wp2
        exact bodyPost_ret (v := .agg #[.int .i64 (Grain.wr (ac + bc)), .int .i64 (Grain.wr (at' + bt)), .int .i64 M, .int .i64 X, .int .i64 af, .int .i64 bl, .int .i64 (Grain.wr (Grain.wr (ar + Grain.rise al bf) + br))]) (by simp [results, Try.results39, go_sem, Grain.wr, c0, c1, c2, c3, c4, c5, c6]) rfl ⟨rfl, bel'⟩

end Go.Proofs.Ytcgcefnfelmmkaa
