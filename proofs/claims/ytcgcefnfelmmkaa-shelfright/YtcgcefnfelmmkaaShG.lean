/-
  The walks of copiedShelf and New.
-/
import Derived.Test.YtcgcefnfelmmkaaShF
namespace Go.GrainU
open Go.RowKit

theorem set_block {w : World} {B i : Nat} {cs : Array Value} {t : TypeId} (h : w.heap[B]? = some (.cells cs t (0, 0))) (u : Value) : (w.setCell ⟨B, i, none⟩ u).heap[B]? = some (.cells (cs.setIfInBounds i u) t (0, 0)) := by
  simp [World.setCell, Array.getElem?_modify, h]

/-- nine cells written -/
def Set9 (w : World) (B : Nat) (v0 v1 v2 v3 v4 v5 v6 v7 v8 : Value) : World :=
  ((((((((w.setCell ⟨B, 0, none⟩ v0).setCell ⟨B, 1, none⟩ v1).setCell ⟨B, 2, none⟩ v2).setCell ⟨B, 3, none⟩ v3).setCell ⟨B, 4, none⟩ v4).setCell ⟨B, 5, none⟩ v5).setCell ⟨B, 6, none⟩ v6).setCell ⟨B, 7, none⟩ v7).setCell ⟨B, 8, none⟩ v8

theorem own_set9 {w : World} {base : Nat} {e : TypeId} {size : Nat} {v : Value} {n : Nat} {xs : List Value} (h : w.ownsRow base e size v n xs) {B : Nat} (ha : B < base) (v0 v1 v2 v3 v4 v5 v6 v7 v8 : Value) : (Set9 w B v0 v1 v2 v3 v4 v5 v6 v7 v8).ownsRow base e size v n xs :=
  ownsRow_setCell_below (ownsRow_setCell_below (ownsRow_setCell_below (ownsRow_setCell_below (ownsRow_setCell_below (ownsRow_setCell_below (ownsRow_setCell_below (ownsRow_setCell_below (ownsRow_setCell_below h ha _) ha _) ha _) ha _) ha _) ha _) ha _) ha _) ha _

theorem below_set9 {w w' : World} {base B : Nat} (h : Below base w w') (hb : base ≤ B) (v0 v1 v2 v3 v4 v5 v6 v7 v8 : Value) : Below base w (Set9 w' B v0 v1 v2 v3 v4 v5 v6 v7 v8) :=
  ((((((((h.setCell hb _).setCell hb _).setCell hb _).setCell hb _).setCell hb _).setCell hb _).setCell hb _).setCell hb _).setCell hb _

end Go.GrainU
namespace Go.Proofs.Ytcgcefnfelmmkaa
open Go.RowKit Go.GrainU

/-- nine values as a block -/
def sob (v0 v1 v2 v3 v4 v5 v6 v7 v8 : Value) : Obj := .cells #[v0, v1, v2, v3, v4, v5, v6, v7, v8] 27

theorem sob_cells {w : World} {B : Nat} {v0 v1 v2 v3 v4 v5 v6 v7 v8 : Value} (h : w.heap[B]? = some (sob v0 v1 v2 v3 v4 v5 v6 v7 v8)) :
    w.cell? ⟨B, 0, none⟩ = some v0 ∧ w.cell? ⟨B, 1, none⟩ = some v1 ∧ w.cell? ⟨B, 2, none⟩ = some v2 ∧ w.cell? ⟨B, 3, none⟩ = some v3 ∧ w.cell? ⟨B, 4, none⟩ = some v4 ∧ w.cell? ⟨B, 5, none⟩ = some v5 ∧ w.cell? ⟨B, 6, none⟩ = some v6 ∧ w.cell? ⟨B, 7, none⟩ = some v7 ∧ w.cell? ⟨B, 8, none⟩ = some v8 := by
  unfold sob at h
  simp [World.cell?, h]

theorem sob_free {w : World} {B : Nat} {v0 v1 v2 v3 v4 v5 v6 v7 v8 : Value} (h : w.heap[B]? = some (sob v0 v1 v2 v3 v4 v5 v6 v7 v8)) :
    w.frozen? ⟨B, 0, none⟩ = false ∧ w.frozen? ⟨B, 1, none⟩ = false ∧ w.frozen? ⟨B, 2, none⟩ = false ∧ w.frozen? ⟨B, 3, none⟩ = false ∧ w.frozen? ⟨B, 4, none⟩ = false ∧ w.frozen? ⟨B, 5, none⟩ = false ∧ w.frozen? ⟨B, 6, none⟩ = false ∧ w.frozen? ⟨B, 7, none⟩ = false ∧ w.frozen? ⟨B, 8, none⟩ = false := by
  unfold sob at h
  simp [World.frozen?, h]

set_option maxHeartbeats 2000000 in
theorem cshelf_any (x : ShT) (w : World) (hx : ShIn w x) :
    Calls Try.prog 24 #[x.v] w fun e w' => ∃ y, e = .returned y.v ∧ y.s = x.s ∧ ShO w.heap.size w' y ∧ Below w.heap.size w w' := by
  obtain ⟨⟨se, ra, fi, co, rf, ff, ft, cf, ct⟩, a0, c0, a1, c1, a2, c2, a3, c3⟩ := x
  obtain ⟨m0, e0⟩ : ∃ m, m = se.length := ⟨_, rfl⟩
  obtain ⟨m1, e1⟩ : ∃ m, m = ra.length := ⟨_, rfl⟩
  obtain ⟨m2, e2⟩ : ∃ m, m = fi.length := ⟨_, rfl⟩
  obtain ⟨m3, e3⟩ : ∃ m, m = co.length := ⟨_, rfl⟩
  obtain ⟨X, hX⟩ : ∃ X, X = w.heap.size := ⟨_, rfl⟩
  obtain ⟨V, hV⟩ : ∃ V, V = (w.alloc (.cells #[.slice a0 m0 c0, .slice a1 m1 c1, .slice a2 m2 c2, .slice a3 m3 c3, .int .i64 rf, .int .i64 ff, .int .i64 ft, .int .i64 cf, .int .i64 ct] 27)).alloc (.cells #[.slice none 0 0, .slice none 0 0, .slice none 0 0, .slice none 0 0, .int .i64 0, .int .i64 0, .int .i64 0, .int .i64 0, .int .i64 0] 27) := ⟨_, rfl⟩
  have bel : Below X w V := by rw [hV, hX]; exact ((Below.refl _ _).alloc (Nat.le_refl _) _).alloc (by simp) _
  have hVs : V.heap.size = X + 2 := by rw [hV, hX]; simp
  have B0 : V.heap[X]? = some (sob (.slice a0 m0 c0) (.slice a1 m1 c1) (.slice a2 m2 c2) (.slice a3 m3 c3) (.int .i64 rf) (.int .i64 ff) (.int .i64 ft) (.int .i64 cf) (.int .i64 ct)) := by
    rw [hV, hX, Below.heap_alloc _ _ _ (by simp)]; exact heap_alloc_new w _
  have R0 : V.heap[X + 1]? = some (sob (.slice none 0 0) (.slice none 0 0) (.slice none 0 0) (.slice none 0 0) (.int .i64 0) (.int .i64 0) (.int .i64 0) (.int .i64 0) (.int .i64 0)) := by
    have e : X + 1 = (w.alloc (.cells #[.slice a0 m0 c0, .slice a1 m1 c1, .slice a2 m2 c2, .slice a3 m3 c3, .int .i64 rf, .int .i64 ff, .int .i64 ft, .int .i64 cf, .int .i64 ct] 27)).heap.size := by rw [hX]; simp
    rw [hV, e]
    exact heap_alloc_new _ _
  obtain ⟨g0, g1, g2, g3, fits, n0, n1, n2, n3, z0, z1, z2, z3⟩ := hx
  simp only at g0 g1 g2 g3 fits n0 n1 n2 n3 z0 z1 z2 z3
  rw [← e0] at n0 z0
  rw [← e1] at n1 z1
  rw [← e2] at n2 z2
  rw [← e3] at n3 z3
  simp only [ShT.v, ← e0, ← e1, ← e2, ← e3]
  rw [← hX]
  have HX := hide hX
  have hsw : ∀ W : World, Below X w W → Below w.heap.size w W := fun W h => by rw [← HX.out]; exact h
  have g0' := g0.below (hsw _ bel)
  have HZ0 := hide z0
  have HZ1 := hide z1
  have HZ2 := hide z2
  have HZ3 := hide z3
  have HV := hide hV
  have H0 := hide e0
  have H1 := hide e1
  have H2 := hide e2
  have H3 := hide e3
  have HS := hide hsw
  clear hV hX e0 e1 e2 e3 z0 z1 z2 z3 hsw
  go_enter Try.func24, Try.ntmps24
  go_wp2_with fail
  rw [← HV.out, ← HX.out]
  refine (lcopy_any se a0 m0 c0 V g0' H0.out n0 HZ0.out).mono ?_
  rintro e w1 ⟨A0, N0, D0, rfl, own0, hb1⟩
  have hN0 : N0 = m0 := by have := own0.1; rw [lcells_length, ← H0.out] at this; omega
  subst hN0
  have B1 := below_block hb1 B0
  have R1 := below_block hb1 R0
  have bel1 : Below X w w1 := bel.trans (hb1.mono (by have := bel.size; have := HX.out; omega))
  obtain ⟨r0, r1, r2, r3, r4, r5, r6, r7, r8⟩ := sob_cells B1
  obtain ⟨f0, f1, f2, f3, f4, f5, f6, f7, f8⟩ := sob_free B1
  obtain ⟨W1, hW1⟩ : ∃ W, W = w1.setCell ⟨X, 0, none⟩ (.slice A0 N0 D0) := ⟨_, rfl⟩
  have B1' : W1.heap[X]? = some (sob (.slice A0 N0 D0) (.slice a1 m1 c1) (.slice a2 m2 c2) (.slice a3 m3 c3) (.int .i64 rf) (.int .i64 ff) (.int .i64 ft) (.int .i64 cf) (.int .i64 ct)) := by rw [hW1]; exact set_block B1 _
  have R1' : W1.heap[X + 1]? = some (sob (.slice none 0 0) (.slice none 0 0) (.slice none 0 0) (.slice none 0 0) (.int .i64 0) (.int .i64 0) (.int .i64 0) (.int .i64 0) (.int .i64 0)) := by rw [hW1, setCell_far (by omega)]; exact R1
  have bel1' : Below X w W1 := by rw [hW1]; exact bel1.setCell (Nat.le_refl _) _
  have hs1 : V.heap.size ≤ W1.heap.size := by rw [hW1]; have := hb1.size; simpa using this
  have own0' : W1.ownsRow V.heap.size 71 2 (.slice A0 N0 D0) N0 (lcells se) := by rw [hW1]; exact ownsRow_setCell_below own0 (by show X < V.heap.size; omega) _
  have HW1 := hide hW1
  clear hW1 own0 hb1 B0 R0 B1 R1 bel1 g0' HV
  go_upto_region 2 with fail
  rw [← HW1.out]
  clear r0 r1 r2 r3 r4 r5 r6 r7 r8 f0 f1 f2 f3 f4 f5 f6 f7 f8 HW1
  obtain ⟨r0, r1, r2, r3, r4, r5, r6, r7, r8⟩ := sob_cells B1'
  have g1' := g1.below (HS.out _ bel1')
  go_wp2_with fail
  refine (scopy_any ra a1 m1 c1 W1 g1' H1.out n1 HZ1.out).mono ?_
  rintro e w2 ⟨A1, N1, D1, rfl, own1, hb2⟩
  have hN1 : N1 = m1 := by have := own1.1; rw [scells_length, ← H1.out] at this; omega
  subst hN1
  have B2 := below_block hb2 B1'
  have R2 := below_block hb2 R1'
  have bel2 : Below X w w2 := bel1'.trans (hb2.mono (by have := bel1'.size; have := HX.out; omega))
  have own0b := own_below own0' hb2
  clear r0 r1 r2 r3 r4 r5 r6 r7 r8
  obtain ⟨r0, r1, r2, r3, r4, r5, r6, r7, r8⟩ := sob_cells B2
  obtain ⟨f0, f1, f2, f3, f4, f5, f6, f7, f8⟩ := sob_free B2
  obtain ⟨W2, hW2⟩ : ∃ W, W = w2.setCell ⟨X, 1, none⟩ (.slice A1 N1 D1) := ⟨_, rfl⟩
  have B2' : W2.heap[X]? = some (sob (.slice A0 N0 D0) (.slice A1 N1 D1) (.slice a2 m2 c2) (.slice a3 m3 c3) (.int .i64 rf) (.int .i64 ff) (.int .i64 ft) (.int .i64 cf) (.int .i64 ct)) := by rw [hW2]; exact set_block B2 _
  have R2' : W2.heap[X + 1]? = some (sob (.slice none 0 0) (.slice none 0 0) (.slice none 0 0) (.slice none 0 0) (.int .i64 0) (.int .i64 0) (.int .i64 0) (.int .i64 0) (.int .i64 0)) := by rw [hW2, setCell_far (by omega)]; exact R2
  have bel2' : Below X w W2 := by rw [hW2]; exact bel2.setCell (Nat.le_refl _) _
  have hs2 : W1.heap.size ≤ W2.heap.size := by rw [hW2]; have := hb2.size; simpa using this
  have own0c : W2.ownsRow V.heap.size 71 2 (.slice A0 N0 D0) N0 (lcells se) := by rw [hW2]; exact ownsRow_setCell_below own0b (by show X < V.heap.size; omega) _
  have own1c : W2.ownsRow W1.heap.size 29 2 (.slice A1 N1 D1) N1 (scells ra) := by rw [hW2]; exact ownsRow_setCell_below own1 (by show X < W1.heap.size; omega) _
  have HW2 := hide hW2
  clear hW2 own1 own0' own0b hb2 B1' R1' B2 R2 bel2 bel1' g1'
  go_upto_region 3 with fail
  rw [← HW2.out]
  clear r0 r1 r2 r3 r4 r5 r6 r7 r8 f0 f1 f2 f3 f4 f5 f6 f7 f8 HW2
  obtain ⟨r0, r1, r2, r3, r4, r5, r6, r7, r8⟩ := sob_cells B2'
  have g2' := g2.below (HS.out _ bel2')
  go_wp2_with fail
  refine (kcopy_any fi a2 m2 c2 W2 g2' H2.out n2 HZ2.out).mono ?_
  rintro e w3 ⟨A2, N2, D2, rfl, own2, hb3⟩
  have hN2 : N2 = m2 := by have := own_klen own2; rw [← H2.out] at this; exact this
  subst hN2
  have B3 := below_block hb3 B2'
  have R3 := below_block hb3 R2'
  have bel3 : Below X w w3 := bel2'.trans (hb3.mono (by have := bel2'.size; have := HX.out; omega))
  have own0d := own_below own0c hb3
  have own1d := own_below own1c hb3
  clear r0 r1 r2 r3 r4 r5 r6 r7 r8
  obtain ⟨r0, r1, r2, r3, r4, r5, r6, r7, r8⟩ := sob_cells B3
  obtain ⟨f0, f1, f2, f3, f4, f5, f6, f7, f8⟩ := sob_free B3
  obtain ⟨W3, hW3⟩ : ∃ W, W = w3.setCell ⟨X, 2, none⟩ (.slice A2 N2 D2) := ⟨_, rfl⟩
  have B3' : W3.heap[X]? = some (sob (.slice A0 N0 D0) (.slice A1 N1 D1) (.slice A2 N2 D2) (.slice a3 m3 c3) (.int .i64 rf) (.int .i64 ff) (.int .i64 ft) (.int .i64 cf) (.int .i64 ct)) := by rw [hW3]; exact set_block B3 _
  have R3' : W3.heap[X + 1]? = some (sob (.slice none 0 0) (.slice none 0 0) (.slice none 0 0) (.slice none 0 0) (.int .i64 0) (.int .i64 0) (.int .i64 0) (.int .i64 0) (.int .i64 0)) := by rw [hW3, setCell_far (by omega)]; exact R3
  have bel3' : Below X w W3 := by rw [hW3]; exact bel3.setCell (Nat.le_refl _) _
  have hs3 : W2.heap.size ≤ W3.heap.size := by rw [hW3]; have := hb3.size; simpa using this
  have own0e : W3.ownsRow V.heap.size 71 2 (.slice A0 N0 D0) N0 (lcells se) := by rw [hW3]; exact ownsRow_setCell_below own0d (by show X < V.heap.size; omega) _
  have own1e : W3.ownsRow W1.heap.size 29 2 (.slice A1 N1 D1) N1 (scells ra) := by rw [hW3]; exact ownsRow_setCell_below own1d (by show X < W1.heap.size; omega) _
  have own2e : W3.ownsRow W2.heap.size 67 8 (.slice A2 N2 D2) N2 (kcells fi) := by rw [hW3]; exact ownsRow_setCell_below own2 (by show X < W2.heap.size; omega) _
  have HW3 := hide hW3
  clear hW3 own2 own0c own1c own0d own1d hb3 B2' R2' B3 R3 bel3 bel2' g2'
  go_upto_region 4 with fail
  rw [← HW3.out]
  clear r0 r1 r2 r3 r4 r5 r6 r7 r8 f0 f1 f2 f3 f4 f5 f6 f7 f8 HW3
  obtain ⟨r0, r1, r2, r3, r4, r5, r6, r7, r8⟩ := sob_cells B3'
  have g3' := g3.below (HS.out _ bel3')
  go_wp2_with fail
  refine (kcopy_any co a3 m3 c3 W3 g3' H3.out n3 HZ3.out).mono ?_
  rintro e w4 ⟨A3, N3, D3, rfl, own3, hb4⟩
  have hN3 : N3 = m3 := by have := own_klen own3; rw [← H3.out] at this; exact this
  subst hN3
  have B4 := below_block hb4 B3'
  have R4 := below_block hb4 R3'
  have bel4 : Below X w w4 := bel3'.trans (hb4.mono (by have := bel3'.size; have := HX.out; omega))
  have own0f := own_below own0e hb4
  have own1f := own_below own1e hb4
  have own2f := own_below own2e hb4
  clear r0 r1 r2 r3 r4 r5 r6 r7 r8
  obtain ⟨r0, r1, r2, r3, r4, r5, r6, r7, r8⟩ := sob_cells B4
  obtain ⟨f0, f1, f2, f3, f4, f5, f6, f7, f8⟩ := sob_free B4
  obtain ⟨W4, hW4⟩ : ∃ W, W = w4.setCell ⟨X, 3, none⟩ (.slice A3 N3 D3) := ⟨_, rfl⟩
  have B4' : W4.heap[X]? = some (sob (.slice A0 N0 D0) (.slice A1 N1 D1) (.slice A2 N2 D2) (.slice A3 N3 D3) (.int .i64 rf) (.int .i64 ff) (.int .i64 ft) (.int .i64 cf) (.int .i64 ct)) := by rw [hW4]; exact set_block B4 _
  have R4' : W4.heap[X + 1]? = some (sob (.slice none 0 0) (.slice none 0 0) (.slice none 0 0) (.slice none 0 0) (.int .i64 0) (.int .i64 0) (.int .i64 0) (.int .i64 0) (.int .i64 0)) := by rw [hW4, setCell_far (by omega)]; exact R4
  have bel4' : Below X w W4 := by rw [hW4]; exact bel4.setCell (Nat.le_refl _) _
  have own0g : W4.ownsRow V.heap.size 71 2 (.slice A0 N0 D0) N0 (lcells se) := by rw [hW4]; exact ownsRow_setCell_below own0f (by show X < V.heap.size; omega) _
  have own1g : W4.ownsRow W1.heap.size 29 2 (.slice A1 N1 D1) N1 (scells ra) := by rw [hW4]; exact ownsRow_setCell_below own1f (by show X < W1.heap.size; omega) _
  have own2g : W4.ownsRow W2.heap.size 67 8 (.slice A2 N2 D2) N2 (kcells fi) := by rw [hW4]; exact ownsRow_setCell_below own2f (by show X < W2.heap.size; omega) _
  have own3g : W4.ownsRow W3.heap.size 67 8 (.slice A3 N3 D3) N3 (kcells co) := by rw [hW4]; exact ownsRow_setCell_below own3 (by show X < W3.heap.size; omega) _
  have ne : ∀ g, (Value.slice A2 N2 D2).ownBlock = some g → (Value.slice A3 N3 D3).ownBlock ≠ some g := by
    intro g h h'
    have i1 := own2e.lt g h
    have i2 := own3.lt g h'
    omega
  have HW4 := hide hW4
  have NE := hide ne
  clear hW4 own3 own0e own1e own2e own0f own1f own2f hb4 B3' R3' B4 R4 bel4 bel3' g3' ne
  go_upto_region 5 with fail
  rw [← HW4.out]
  clear r0 r1 r2 r3 r4 r5 r6 r7 r8 f0 f1 f2 f3 f4 f5 f6 f7 f8 HW4
  obtain ⟨r0, r1, r2, r3, r4, r5, r6, r7, r8⟩ := sob_cells B4'
  obtain ⟨q0, q1, q2, q3, q4, q5, q6, q7, q8⟩ := sob_cells R4'
  obtain ⟨f0, f1, f2, f3, f4, f5, f6, f7, f8⟩ := sob_free R4'
  go_wp2
  refine bodyPost_ret (v := .agg #[.slice A0 N0 D0, .slice A1 N1 D1, .slice A2 N2 D2, .slice A3 N3 D3, .int .i64 rf, .int .i64 ff, .int .i64 ft, .int .i64 cf, .int .i64 ct]) (by simp [results, Try.results24, go_sem, q0, q1, q2, q3, q4, q5, q6, q7, q8]) rfl ?_
  refine ⟨⟨⟨se, ra, fi, co, rf, ff, ft, cf, ct⟩, A0, D0, A1, D1, A2, D2, A3, D3⟩, ?_, rfl, ⟨?_, ?_, ?_, ?_, ?_, fits, ?_, ?_, ?_, ?_⟩, below_set9 bel4' (Nat.le_succ X) _ _ _ _ _ _ _ _ _⟩
  · simp only [← H0.out, ← H1.out, ← H2.out, ← H3.out]
  · simp only [← H0.out]; exact own_down (own_set9 own0g (by omega) _ _ _ _ _ _ _ _ _) (by omega)
  · simp only [← H1.out]; exact own_down (own_set9 own1g (by omega) _ _ _ _ _ _ _ _ _) (by omega)
  · simp only [← H2.out]; exact own_down (own_set9 own2g (by omega) _ _ _ _ _ _ _ _ _) (by omega)
  · simp only [← H3.out]; exact own_down (own_set9 own3g (by omega) _ _ _ _ _ _ _ _ _) (by omega)
  · simp only [← H2.out, ← H3.out]; exact NE.out
  · simp only [← H0.out]; exact n0
  · simp only [← H1.out]; exact n1
  · simp only [← H2.out]; exact n2
  · simp only [← H3.out]; exact n3

end Go.Proofs.Ytcgcefnfelmmkaa
