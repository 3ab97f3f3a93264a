import Derived.Test.YtoldmigappbjcaaGreatDoorL20
namespace Go.GrainU
open Go.RowKit
theorem set_block {w : World} {B i : Nat} {cs : Array Value} {t : TypeId} (h : w.heap[B]? = some (.cells cs t (0, 0))) (u : Value) : (w.setCell ⟨B, i, none⟩ u).heap[B]? = some (.cells (cs.setIfInBounds i u) t (0, 0)) := by
 simp [World.setCell, Array.getElem?_modify, h]
def Set9 (w : World) (B : Nat) (v0 v1 v2 v3 v4 v5 v6 v7 v8 : Value) : World :=
 ((((((((w.setCell ⟨B, 0, none⟩ v0).setCell ⟨B, 1, none⟩ v1).setCell ⟨B, 2, none⟩ v2).setCell ⟨B, 3, none⟩ v3).setCell ⟨B, 4, none⟩ v4).setCell ⟨B, 5, none⟩ v5).setCell ⟨B, 6, none⟩ v6).setCell ⟨B, 7, none⟩ v7).setCell ⟨B, 8, none⟩ v8
theorem own_set9 {w : World} {base : Nat} {e : TypeId} {size : Nat} {v : Value} {n : Nat} {xs : List Value} (h : w.ownsRow base e size v n xs) {B : Nat} (ha : B < base) (v0 v1 v2 v3 v4 v5 v6 v7 v8 : Value) : (Set9 w B v0 v1 v2 v3 v4 v5 v6 v7 v8).ownsRow base e size v n xs :=
 ownsRow_setCell_below (ownsRow_setCell_below (ownsRow_setCell_below (ownsRow_setCell_below (ownsRow_setCell_below (ownsRow_setCell_below (ownsRow_setCell_below (ownsRow_setCell_below (ownsRow_setCell_below h ha _) ha _) ha _) ha _) ha _) ha _) ha _) ha _) ha _
theorem below_set9 {w w' : World} {base B : Nat} (h : Below base w w') (hb : base ≤ B) (v0 v1 v2 v3 v4 v5 v6 v7 v8 : Value) : Below base w (Set9 w' B v0 v1 v2 v3 v4 v5 v6 v7 v8) :=
 ((((((((h.setCell hb _).setCell hb _).setCell hb _).setCell hb _).setCell hb _).setCell hb _).setCell hb _).setCell hb _).setCell hb _
end Go.GrainU
namespace Go.Proofs.YtoldmigappbjcaaGreatDoor
open Go.RowKit Go.GrainU
def sob (v0 v1 v2 v3 v4 v5 v6 v7 v8 : Value) : Obj := .cells #[v0, v1, v2, v3, v4, v5, v6, v7, v8] 59
theorem sob_cells {w : World} {B : Nat} {v0 v1 v2 v3 v4 v5 v6 v7 v8 : Value} (h : w.heap[B]? = some (sob v0 v1 v2 v3 v4 v5 v6 v7 v8)) :
  w.cell? ⟨B, 0, none⟩ = some v0 ∧ w.cell? ⟨B, 1, none⟩ = some v1 ∧ w.cell? ⟨B, 2, none⟩ = some v2 ∧ w.cell? ⟨B, 3, none⟩ = some v3 ∧ w.cell? ⟨B, 4, none⟩ = some v4 ∧ w.cell? ⟨B, 5, none⟩ = some v5 ∧ w.cell? ⟨B, 6, none⟩ = some v6 ∧ w.cell? ⟨B, 7, none⟩ = some v7 ∧ w.cell? ⟨B, 8, none⟩ = some v8 := by
 unfold sob at h
 simp [World.cell?, h]
theorem sob_free {w : World} {B : Nat} {v0 v1 v2 v3 v4 v5 v6 v7 v8 : Value} (h : w.heap[B]? = some (sob v0 v1 v2 v3 v4 v5 v6 v7 v8)) :
  w.frozen? ⟨B, 0, none⟩ = false ∧ w.frozen? ⟨B, 1, none⟩ = false ∧ w.frozen? ⟨B, 2, none⟩ = false ∧ w.frozen? ⟨B, 3, none⟩ = false ∧ w.frozen? ⟨B, 4, none⟩ = false ∧ w.frozen? ⟨B, 5, none⟩ = false ∧ w.frozen? ⟨B, 6, none⟩ = false ∧ w.frozen? ⟨B, 7, none⟩ = false ∧ w.frozen? ⟨B, 8, none⟩ = false := by
 unfold sob at h
 simp [World.frozen?, h]
set_option maxHeartbeats 2000000 in
theorem cshelf_any (x : ShT) (w : World) (hx : ShIn w x) :
  Calls Tryz.prog 131 #[x.v] w fun e w' => ∃ y, e = .returned y.v ∧ y.s = x.s ∧ ShO w.heap.size w' y ∧ Below w.heap.size w w' := by
 obtain ⟨⟨se, ra, fi, co, rf, ff, ft, cf, ct⟩, a0, c0, a1, c1, a2, c2, a3, c3⟩ := x
 obtain ⟨m0, e0⟩ : ∃ m, m = se.length := ⟨_, rfl⟩
 obtain ⟨m1, e1⟩ : ∃ m, m = ra.length := ⟨_, rfl⟩
 obtain ⟨m2, e2⟩ : ∃ m, m = fi.length := ⟨_, rfl⟩
 obtain ⟨m3, e3⟩ : ∃ m, m = co.length := ⟨_, rfl⟩
 obtain ⟨X, hX⟩ : ∃ X, X = w.heap.size := ⟨_, rfl⟩
 obtain ⟨V, hV⟩ : ∃ V, V = (w.alloc (.cells #[.slice a0 m0 c0, .slice a1 m1 c1, .slice a2 m2 c2, .slice a3 m3 c3, .int .i64 rf, .int .i64 ff, .int .i64 ft, .int .i64 cf, .int .i64 ct] 59)).alloc (.cells #[.slice none 0 0, .slice none 0 0, .slice none 0 0, .slice none 0 0, .int .i64 0, .int .i64 0, .int .i64 0, .int .i64 0, .int .i64 0] 59) := ⟨_, rfl⟩
 have bel : Below X w V := by rw [hV, hX]; exact ((Below.refl _ _).alloc (Nat.le_refl _) _).alloc (by simp) _
 have hVs : V.heap.size = X + 2 := by rw [hV, hX]; simp
 have B0 : V.heap[X]? = some (sob (.slice a0 m0 c0) (.slice a1 m1 c1) (.slice a2 m2 c2) (.slice a3 m3 c3) (.int .i64 rf) (.int .i64 ff) (.int .i64 ft) (.int .i64 cf) (.int .i64 ct)) := by
  rw [hV, hX, Below.heap_alloc _ _ _ (by simp)]; exact heap_alloc_new w _
 have R0 : V.heap[X + 1]? = some (sob (.slice none 0 0) (.slice none 0 0) (.slice none 0 0) (.slice none 0 0) (.int .i64 0) (.int .i64 0) (.int .i64 0) (.int .i64 0) (.int .i64 0)) := by
  have e : X + 1 = (w.alloc (.cells #[.slice a0 m0 c0, .slice a1 m1 c1, .slice a2 m2 c2, .slice a3 m3 c3, .int .i64 rf, .int .i64 ff, .int .i64 ft, .int .i64 cf, .int .i64 ct] 59)).heap.size := by rw [hX]; simp
  rw [hV, e]
  exact heap_alloc_new _ _
 obtain ⟨g0, g1, g2, g3, fits, n0, n1, n2, n3, z0, z1, z2, z3⟩ := hx
 simp only at g0 g1 g2 g3 fits n0 n1 n2 n3 z0 z1 z2 z3
 rw [← e0] at n0 z0
 rw [← e1] at n1 z1
 rw [← e2] at n2 z2
 rw [← e3] at n3 z3
 simp only [ShT.v, ← e0, ← e1, ← e2, ← e3]
 rw [← hX]
 have HX := hide hX
 have hsw : ∀ W : World, Below X w W → Below w.heap.size w W := fun W h => by rw [← HX.out]; exact h
 have g0' := g0.below (hsw _ bel)
 have HZ0 := hide z0
 have HZ1 := hide z1
 have HZ2 := hide z2
 have HZ3 := hide z3
 have HV := hide hV
 have H0 := hide e0
 have H1 := hide e1
 have H2 := hide e2
 have H3 := hide e3
 have HS := hide hsw
 clear hV hX e0 e1 e2 e3 z0 z1 z2 z3 hsw
 go_enter Tryz.func131, Tryz.ntmps131
 go_wp2_with fail
 rw [← HV.out, ← HX.out]
 refine (lcopy_any se a0 m0 c0 V g0' H0.out n0 HZ0.out).mono ?_
 rintro e w1 ⟨A0, N0, D0, rfl, own0, hb1⟩
 have hN0 : N0 = m0 := by have := own0.1; rw [lcells_length, ← H0.out] at this; omega
 subst hN0
 have B1 := below_block hb1 B0
 have R1 := below_block hb1 R0
 have bel1 : Below X w w1 := bel.trans (hb1.mono (by have := bel.size; have := HX.out; omega))
 obtain ⟨r0, r1, r2, r3, r4, r5, r6, r7, r8⟩ := sob_cells B1
 obtain ⟨f0, f1, f2, f3, f4, f5, f6, f7, f8⟩ := sob_free B1
 obtain ⟨W1, hW1⟩ : ∃ W, W = w1.setCell ⟨X, 0, none⟩ (.slice A0 N0 D0) := ⟨_, rfl⟩
 have B1' : W1.heap[X]? = some (sob (.slice A0 N0 D0) (.slice a1 m1 c1) (.slice a2 m2 c2) (.slice a3 m3 c3) (.int .i64 rf) (.int .i64 ff) (.int .i64 ft) (.int .i64 cf) (.int .i64 ct)) := by rw [hW1]; exact set_block B1 _
 have R1' : W1.heap[X + 1]? = some (sob (.slice none 0 0) (.slice none 0 0) (.slice none 0 0) (.slice none 0 0) (.int .i64 0) (.int .i64 0) (.int .i64 0) (.int .i64 0) (.int .i64 0)) := by rw [hW1, setCell_far (by omega)]; exact R1
 have bel1' : Below X w W1 := by rw [hW1]; exact bel1.setCell (Nat.le_refl _) _
 have hs1 : V.heap.size ≤ W1.heap.size := by rw [hW1]; have := hb1.size; simpa using this
 have own0' : W1.ownsRow V.heap.size 88 2 (.slice A0 N0 D0) N0 (lcells se) := by rw [hW1]; exact ownsRow_setCell_below own0 (by show X < V.heap.size; omega) _
 have HW1 := hide hW1
 clear hW1 own0 hb1 B0 R0 B1 R1 bel1 g0' HV
 go_upto_region 2 with fail
 rw [← HW1.out]
 clear r0 r1 r2 r3 r4 r5 r6 r7 r8 f0 f1 f2 f3 f4 f5 f6 f7 f8 HW1
 obtain ⟨r0, r1, r2, r3, r4, r5, r6, r7, r8⟩ := sob_cells B1'
 have g1' := g1.below (HS.out _ bel1')
 go_wp2_with fail
 refine (scopy_any ra a1 m1 c1 W1 g1' H1.out n1 HZ1.out).mono ?_
 rintro e w2 ⟨A1, N1, D1, rfl, own1, hb2⟩
 have hN1 : N1 = m1 := by have := own1.1; rw [scells_length, ← H1.out] at this; omega
 subst hN1
 have B2 := below_block hb2 B1'
 have R2 := below_block hb2 R1'
 have bel2 : Below X w w2 := bel1'.trans (hb2.mono (by have := bel1'.size; have := HX.out; omega))
 have own0b := own_below own0' hb2
 clear r0 r1 r2 r3 r4 r5 r6 r7 r8
 obtain ⟨r0, r1, r2, r3, r4, r5, r6, r7, r8⟩ := sob_cells B2
 obtain ⟨f0, f1, f2, f3, f4, f5, f6, f7, f8⟩ := sob_free B2
 obtain ⟨W2, hW2⟩ : ∃ W, W = w2.setCell ⟨X, 1, none⟩ (.slice A1 N1 D1) := ⟨_, rfl⟩
 have B2' : W2.heap[X]? = some (sob (.slice A0 N0 D0) (.slice A1 N1 D1) (.slice a2 m2 c2) (.slice a3 m3 c3) (.int .i64 rf) (.int .i64 ff) (.int .i64 ft) (.int .i64 cf) (.int .i64 ct)) := by rw [hW2]; exact set_block B2 _
 have R2' : W2.heap[X + 1]? = some (sob (.slice none 0 0) (.slice none 0 0) (.slice none 0 0) (.slice none 0 0) (.int .i64 0) (.int .i64 0) (.int .i64 0) (.int .i64 0) (.int .i64 0)) := by rw [hW2, setCell_far (by omega)]; exact R2
 have bel2' : Below X w W2 := by rw [hW2]; exact bel2.setCell (Nat.le_refl _) _
 have hs2 : W1.heap.size ≤ W2.heap.size := by rw [hW2]; have := hb2.size; simpa using this
 have own0c : W2.ownsRow V.heap.size 88 2 (.slice A0 N0 D0) N0 (lcells se) := by rw [hW2]; exact ownsRow_setCell_below own0b (by show X < V.heap.size; omega) _
 have own1c : W2.ownsRow W1.heap.size 34 2 (.slice A1 N1 D1) N1 (scells ra) := by rw [hW2]; exact ownsRow_setCell_below own1 (by show X < W1.heap.size; omega) _
 have HW2 := hide hW2
 clear hW2 own1 own0' own0b hb2 B1' R1' B2 R2 bel2 bel1' g1'
 go_upto_region 3 with fail
 rw [← HW2.out]
 clear r0 r1 r2 r3 r4 r5 r6 r7 r8 f0 f1 f2 f3 f4 f5 f6 f7 f8 HW2
 obtain ⟨r0, r1, r2, r3, r4, r5, r6, r7, r8⟩ := sob_cells B2'
 have g2' := g2.below (HS.out _ bel2')
 go_wp2_with fail
 refine (kcopy_any fi a2 m2 c2 W2 g2' H2.out n2 HZ2.out).mono ?_
 rintro e w3 ⟨A2, N2, D2, rfl, own2, hb3⟩
 have hN2 : N2 = m2 := by have := own_klen own2; rw [← H2.out] at this; exact this
 subst hN2
 have B3 := below_block hb3 B2'
 have R3 := below_block hb3 R2'
 have bel3 : Below X w w3 := bel2'.trans (hb3.mono (by have := bel2'.size; have := HX.out; omega))
 have own0d := own_below own0c hb3
 have own1d := own_below own1c hb3
 clear r0 r1 r2 r3 r4 r5 r6 r7 r8
 obtain ⟨r0, r1, r2, r3, r4, r5, r6, r7, r8⟩ := sob_cells B3
 obtain ⟨f0, f1, f2, f3, f4, f5, f6, f7, f8⟩ := sob_free B3
 obtain ⟨W3, hW3⟩ : ∃ W, W = w3.setCell ⟨X, 2, none⟩ (.slice A2 N2 D2) := ⟨_, rfl⟩
 have B3' : W3.heap[X]? = some (sob (.slice A0 N0 D0) (.slice A1 N1 D1) (.slice A2 N2 D2) (.slice a3 m3 c3) (.int .i64 rf) (.int .i64 ff) (.int .i64 ft) (.int .i64 cf) (.int .i64 ct)) := by rw [hW3]; exact set_block B3 _
 have R3' : W3.heap[X + 1]? = some (sob (.slice none 0 0) (.slice none 0 0) (.slice none 0 0) (.slice none 0 0) (.int .i64 0) (.int .i64 0) (.int .i64 0) (.int .i64 0) (.int .i64 0)) := by rw [hW3, setCell_far (by omega)]; exact R3
 have bel3' : Below X w W3 := by rw [hW3]; exact bel3.setCell (Nat.le_refl _) _
 have hs3 : W2.heap.size ≤ W3.heap.size := by rw [hW3]; have := hb3.size; simpa using this
 have own0e : W3.ownsRow V.heap.size 88 2 (.slice A0 N0 D0) N0 (lcells se) := by rw [hW3]; exact ownsRow_setCell_below own0d (by show X < V.heap.size; omega) _
 have own1e : W3.ownsRow W1.heap.size 34 2 (.slice A1 N1 D1) N1 (scells ra) := by rw [hW3]; exact ownsRow_setCell_below own1d (by show X < W1.heap.size; omega) _
 have own2e : W3.ownsRow W2.heap.size 145 8 (.slice A2 N2 D2) N2 (kcells fi) := by rw [hW3]; exact ownsRow_setCell_below own2 (by show X < W2.heap.size; omega) _
 have HW3 := hide hW3
 clear hW3 own2 own0c own1c own0d own1d hb3 B2' R2' B3 R3 bel3 bel2' g2'
 go_upto_region 4 with fail
 rw [← HW3.out]
 clear r0 r1 r2 r3 r4 r5 r6 r7 r8 f0 f1 f2 f3 f4 f5 f6 f7 f8 HW3
 obtain ⟨r0, r1, r2, r3, r4, r5, r6, r7, r8⟩ := sob_cells B3'
 have g3' := g3.below (HS.out _ bel3')
 go_wp2_with fail
 refine (kcopy_any co a3 m3 c3 W3 g3' H3.out n3 HZ3.out).mono ?_
 rintro e w4 ⟨A3, N3, D3, rfl, own3, hb4⟩
 have hN3 : N3 = m3 := by have := own_klen own3; rw [← H3.out] at this; exact this
 subst hN3
 have B4 := below_block hb4 B3'
 have R4 := below_block hb4 R3'
 have bel4 : Below X w w4 := bel3'.trans (hb4.mono (by have := bel3'.size; have := HX.out; omega))
 have own0f := own_below own0e hb4
 have own1f := own_below own1e hb4
 have own2f := own_below own2e hb4
 clear r0 r1 r2 r3 r4 r5 r6 r7 r8
 obtain ⟨r0, r1, r2, r3, r4, r5, r6, r7, r8⟩ := sob_cells B4
 obtain ⟨f0, f1, f2, f3, f4, f5, f6, f7, f8⟩ := sob_free B4
 obtain ⟨W4, hW4⟩ : ∃ W, W = w4.setCell ⟨X, 3, none⟩ (.slice A3 N3 D3) := ⟨_, rfl⟩
 have B4' : W4.heap[X]? = some (sob (.slice A0 N0 D0) (.slice A1 N1 D1) (.slice A2 N2 D2) (.slice A3 N3 D3) (.int .i64 rf) (.int .i64 ff) (.int .i64 ft) (.int .i64 cf) (.int .i64 ct)) := by rw [hW4]; exact set_block B4 _
 have R4' : W4.heap[X + 1]? = some (sob (.slice none 0 0) (.slice none 0 0) (.slice none 0 0) (.slice none 0 0) (.int .i64 0) (.int .i64 0) (.int .i64 0) (.int .i64 0) (.int .i64 0)) := by rw [hW4, setCell_far (by omega)]; exact R4
 have bel4' : Below X w W4 := by rw [hW4]; exact bel4.setCell (Nat.le_refl _) _
 have own0g : W4.ownsRow V.heap.size 88 2 (.slice A0 N0 D0) N0 (lcells se) := by rw [hW4]; exact ownsRow_setCell_below own0f (by show X < V.heap.size; omega) _
 have own1g : W4.ownsRow W1.heap.size 34 2 (.slice A1 N1 D1) N1 (scells ra) := by rw [hW4]; exact ownsRow_setCell_below own1f (by show X < W1.heap.size; omega) _
 have own2g : W4.ownsRow W2.heap.size 145 8 (.slice A2 N2 D2) N2 (kcells fi) := by rw [hW4]; exact ownsRow_setCell_below own2f (by show X < W2.heap.size; omega) _
 have own3g : W4.ownsRow W3.heap.size 145 8 (.slice A3 N3 D3) N3 (kcells co) := by rw [hW4]; exact ownsRow_setCell_below own3 (by show X < W3.heap.size; omega) _
 have ne : ∀ g, (Value.slice A2 N2 D2).ownBlock = some g → (Value.slice A3 N3 D3).ownBlock ≠ some g := by
  intro g h h'
  have i1 := own2e.lt g h
  have i2 := own3.lt g h'
  omega
 have HW4 := hide hW4
 have NE := hide ne
 clear hW4 own3 own0e own1e own2e own0f own1f own2f hb4 B3' R3' B4 R4 bel4 bel3' g3' ne
 go_upto_region 5 with fail
 rw [← HW4.out]
 clear r0 r1 r2 r3 r4 r5 r6 r7 r8 f0 f1 f2 f3 f4 f5 f6 f7 f8 HW4
 obtain ⟨r0, r1, r2, r3, r4, r5, r6, r7, r8⟩ := sob_cells B4'
 obtain ⟨q0, q1, q2, q3, q4, q5, q6, q7, q8⟩ := sob_cells R4'
 obtain ⟨f0, f1, f2, f3, f4, f5, f6, f7, f8⟩ := sob_free R4'
 go_wp2
 refine bodyPost_ret (v := .agg #[.slice A0 N0 D0, .slice A1 N1 D1, .slice A2 N2 D2, .slice A3 N3 D3, .int .i64 rf, .int .i64 ff, .int .i64 ft, .int .i64 cf, .int .i64 ct]) (by simp [results, Tryz.results131, go_sem, q0, q1, q2, q3, q4, q5, q6, q7, q8]) rfl ?_
 refine ⟨⟨⟨se, ra, fi, co, rf, ff, ft, cf, ct⟩, A0, D0, A1, D1, A2, D2, A3, D3⟩, ?_, rfl, ⟨?_, ?_, ?_, ?_, ?_, fits, ?_, ?_, ?_, ?_⟩, below_set9 bel4' (Nat.le_succ X) _ _ _ _ _ _ _ _ _⟩
 ·simp only [← H0.out, ← H1.out, ← H2.out, ← H3.out]
 ·simp only [← H0.out]; exact own_down (own_set9 own0g (by omega) _ _ _ _ _ _ _ _ _) (by omega)
 ·simp only [← H1.out]; exact own_down (own_set9 own1g (by omega) _ _ _ _ _ _ _ _ _) (by omega)
 ·simp only [← H2.out]; exact own_down (own_set9 own2g (by omega) _ _ _ _ _ _ _ _ _) (by omega)
 ·simp only [← H3.out]; exact own_down (own_set9 own3g (by omega) _ _ _ _ _ _ _ _ _) (by omega)
 ·simp only [← H2.out, ← H3.out]; exact NE.out
 ·simp only [← H0.out]; exact n0
 ·simp only [← H1.out]; exact n1
 ·simp only [← H2.out]; exact n2
 ·simp only [← H3.out]; exact n3
end Go.Proofs.YtoldmigappbjcaaGreatDoor
namespace Grain
theorem wrong_one (t v : Int) : wrong [(t, v)] = if inR t v = true then (0, 0) else (3, 0) := by
 unfold wrong
 rw [if_neg (by simp)]
 by_cases h : inR t v = true
 ·rw [if_pos h]
  have hb : bad [(t, v)] 0 = 0 := by
   unfold bad
   simp only [tm, vl, List.getD_cons_zero]
   rw [if_neg (by rw [h]; decide), if_neg (by simp)]
  show wrongF [(t, v)] (0 + 1) 0 = _
  rw [wrongF_ok hb]
  rfl
 ·rw [if_neg h]
  have hb : bad [(t, v)] 0 = 3 := by
   unfold bad
   simp only [tm, vl, List.getD_cons_zero]
   have : inR t v = false := by simpa using h
   rw [if_pos (by rw [this])]
  show wrongF [(t, v)] (0 + 1) 0 = _
  rw [wrongF_no (by rw [hb]; decide), hb]
  rfl
end Grain
namespace Go.GrainU
open Go.RowKit
theorem own_far {w : World} {base e size n : Nat} {v : Value} {xs : List Value} (h : w.ownsRow base e size v n xs) {k : Nat} {c : Array Value} {t : TypeId} {fr : Nat × Nat} (hk : w.heap[k]? = some (.cells c t fr)) (ht : t ≠ e) : v.ownBlock ≠ some k := by
 intro hv
 rcases h.2 with ⟨h2, _⟩ | ⟨g, cap, cur, h2, _, hg, _⟩
 ·rw [h2] at hv; simp [Value.ownBlock] at hv
 ·rw [h2] at hv
  simp [Value.ownBlock] at hv
  subst hv
  rw [hk] at hg
  simp at hg
  exact ht hg.2.1
theorem own_keep {w w' : World} {base e size n : Nat} {v : Value} {xs : List Value} {r : Option Nat} (h : w.ownsRow base e size v n xs) (hg : w.grownBy w' r) (hne : ∀ k, v.ownBlock = some k → r ≠ some k) : w'.ownsRow base e size v n xs := by
 obtain ⟨h1, h2⟩ := h
 refine ⟨h1, ?_⟩
 rcases h2 with h2 | ⟨g, cap, cur, hv, hb, hh, rest⟩
 ·exact Or.inl h2
 ·have hl : g < w.heap.size := by
   rcases Nat.lt_or_ge g w.heap.size with h | h
   ·exact h
   ·rw [Array.getElem?_eq_none h] at hh; cases hh
  refine Or.inr ⟨g, cap, cur, hv, hb, ?_, rest⟩
  rw [hg.block g hl (fun e => hne g (by rw [hv]; rfl) e.symm)]; exact hh
theorem own_types {w : World} {base base' e e' size size' n n' : Nat} {v v' : Value} {xs xs' : List Value} (h : w.ownsRow base e size v n xs) (h' : w.ownsRow base' e' size' v' n' xs') (ht : e ≠ e') : ∀ k, v.ownBlock = some k → v'.ownBlock ≠ some k := by
 intro k hk
 rcases h.2 with ⟨h2, _⟩ | ⟨g, cap, cur, h2, _, hg, _⟩
 ·rw [h2] at hk; simp [Value.ownBlock] at hk
 ·rw [h2] at hk
  simp [Value.ownBlock] at hk
  subst hk
  exact own_far h' hg ht
end Go.GrainU
namespace Go.Proofs.YtoldmigappbjcaaGreatDoor
open Go.RowKit Go.GrainU
def szT : ShT := ⟨Grain.szero, none, 0, none, 0, none, 0, none, 0⟩
theorem szT_own (b : Nat) (w : World) : ShO b w szT := by
 refine ⟨World.ownsRow_nil _ _ _ _, World.ownsRow_nil _ _ _ _, World.ownsRow_nil _ _ _ _, World.ownsRow_nil _ _ _ _, fun g h => ?_, ?_, ?_, ?_, ?_, ?_⟩
 ·simp [szT, Value.ownBlock] at h
 ·intro k hk; simp [szT, Grain.szero] at hk
 all_goals simp [szT, Grain.szero]
def ShPost (w : World) (r : Grain.Shf × Int) (e : Ending) (w' : World) : Prop :=
 ∃ y : ShT, e = .returned (.tuple #[y.v, .int .i64 r.2]) ∧ y.s = r.1 ∧ ShO w.heap.size w' y ∧ Below w.heap.size w w'
theorem shpost_no {w w' : World} {E : Int} {r : Grain.Shf × Int} (h : r = (Grain.szero, E)) (hb : Below w.heap.size w w') :
  ShPost w r (.returned (.tuple #[.agg #[.slice none 0 0, .slice none 0 0, .slice none 0 0, .slice none 0 0, .int .i64 0, .int .i64 0, .int .i64 0, .int .i64 0, .int .i64 0], .int .i64 E])) w' := by
 subst h
 exact ⟨szT, rfl, rfl, szT_own _ _, hb⟩
set_option maxHeartbeats 4000000 in
theorem sapp_any (x : ShT) (t v : Int) (w : World) (hx : ShIn w x) :
  Calls Tryz.prog 127 #[x.v, .agg #[.int .i64 t, .int .i64 v]] w (ShPost w (Grain.sapp x.s t v)) := by
 have HP : Hid (Grain.sapp x.s t v = if Grain.swrong x.s ≠ 0 then (Grain.szero, Grain.swrong x.s) else if Grain.inR t v = false then (Grain.szero, 3) else if Grain.late x.s t = true then (Grain.szero, 9) else if 500 ≤ x.s.ra.length then (Grain.szero, 5) else ({ x.s with ra := x.s.ra ++ [(t, v)] }, 0)) := rfl
 obtain ⟨r, hr⟩ : ∃ r, r = Grain.sapp x.s t v := ⟨_, rfl⟩
 rw [← hr] at HP ⊢
 clear hr
 obtain ⟨y, hy⟩ : ∃ y, y = x := ⟨_, rfl⟩
 obtain ⟨⟨se, ra, fi, co, rf, ff, ft, cf, ct⟩, a0, c0, a1, c1, a2, c2, a3, c3⟩ := x
 obtain ⟨m0, e0⟩ : ∃ m, m = se.length := ⟨_, rfl⟩
 obtain ⟨m1, e1⟩ : ∃ m, m = ra.length := ⟨_, rfl⟩
 obtain ⟨m2, e2⟩ : ∃ m, m = fi.length := ⟨_, rfl⟩
 obtain ⟨m3, e3⟩ : ∃ m, m = co.length := ⟨_, rfl⟩
 have Hv : Hid (y.v = .agg #[.slice a0 m0 c0, .slice a1 m1 c1, .slice a2 m2 c2, .slice a3 m3 c3, .int .i64 rf, .int .i64 ff, .int .i64 ft, .int .i64 cf, .int .i64 ct]) := by
  show _ = _
  rw [hy, e0, e1, e2, e3]; rfl
 have Hra : Hid (m1 = y.s.ra.length) := by show _ = _; rw [hy, e1]
 rw [← hy] at HP hx
 rw [← hy, Hv.out]
 rw [← Hra.out] at HP
 clear e0 e1 e2 e3 hy
 obtain ⟨X, hX⟩ : ∃ X, X = w.heap.size := ⟨_, rfl⟩
 obtain ⟨U, hU⟩ : ∃ U, U = (w.alloc (.cells #[.slice a0 m0 c0, .slice a1 m1 c1, .slice a2 m2 c2, .slice a3 m3 c3, .int .i64 rf, .int .i64 ff, .int .i64 ft, .int .i64 cf, .int .i64 ct] 59)).alloc (.cells #[.int .i64 t, .int .i64 v] 34) := ⟨_, rfl⟩
 obtain ⟨V, hV⟩ : ∃ V, V = U.alloc (.cells #[.slice none 0 0, .slice none 0 0, .slice none 0 0, .slice none 0 0, .int .i64 0, .int .i64 0, .int .i64 0, .int .i64 0, .int .i64 0] 59) := ⟨_, rfl⟩
 have hUs : U.heap.size = X + 2 := by rw [hU, hX]; simp
 have hVs : V.heap.size = X + 3 := by rw [hV]; simp [hUs]
 have bel : Below w.heap.size w V := by rw [hV, hU]; exact (((Below.refl _ _).alloc (Nat.le_refl _) _).alloc (by simp) _).alloc (by simp; omega) _
 have B0 : V.heap[X]? = some (sob (.slice a0 m0 c0) (.slice a1 m1 c1) (.slice a2 m2 c2) (.slice a3 m3 c3) (.int .i64 rf) (.int .i64 ff) (.int .i64 ft) (.int .i64 cf) (.int .i64 ct)) := by
  rw [hV, Below.heap_alloc _ _ _ (by omega), hU, Below.heap_alloc _ _ _ (by rw [hX]; simp), hX]; exact heap_alloc_new w _
 have S0 : V.heap[X + 1]? = some (.cells #[.int .i64 t, .int .i64 v] 34 (0, 0)) := by
  have e : X + 1 = (w.alloc (.cells #[.slice a0 m0 c0, .slice a1 m1 c1, .slice a2 m2 c2, .slice a3 m3 c3, .int .i64 rf, .int .i64 ff, .int .i64 ft, .int .i64 cf, .int .i64 ct] 59)).heap.size := by rw [hX]; simp
  rw [hV, Below.heap_alloc _ _ _ (by omega), hU, e]; exact heap_alloc_new _ _
 have R0 : V.heap[X + 2]? = some (sob (.slice none 0 0) (.slice none 0 0) (.slice none 0 0) (.slice none 0 0) (.int .i64 0) (.int .i64 0) (.int .i64 0) (.int .i64 0) (.int .i64 0)) := by
  rw [hV, ← hUs]; exact heap_alloc_new _ _
 have HV : Hid (V = ((w.alloc (.cells #[.slice a0 m0 c0, .slice a1 m1 c1, .slice a2 m2 c2, .slice a3 m3 c3, .int .i64 rf, .int .i64 ff, .int .i64 ft, .int .i64 cf, .int .i64 ct] 59)).alloc (.cells #[.int .i64 t, .int .i64 v] 34)).alloc (.cells #[.slice none 0 0, .slice none 0 0, .slice none 0 0, .slice none 0 0, .int .i64 0, .int .i64 0, .int .i64 0, .int .i64 0, .int .i64 0] 59)) := by rw [hV, hU]; exact rfl
 have hXw : w.heap.size ≤ X := by omega
 have HX := hide hX
 have hxV := hx.below bel
 clear hU hV hX hUs
 have HVs := hide hVs
 clear hVs
 go_enter Tryz.func127, Tryz.ntmps127
 go_wp2_with fail
 rw [← HV.out, ← Hv.out, ← HX.out]
 refine (swrong_any y V hxV).mono ?_
 rintro e w1 ⟨rfl, hb1⟩
 have bel1 : Below w.heap.size w w1 := bel.trans (hb1.mono bel.size)
 have B1 := below_block hb1 B0
 have S1 := below_block hb1 S0
 have R1 := below_block hb1 R0
 have hx1 := hxV.below hb1
 have hs1 : X + 3 ≤ w1.heap.size := by have := hb1.size; have := HVs.out; omega
 clear HV hb1 B0 S0 R0 hxV bel
 obtain ⟨q0, q1, q2, q3, q4, q5, q6, q7, q8⟩ := sob_cells R1
 obtain ⟨f0, f1, f2, f3, f4, f5, f6, f7, f8⟩ := sob_free R1
 obtain ⟨s0, s1, _, _⟩ := two_cells S1
 obtain ⟨E, hE⟩ : ∃ E, E = Grain.swrong y.s := ⟨_, rfl⟩
 rw [← hE] at HP ⊢
 clear hE
 by_cases z : E = 0
 ·subst z
  have HP1 : Hid (r = if Grain.inR t v = false then (Grain.szero, 3) else if Grain.late y.s t = true then (Grain.szero, 9) else if 500 ≤ m1 then (Grain.szero, 5) else ({ y.s with ra := y.s.ra ++ [(t, v)] }, 0)) := by
   show _ = _; rw [HP.out, if_neg (by simp)]
  clear HP
  obtain ⟨W1, hW1⟩ : ∃ W, W = w1.alloc (.cells #[.int .i64 t, .int .i64 v] 34) := ⟨_, rfl⟩
  have hbW : Below w1.heap.size w1 W1 := by rw [hW1]; exact (Below.refl _ _).alloc (Nat.le_refl _) _
  have sg : Seg W1 (some ⟨w1.heap.size, 0, none⟩) (scells [(t, v)]) := by rw [hW1]; exact seg_new w1 _ _
  have HW1 := hide hW1
  clear hW1
  go_wp2_with fail
  rw [← HW1.out]
  refine (wrong_len [(t, v)] _ 1 1 W1 sg rfl).mono ?_
  rintro e w2 ⟨rfl, hb2⟩
  rw [Grain.wrong_one]
  have hb12 : Below w1.heap.size w1 w2 := hbW.trans (hb2.mono hbW.size)
  have bel2 : Below w.heap.size w w2 := bel1.trans (hb12.mono bel1.size)
  have B2 := below_block hb12 B1
  have S2 := below_block hb12 S1
  have R2 := below_block hb12 R1
  have hx2 := hx1.below hb12
  have hs2 : X + 3 ≤ w2.heap.size := by have := hb12.size; omega
  clear HW1 hb2 hbW hb12 sg B1 S1 R1 hx1 bel1 hs1 q0 q1 q2 q3 q4 q5 q6 q7 q8 f0 f1 f2 f3 f4 f5 f6 f7 f8 s0 s1
  cases hin : Grain.inR t v
  ·have HP2 : Hid (r = (Grain.szero, 3)) := by show _ = _; rw [HP1.out, if_pos hin]
   clear HP1 hin
   obtain ⟨W2, hW2⟩ : ∃ W, W = w2.alloc (.cells #[.int .i64 3, .int .i64 0] 43) := ⟨_, rfl⟩
   have hbW : Below w2.heap.size w2 W2 := by rw [hW2]; exact (Below.refl _ _).alloc (Nat.le_refl _) _
   have bel3 : Below w.heap.size w W2 := bel2.trans (hbW.mono bel2.size)
   have R3 := below_block hbW R2
   have p0 : W2.cell? ⟨w2.heap.size, 0, none⟩ = some (.int .i64 3) := by rw [hW2]; simp
   obtain ⟨q0, q1, q2, q3, q4, q5, q6, q7, q8⟩ := sob_cells R3
   obtain ⟨f0, f1, f2, f3, f4, f5, f6, f7, f8⟩ := sob_free R3
   have HW2 := hide hW2
   clear hW2 hbW B2 S2 R2
   rw [if_neg (by decide)]
   go_upto_region 5 with fail
   rw [← HW2.out]
   go_wp2_with fail
   go_region
   all_goals
    go_wp2
    exact bodyPost_ret (v := .tuple #[.agg #[.slice none 0 0, .slice none 0 0, .slice none 0 0, .slice none 0 0, .int .i64 0, .int .i64 0, .int .i64 0, .int .i64 0, .int .i64 0], .int .i64 3]) (by simp [results, Tryz.results127, go_sem, q0, q1, q2, q3, q4, q5, q6, q7, q8]) rfl (shpost_no HP2.out (below_drewN (below_set9 bel3 (by omega) _ _ _ _ _ _ _ _ _) 1))
  ·have HP2 : Hid (r = if Grain.late y.s t = true then (Grain.szero, 9) else if 500 ≤ m1 then (Grain.szero, 5) else ({ y.s with ra := y.s.ra ++ [(t, v)] }, 0)) := by
    show _ = _; rw [HP1.out, if_neg (by rw [hin]; decide)]
   clear HP1 hin
   obtain ⟨W2, hW2⟩ : ∃ W, W = w2.alloc (.cells #[.int .i64 0, .int .i64 0] 43) := ⟨_, rfl⟩
   have hbW : Below w2.heap.size w2 W2 := by rw [hW2]; exact (Below.refl _ _).alloc (Nat.le_refl _) _
   have bel3 : Below w.heap.size w W2 := bel2.trans (hbW.mono bel2.size)
   have B3 := below_block hbW B2
   have S3 := below_block hbW S2
   have R3 := below_block hbW R2
   have hx3 := hx2.below hbW
   have hs3 : X + 3 ≤ W2.heap.size := by have := hbW.size; omega
   have p0 : W2.cell? ⟨w2.heap.size, 0, none⟩ = some (.int .i64 0) := by rw [hW2]; simp
   obtain ⟨b0, b1, b2, b3, b4, b5, b6, b7, b8⟩ := sob_cells B3
   obtain ⟨s0, s1, _, _⟩ := two_cells S3
   have HW2 := hide hW2
   clear hW2 hbW B2 S2 R2 bel2 hs2 hx2
   rw [if_pos rfl]
   go_upto_region 5 with fail
   rw [← HW2.out]
   go_wp2_with fail
   rw [← Hv.out]
   refine (late_any y t W2 hx3).mono ?_
   rintro e w3 ⟨rfl, hb3⟩
   have bel4 : Below w.heap.size w w3 := bel3.trans (hb3.mono bel3.size)
   have B4 := below_block hb3 B3
   have S4 := below_block hb3 S3
   have R4 := below_block hb3 R3
   have hx4 := hx3.below hb3
   have hs4 : X + 3 ≤ w3.heap.size := by have := hb3.size; omega
   clear HW2 hb3 B3 S3 R3 bel3 hs3 hx3 b0 b1 b2 b3 b4 b5 b6 b7 b8 s0 s1 p0
   obtain ⟨b0, b1, b2, b3, b4, b5, b6, b7, b8⟩ := sob_cells B4
   obtain ⟨q0, q1, q2, q3, q4, q5, q6, q7, q8⟩ := sob_cells R4
   obtain ⟨f0, f1, f2, f3, f4, f5, f6, f7, f8⟩ := sob_free R4
   cases hl : Grain.late y.s t
   ·by_cases h5 : 500 ≤ m1
    ·have HP3 : Hid (r = (Grain.szero, 5)) := by show _ = _; rw [HP2.out, if_neg (by rw [hl]; decide), if_pos h5]
     have hd : decide ((500 : Int) ≤ (m1 : Int)) = true := by simp; omega
     clear HP2 hl h5
     go_wp2
     exact bodyPost_ret (v := .tuple #[.agg #[.slice none 0 0, .slice none 0 0, .slice none 0 0, .slice none 0 0, .int .i64 0, .int .i64 0, .int .i64 0, .int .i64 0, .int .i64 0], .int .i64 5]) (by simp [results, Tryz.results127, go_sem, q0, q1, q2, q3, q4, q5, q6, q7, q8]) rfl (shpost_no HP3.out (below_set9 bel4 (by omega) _ _ _ _ _ _ _ _ _))
    ·have HP3 : Hid (r = ({ y.s with ra := y.s.ra ++ [(t, v)] }, 0)) := by show _ = _; rw [HP2.out, if_neg (by rw [hl]; decide), if_neg h5]
     have hd : decide ((500 : Int) ≤ (m1 : Int)) = false := by simp; omega
     clear HP2 hl
     go_wp2_with fail
     rw [← Hv.out]
     refine (cshelf_any y w3 hx4).mono ?_
     rintro e w4 ⟨z, rfl, hz, oz, hb4⟩
     have hzr : z.s.ra.length = m1 := by rw [hz]; exact Hra.out.symm
     have bel5 : Below w.heap.size w w4 := bel4.trans (hb4.mono bel4.size)
     have S5 := below_block hb4 S4
     have R5 := below_block hb4 R4
     obtain ⟨zs, A0, D0, A1, D1, A2, D2, A3, D3⟩ := z
     simp only at hz hzr
     subst hz
     obtain ⟨o0, o1, o2, o3, one, ofits, on0, on1, on2, on3⟩ := oz
     simp only at o0 o1 o2 o3 one ofits on0 on1 on2 on3
     obtain ⟨k0, d0⟩ : ∃ m, m = y.s.se.length := ⟨_, rfl⟩
     obtain ⟨k2, d2⟩ : ∃ m, m = y.s.fi.length := ⟨_, rfl⟩
     obtain ⟨k3, d3⟩ : ∃ m, m = y.s.co.length := ⟨_, rfl⟩
     simp only [ShT.v, hzr, ← d0, ← d2, ← d3]
     rw [hzr] at o1
     rw [← d0] at o0
     rw [← d2] at o2
     rw [← d3] at o3
     obtain ⟨W4, hW4⟩ : ∃ W, W = w4.alloc (.cells #[.slice A0 k0 D0, .slice A1 m1 D1, .slice A2 k2 D2, .slice A3 k3 D3, .int .i64 y.s.rf, .int .i64 y.s.ff, .int .i64 y.s.ft, .int .i64 y.s.cf, .int .i64 y.s.ct] 59) := ⟨_, rfl⟩
     obtain ⟨Y, hY⟩ : ∃ Y, Y = w4.heap.size := ⟨_, rfl⟩
     have hbW : Below w4.heap.size w4 W4 := by rw [hW4]; exact (Below.refl _ _).alloc (Nat.le_refl _) _
     have B6 : W4.heap[Y]? = some (sob (.slice A0 k0 D0) (.slice A1 m1 D1) (.slice A2 k2 D2) (.slice A3 k3 D3) (.int .i64 y.s.rf) (.int .i64 y.s.ff) (.int .i64 y.s.ft) (.int .i64 y.s.cf) (.int .i64 y.s.ct)) := by rw [hW4, hY]; exact heap_alloc_new w4 _
     have S6 := below_block hbW S5
     have R6 := below_block hbW R5
     have bel6 : Below w.heap.size w W4 := bel5.trans (hbW.mono bel5.size)
     have p0 := own_below o0 hbW
     have p1 := own_below o1 hbW
     have p2 := own_below o2 hbW
     have p3 := own_below o3 hbW
     have hs6 : X + 3 ≤ W4.heap.size := by have := hb4.size; have := hbW.size; omega
     have hYs : w3.heap.size ≤ Y := by rw [hY]; exact hb4.size
     have HW4 := hide hW4
     have HY := hide hY
     have HD0 := hide d0
     have HD2 := hide d2
     have HD3 := hide d3
     have HZ := hide hzr
     clear hW4 hY d0 d2 d3 hzr o0 o1 o2 o3 hbW S5 R5 hb4 bel5 bel4 S4 R4 B4 hx4 b0 b1 b2 b3 b4 b5 b6 b7 b8 q0 q1 q2 q3 q4 q5 q6 q7 q8 f0 f1 f2 f3 f4 f5 f6 f7 f8
     go_upto_region 12 with fail
     rw [← HW4.out, ← HY.out]
     obtain ⟨b0, b1, b2, b3, b4, b5, b6, b7, b8⟩ := sob_cells B6
     obtain ⟨s0, s1, _, _⟩ := two_cells S6
     obtain ⟨i0, hi, hz0, hz1, hz2⟩ := sinfo_parts Tryz.infoSmp
     have hs36 : w3.heap.size ≤ W4.heap.size := by have := (own_seg' p1); have := hYs; have : Y < W4.heap.size := lt_of_block B6; omega
     go_wp2_with (at_builtin; refine wpList_append_lies _ rfl _ _ 56 rfl w3.heap.size 34 i0 (.agg #[.int .i64 0, .int .i64 0]) 2 16 Tryz.underlying56 hi hz0 hz1 hz2 rfl (by decide) _ _ _ rfl (p1.alloc _) ⟨W4.heap.size, 0, none⟩ 1 1 [.int .i64 t, .int .i64 v] rfl rfl (news_two rfl _ _ _) (by simp [Value.oneCell']) (by decide) (by unfold maxLen; omega) (by omega) (by simp; omega) (W4.heap.size + 1) (by simp) ?_)
     intro g' cp' w5 own5 gr5 hat5 hlt5
     have l6 : Y < W4.heap.size := lt_of_block B6
     have l7 : X + 2 < W4.heap.size := lt_of_block R6
     have B7 : w5.heap[Y]? = some (sob (.slice A0 k0 D0) (.slice A1 m1 D1) (.slice A2 k2 D2) (.slice A3 k3 D3) (.int .i64 y.s.rf) (.int .i64 y.s.ff) (.int .i64 y.s.ft) (.int .i64 y.s.cf) (.int .i64 y.s.ct)) := by
      rw [gr5.block Y (by simp; omega) (fun e => own_far p1 B6 (by decide) e.symm), Below.heap_alloc _ _ _ l6]; exact B6
     have R7 := (gr5.block (X + 2) (by simp; omega) (fun e => own_far p1 R6 (by decide) e.symm)).trans ((Below.heap_alloc _ _ _ l7).trans R6)
     have bel7 : Below w.heap.size w w5 := (bel6.alloc bel6.size _).grown gr5 (by have := bel6.size; simp; omega) (fun j hj => by have := (p1.lt j hj).1; have := bel6.size; omega)
     have r0 := own_keep (p0.alloc _) gr5 (own_types p0 p1 (by decide))
     have r2 := own_keep (p2.alloc _) gr5 (own_types p2 p1 (by decide))
     have r3 := own_keep (p3.alloc _) gr5 (own_types p3 p1 (by decide))
     have t0 := own_far r0 B7 (by decide)
     have t1 := own_far own5 B7 (by decide)
     have t2 := own_far r2 B7 (by decide)
     have t3 := own_far r3 B7 (by decide)
     have hs7 : X + 3 ≤ w5.heap.size := by have := gr5.size; simp at this; omega
     clear gr5 hat5 hlt5 p0 p1 p2 p3 B6 S6 R6 bel6 b0 b1 b2 b3 b4 b5 b6 b7 b8 s0 s1 hi hz0 hz1 hz2
     obtain ⟨b0, b1, b2, b3, b4, b5, b6, b7, b8⟩ := sob_cells B7
     obtain ⟨g0, g1, g2, g3, g4, g5, g6, g7, g8⟩ := sob_free B7
     obtain ⟨q0, q1, q2, q3, q4, q5, q6, q7, q8⟩ := sob_cells R7
     obtain ⟨f0, f1, f2, f3, f4, f5, f6, f7, f8⟩ := sob_free R7
     have hYX : Y ≠ X + 2 := by omega
     have hYX' : Y ≠ X + 1 + 1 := by omega
     go_upto_region 13 with fail
     obtain ⟨W5, hW5⟩ : ∃ W, W = w5.setCell ⟨Y, 1, none⟩ (.slice (some ⟨g', 0, none⟩) (m1 + 1) cp') := ⟨_, rfl⟩
     rw [← hW5]
     have B8 : W5.heap[Y]? = some (sob (.slice A0 k0 D0) (.slice (some ⟨g', 0, none⟩) (m1 + 1) cp') (.slice A2 k2 D2) (.slice A3 k3 D3) (.int .i64 y.s.rf) (.int .i64 y.s.ff) (.int .i64 y.s.ft) (.int .i64 y.s.cf) (.int .i64 y.s.ct)) := by rw [hW5]; exact set_block B7 _
     have R8 : W5.heap[X + 2]? = some (sob (.slice none 0 0) (.slice none 0 0) (.slice none 0 0) (.slice none 0 0) (.int .i64 0) (.int .i64 0) (.int .i64 0) (.int .i64 0) (.int .i64 0)) := by rw [hW5, setCell_far (fun e => hYX e.symm)]; exact R7
     have bel8 : Below w.heap.size w W5 := by rw [hW5]; exact bel7.setCell (by have := HX.out; show w.heap.size ≤ Y; omega) _
     have c0 : W5.ownsRow w3.heap.size 88 2 (.slice A0 k0 D0) k0 (lcells y.s.se) := by rw [hW5]; exact ownsRow_setCell_other r0 t0 _
     have c1 : W5.ownsRow w3.heap.size 34 2 (.slice (some ⟨g', 0, none⟩) (m1 + 1) cp') (m1 + 1) (scells (y.s.ra ++ [(t, v)])) := by rw [hW5, scells_append]; exact ownsRow_setCell_other own5 t1 _
     have c2 : W5.ownsRow w3.heap.size 145 8 (.slice A2 k2 D2) k2 (kcells y.s.fi) := by rw [hW5]; exact ownsRow_setCell_other r2 t2 _
     have c3 : W5.ownsRow w3.heap.size 145 8 (.slice A3 k3 D3) k3 (kcells y.s.co) := by rw [hW5]; exact ownsRow_setCell_other r3 t3 _
     clear hW5 r0 r2 r3 own5 t0 t1 t2 t3 B7 R7 bel7 b0 b1 b2 b3 b4 b5 b6 b7 b8 g0 g1 g2 g3 g4 g5 g6 g7 g8 q0 q1 q2 q3 q4 q5 q6 q7 q8 f0 f1 f2 f3 f4 f5 f6 f7 f8
     obtain ⟨b0, b1, b2, b3, b4, b5, b6, b7, b8⟩ := sob_cells B8
     obtain ⟨q0, q1, q2, q3, q4, q5, q6, q7, q8⟩ := sob_cells R8
     obtain ⟨f0, f1, f2, f3, f4, f5, f6, f7, f8⟩ := sob_free R8
     go_wp2
     refine bodyPost_ret (v := .tuple #[.agg #[.slice A0 k0 D0, .slice (some ⟨g', 0, none⟩) (m1 + 1) cp', .slice A2 k2 D2, .slice A3 k3 D3, .int .i64 y.s.rf, .int .i64 y.s.ff, .int .i64 y.s.ft, .int .i64 y.s.cf, .int .i64 y.s.ct], .int .i64 0]) (by simp [results, Tryz.results127, go_sem, q0, q1, q2, q3, q4, q5, q6, q7, q8]) rfl ?_
     have hlr : (y.s.ra ++ [(t, v)]).length = m1 + 1 := by rw [List.length_append, HZ.out]; rfl
     have hbw : w.heap.size ≤ w3.heap.size := by have := HX.out; omega
     refine ⟨⟨{ y.s with ra := y.s.ra ++ [(t, v)] }, A0, D0, some ⟨g', 0, none⟩, cp', A2, D2, A3, D3⟩, ?_, ?_, ⟨?_, ?_, ?_, ?_, one, ofits, on0, ?_, on2, on3⟩, below_set9 bel8 (by omega) _ _ _ _ _ _ _ _ _⟩
     ·rw [HP3.out]
      simp only [ShT.v, hlr, ← HD0.out, ← HD2.out, ← HD3.out]
     ·rw [HP3.out]
     ·simp only [← HD0.out]; exact own_down (own_set9 c0 (by omega) _ _ _ _ _ _ _ _ _) hbw
     ·simp only [hlr]; exact own_down (own_set9 c1 (by omega) _ _ _ _ _ _ _ _ _) hbw
     ·simp only [← HD2.out]; exact own_down (own_set9 c2 (by omega) _ _ _ _ _ _ _ _ _) hbw
     ·simp only [← HD3.out]; exact own_down (own_set9 c3 (by omega) _ _ _ _ _ _ _ _ _) hbw
     ·show (y.s.ra ++ [(t, v)]).length * 16 ≤ _; rw [hlr]; omega
   ·have HP3 : Hid (r = (Grain.szero, 9)) := by show _ = _; rw [HP2.out, if_pos hl]
    clear HP2 hl
    go_wp2
    exact bodyPost_ret (v := .tuple #[.agg #[.slice none 0 0, .slice none 0 0, .slice none 0 0, .slice none 0 0, .int .i64 0, .int .i64 0, .int .i64 0, .int .i64 0, .int .i64 0], .int .i64 9]) (by simp [results, Tryz.results127, go_sem, q0, q1, q2, q3, q4, q5, q6, q7, q8]) rfl (shpost_no HP3.out (below_set9 bel4 (by omega) _ _ _ _ _ _ _ _ _))
 ·have n := ne_beq z
  have HP1 : Hid (r = (Grain.szero, E)) := by show _ = _; rw [HP.out, if_pos z]
  clear HP z
  go_wp2
  exact bodyPost_ret (v := .tuple #[.agg #[.slice none 0 0, .slice none 0 0, .slice none 0 0, .slice none 0 0, .int .i64 0, .int .i64 0, .int .i64 0, .int .i64 0, .int .i64 0], .int .i64 E]) (by simp [results, Tryz.results127, go_sem, q0, q1, q2, q3, q4, q5, q6, q7, q8]) rfl (shpost_no HP1.out (below_set9 bel1 (by omega) _ _ _ _ _ _ _ _ _))
end Go.Proofs.YtoldmigappbjcaaGreatDoor
