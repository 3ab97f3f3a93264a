/-
  The walk of Append.
-/
import Derived.Test.YtcgcefnfelmmkaaShG
namespace Grain

theorem wrong_one (t v : Int) : wrong [(t, v)] = if inR t v = true then (0, 0) else (3, 0) := by
  unfold wrong
  rw [if_neg (by simp)]
  by_cases h : inR t v = true
  · rw [if_pos h]
    have hb : bad [(t, v)] 0 = 0 := by
      unfold bad
      simp only [tm, vl, List.getD_cons_zero]
      rw [if_neg (by rw [h]; decide), if_neg (by simp)]
    show wrongF [(t, v)] (0 + 1) 0 = _
    rw [wrongF_ok hb]
    rfl
  · rw [if_neg h]
    have hb : bad [(t, v)] 0 = 3 := by
      unfold bad
      simp only [tm, vl, List.getD_cons_zero]
      have : inR t v = false := by simpa using h
      rw [if_pos (by rw [this])]
    show wrongF [(t, v)] (0 + 1) 0 = _
    rw [wrongF_no (by rw [hb]; decide), hb]
    rfl

end Grain
namespace Go.GrainU
open Go.RowKit

/-- a row's block is none of another type -/
theorem own_far {w : World} {base e size n : Nat} {v : Value} {xs : List Value} (h : w.ownsRow base e size v n xs) {k : Nat} {c : Array Value} {t : TypeId} {fr : Nat × Nat} (hk : w.heap[k]? = some (.cells c t fr)) (ht : t ≠ e) : v.ownBlock ≠ some k := by
  intro hv
  rcases h.2 with ⟨h2, _⟩ | ⟨g, cap, cur, h2, _, hg, _⟩
  · rw [h2] at hv; simp [Value.ownBlock] at hv
  · rw [h2] at hv
    simp [Value.ownBlock] at hv
    subst hv
    rw [hk] at hg
    simp at hg
    exact ht hg.2.1

/-- a row whose block is none of those that grew -/
theorem own_keep {w w' : World} {base e size n : Nat} {v : Value} {xs : List Value} {r : Option Nat} (h : w.ownsRow base e size v n xs) (hg : w.grownBy w' r) (hne : ∀ k, v.ownBlock = some k → r ≠ some k) : w'.ownsRow base e size v n xs := by
  obtain ⟨h1, h2⟩ := h
  refine ⟨h1, ?_⟩
  rcases h2 with h2 | ⟨g, cap, cur, hv, hb, hh, rest⟩
  · exact Or.inl h2
  · have hl : g < w.heap.size := by
      rcases Nat.lt_or_ge g w.heap.size with h | h
      · exact h
      · rw [Array.getElem?_eq_none h] at hh; cases hh
    refine Or.inr ⟨g, cap, cur, hv, hb, ?_, rest⟩
    rw [hg.block g hl (fun e => hne g (by rw [hv]; rfl) e.symm)]; exact hh

/-- two rows of different types lie apart -/
theorem own_types {w : World} {base base' e e' size size' n n' : Nat} {v v' : Value} {xs xs' : List Value} (h : w.ownsRow base e size v n xs) (h' : w.ownsRow base' e' size' v' n' xs') (ht : e ≠ e') : ∀ k, v.ownBlock = some k → v'.ownBlock ≠ some k := by
  intro k hk
  rcases h.2 with ⟨h2, _⟩ | ⟨g, cap, cur, h2, _, hg, _⟩
  · rw [h2] at hk; simp [Value.ownBlock] at hk
  · rw [h2] at hk
    simp [Value.ownBlock] at hk
    subst hk
    exact own_far h' hg ht

end Go.GrainU
namespace Go.Proofs.Ytcgcefnfelmmkaa
open Go.RowKit Go.GrainU

/-- nothing on it -/
def szT : ShT := ⟨Grain.szero, none, 0, none, 0, none, 0, none, 0⟩

theorem szT_in (w : World) : ShIn w szT := by
  refine ⟨.inl rfl, .inl rfl, .inl rfl, .inl rfl, ?_, ?_, ?_, ?_, ?_, fun _ => ⟨rfl, rfl⟩, fun _ => ⟨rfl, rfl⟩, fun _ => ⟨rfl, rfl⟩, fun _ => ⟨rfl, rfl⟩⟩
  · intro k hk; simp [szT, Grain.szero] at hk
  all_goals simp [szT, Grain.szero]

theorem szT_own (b : Nat) (w : World) : ShO b w szT := by
  refine ⟨World.ownsRow_nil _ _ _ _, World.ownsRow_nil _ _ _ _, World.ownsRow_nil _ _ _ _, World.ownsRow_nil _ _ _ _, fun g h => ?_, ?_, ?_, ?_, ?_, ?_⟩
  · simp [szT, Value.ownBlock] at h
  · intro k hk; simp [szT, Grain.szero] at hk
  all_goals simp [szT, Grain.szero]

/-- what comes of a shelf: another, of the call's own memory, and an error -/
def ShPost (w : World) (r : Grain.Shf × Int) (e : Ending) (w' : World) : Prop :=
  ∃ y : ShT, e = .returned (.tuple #[y.v, .int .i64 r.2]) ∧ y.s = r.1 ∧ ShO w.heap.size w' y ∧ Below w.heap.size w w'

theorem shpost_no {w w' : World} {E : Int} {r : Grain.Shf × Int} (h : r = (Grain.szero, E)) (hb : Below w.heap.size w w') :
    ShPost w r (.returned (.tuple #[.agg #[.slice none 0 0, .slice none 0 0, .slice none 0 0, .slice none 0 0, .int .i64 0, .int .i64 0, .int .i64 0, .int .i64 0, .int .i64 0], .int .i64 E])) w' := by
  subst h
  exact ⟨szT, rfl, rfl, szT_own _ _, hb⟩

set_option maxHeartbeats 4000000 in
theorem sapp_any (x : ShT) (t v : Int) (w : World) (hx : ShIn w x) :
    Calls Try.prog 8 #[x.v, .agg #[.int .i64 t, .int .i64 v]] w (ShPost w (Grain.sapp x.s t v)) := by
  have HP : Hid (Grain.sapp x.s t v = if Grain.swrong x.s ≠ 0 then (Grain.szero, Grain.swrong x.s) else if Grain.inR t v = false then (Grain.szero, 3) else if Grain.late x.s t = true then (Grain.szero, 9) else if 500 ≤ x.s.ra.length then (Grain.szero, 5) else ({ x.s with ra := x.s.ra ++ [(t, v)] }, 0)) := rfl
  obtain ⟨r, hr⟩ : ∃ r, r = Grain.sapp x.s t v := ⟨_, rfl⟩
  rw [← hr] at HP ⊢
  clear hr
  obtain ⟨y, hy⟩ : ∃ y, y = x := ⟨_, rfl⟩
  obtain ⟨⟨se, ra, fi, co, rf, ff, ft, cf, ct⟩, a0, c0, a1, c1, a2, c2, a3, c3⟩ := x
  obtain ⟨m0, e0⟩ : ∃ m, m = se.length := ⟨_, rfl⟩
  obtain ⟨m1, e1⟩ : ∃ m, m = ra.length := ⟨_, rfl⟩
  obtain ⟨m2, e2⟩ : ∃ m, m = fi.length := ⟨_, rfl⟩
  obtain ⟨m3, e3⟩ : ∃ m, m = co.length := ⟨_, rfl⟩
  have Hv : Hid (y.v = .agg #[.slice a0 m0 c0, .slice a1 m1 c1, .slice a2 m2 c2, .slice a3 m3 c3, .int .i64 rf, .int .i64 ff, .int .i64 ft, .int .i64 cf, .int .i64 ct]) := by
    show _ = _
    rw [hy, e0, e1, e2, e3]; rfl
  have Hra : Hid (m1 = y.s.ra.length) := by show _ = _; rw [hy, e1]
  rw [← hy] at HP hx
  rw [← hy, Hv.out]
  rw [← Hra.out] at HP
  clear e0 e1 e2 e3 hy
  obtain ⟨X, hX⟩ : ∃ X, X = w.heap.size := ⟨_, rfl⟩
  obtain ⟨U, hU⟩ : ∃ U, U = (w.alloc (.cells #[.slice a0 m0 c0, .slice a1 m1 c1, .slice a2 m2 c2, .slice a3 m3 c3, .int .i64 rf, .int .i64 ff, .int .i64 ft, .int .i64 cf, .int .i64 ct] 27)).alloc (.cells #[.int .i64 t, .int .i64 v] 29) := ⟨_, rfl⟩
  obtain ⟨V, hV⟩ : ∃ V, V = U.alloc (.cells #[.slice none 0 0, .slice none 0 0, .slice none 0 0, .slice none 0 0, .int .i64 0, .int .i64 0, .int .i64 0, .int .i64 0, .int .i64 0] 27) := ⟨_, rfl⟩
  have hUs : U.heap.size = X + 2 := by rw [hU, hX]; simp
  have hVs : V.heap.size = X + 3 := by rw [hV]; simp [hUs]
  have bel : Below w.heap.size w V := by rw [hV, hU]; exact (((Below.refl _ _).alloc (Nat.le_refl _) _).alloc (by simp) _).alloc (by simp; omega) _
  have B0 : V.heap[X]? = some (sob (.slice a0 m0 c0) (.slice a1 m1 c1) (.slice a2 m2 c2) (.slice a3 m3 c3) (.int .i64 rf) (.int .i64 ff) (.int .i64 ft) (.int .i64 cf) (.int .i64 ct)) := by
    rw [hV, Below.heap_alloc _ _ _ (by omega), hU, Below.heap_alloc _ _ _ (by rw [hX]; simp), hX]; exact heap_alloc_new w _
  have S0 : V.heap[X + 1]? = some (.cells #[.int .i64 t, .int .i64 v] 29 (0, 0)) := by
    have e : X + 1 = (w.alloc (.cells #[.slice a0 m0 c0, .slice a1 m1 c1, .slice a2 m2 c2, .slice a3 m3 c3, .int .i64 rf, .int .i64 ff, .int .i64 ft, .int .i64 cf, .int .i64 ct] 27)).heap.size := by rw [hX]; simp
    rw [hV, Below.heap_alloc _ _ _ (by omega), hU, e]; exact heap_alloc_new _ _
  have R0 : V.heap[X + 2]? = some (sob (.slice none 0 0) (.slice none 0 0) (.slice none 0 0) (.slice none 0 0) (.int .i64 0) (.int .i64 0) (.int .i64 0) (.int .i64 0) (.int .i64 0)) := by
    rw [hV, ← hUs]; exact heap_alloc_new _ _
  have HV : Hid (V = ((w.alloc (.cells #[.slice a0 m0 c0, .slice a1 m1 c1, .slice a2 m2 c2, .slice a3 m3 c3, .int .i64 rf, .int .i64 ff, .int .i64 ft, .int .i64 cf, .int .i64 ct] 27)).alloc (.cells #[.int .i64 t, .int .i64 v] 29)).alloc (.cells #[.slice none 0 0, .slice none 0 0, .slice none 0 0, .slice none 0 0, .int .i64 0, .int .i64 0, .int .i64 0, .int .i64 0, .int .i64 0] 27)) := by rw [hV, hU]; exact rfl
  have hXw : w.heap.size ≤ X := by omega
  have HX := hide hX
  have hxV := hx.below bel
  clear hU hV hX hUs
  have HVs := hide hVs
  clear hVs
  go_enter Try.func8, Try.ntmps8
  go_wp2_with fail
  rw [← HV.out, ← Hv.out, ← HX.out]
  refine (swrong_any y V hxV).mono ?_
  rintro e w1 ⟨rfl, hb1⟩
  have bel1 : Below w.heap.size w w1 := bel.trans (hb1.mono bel.size)
  have B1 := below_block hb1 B0
  have S1 := below_block hb1 S0
  have R1 := below_block hb1 R0
  have hx1 := hxV.below hb1
  have hs1 : X + 3 ≤ w1.heap.size := by have := hb1.size; have := HVs.out; omega
  clear HV hb1 B0 S0 R0 hxV bel
  obtain ⟨q0, q1, q2, q3, q4, q5, q6, q7, q8⟩ := sob_cells R1
  obtain ⟨f0, f1, f2, f3, f4, f5, f6, f7, f8⟩ := sob_free R1
  obtain ⟨s0, s1, _, _⟩ := two_cells S1
  obtain ⟨E, hE⟩ : ∃ E, E = Grain.swrong y.s := ⟨_, rfl⟩
  rw [← hE] at HP ⊢
  clear hE
  by_cases z : E = 0
  · subst z
    have HP1 : Hid (r = if Grain.inR t v = false then (Grain.szero, 3) else if Grain.late y.s t = true then (Grain.szero, 9) else if 500 ≤ m1 then (Grain.szero, 5) else ({ y.s with ra := y.s.ra ++ [(t, v)] }, 0)) := by
      show _ = _; rw [HP.out, if_neg (by simp)]
    clear HP
    obtain ⟨W1, hW1⟩ : ∃ W, W = w1.alloc (.cells #[.int .i64 t, .int .i64 v] 29) := ⟨_, rfl⟩
    have hbW : Below w1.heap.size w1 W1 := by rw [hW1]; exact (Below.refl _ _).alloc (Nat.le_refl _) _
    have sg : Seg W1 (some ⟨w1.heap.size, 0, none⟩) (scells [(t, v)]) := by rw [hW1]; exact seg_new w1 _ _
    have HW1 := hide hW1
    clear hW1
    go_wp2_with fail
    rw [← HW1.out]
    refine (wrong_len [(t, v)] _ 1 1 W1 sg rfl).mono ?_
    rintro e w2 ⟨rfl, hb2⟩
    rw [Grain.wrong_one]
    have hb12 : Below w1.heap.size w1 w2 := hbW.trans (hb2.mono hbW.size)
    have bel2 : Below w.heap.size w w2 := bel1.trans (hb12.mono bel1.size)
    have B2 := below_block hb12 B1
    have S2 := below_block hb12 S1
    have R2 := below_block hb12 R1
    have hx2 := hx1.below hb12
    have hs2 : X + 3 ≤ w2.heap.size := by have := hb12.size; omega
    clear HW1 hb2 hbW hb12 sg B1 S1 R1 hx1 bel1 hs1 q0 q1 q2 q3 q4 q5 q6 q7 q8 f0 f1 f2 f3 f4 f5 f6 f7 f8 s0 s1
    cases hin : Grain.inR t v
    · have HP2 : Hid (r = (Grain.szero, 3)) := by show _ = _; rw [HP1.out, if_pos hin]
      clear HP1 hin
      obtain ⟨W2, hW2⟩ : ∃ W, W = w2.alloc (.cells #[.int .i64 3, .int .i64 0] 55) := ⟨_, rfl⟩
      have hbW : Below w2.heap.size w2 W2 := by rw [hW2]; exact (Below.refl _ _).alloc (Nat.le_refl _) _
      have bel3 : Below w.heap.size w W2 := bel2.trans (hbW.mono bel2.size)
      have R3 := below_block hbW R2
      have p0 : W2.cell? ⟨w2.heap.size, 0, none⟩ = some (.int .i64 3) := by rw [hW2]; simp
      obtain ⟨q0, q1, q2, q3, q4, q5, q6, q7, q8⟩ := sob_cells R3
      obtain ⟨f0, f1, f2, f3, f4, f5, f6, f7, f8⟩ := sob_free R3
      have HW2 := hide hW2
      clear hW2 hbW B2 S2 R2
      rw [if_neg (by decide)]
      go_upto_region 5 with fail
      rw [← HW2.out]
      go_wp2_with fail
      go_region
      all_goals
        go_wp2
        exact bodyPost_ret (v := .tuple #[.agg #[.slice none 0 0, .slice none 0 0, .slice none 0 0, .slice none 0 0, .int .i64 0, .int .i64 0, .int .i64 0, .int .i64 0, .int .i64 0], .int .i64 3]) (by simp [results, Try.results8, go_sem, q0, q1, q2, q3, q4, q5, q6, q7, q8]) rfl (shpost_no HP2.out (below_drewN (below_set9 bel3 (by omega) _ _ _ _ _ _ _ _ _) 1))
    · have HP2 : Hid (r = if Grain.late y.s t = true then (Grain.szero, 9) else if 500 ≤ m1 then (Grain.szero, 5) else ({ y.s with ra := y.s.ra ++ [(t, v)] }, 0)) := by
        show _ = _; rw [HP1.out, if_neg (by rw [hin]; decide)]
      clear HP1 hin
      obtain ⟨W2, hW2⟩ : ∃ W, W = w2.alloc (.cells #[.int .i64 0, .int .i64 0] 55) := ⟨_, rfl⟩
      have hbW : Below w2.heap.size w2 W2 := by rw [hW2]; exact (Below.refl _ _).alloc (Nat.le_refl _) _
      have bel3 : Below w.heap.size w W2 := bel2.trans (hbW.mono bel2.size)
      have B3 := below_block hbW B2
      have S3 := below_block hbW S2
      have R3 := below_block hbW R2
      have hx3 := hx2.below hbW
      have hs3 : X + 3 ≤ W2.heap.size := by have := hbW.size; omega
      have p0 : W2.cell? ⟨w2.heap.size, 0, none⟩ = some (.int .i64 0) := by rw [hW2]; simp
      obtain ⟨b0, b1, b2, b3, b4, b5, b6, b7, b8⟩ := sob_cells B3
      obtain ⟨s0, s1, _, _⟩ := two_cells S3
      have HW2 := hide hW2
      clear hW2 hbW B2 S2 R2 bel2 hs2 hx2
      rw [if_pos rfl]
      go_upto_region 5 with fail
      rw [← HW2.out]
      go_wp2_with fail
      rw [← Hv.out]
      refine (late_any y t W2 hx3).mono ?_
      rintro e w3 ⟨rfl, hb3⟩
      have bel4 : Below w.heap.size w w3 := bel3.trans (hb3.mono bel3.size)
      have B4 := below_block hb3 B3
      have S4 := below_block hb3 S3
      have R4 := below_block hb3 R3
      have hx4 := hx3.below hb3
      have hs4 : X + 3 ≤ w3.heap.size := by have := hb3.size; omega
      clear HW2 hb3 B3 S3 R3 bel3 hs3 hx3 b0 b1 b2 b3 b4 b5 b6 b7 b8 s0 s1 p0
      obtain ⟨b0, b1, b2, b3, b4, b5, b6, b7, b8⟩ := sob_cells B4
      obtain ⟨q0, q1, q2, q3, q4, q5, q6, q7, q8⟩ := sob_cells R4
      obtain ⟨f0, f1, f2, f3, f4, f5, f6, f7, f8⟩ := sob_free R4
      cases hl : Grain.late y.s t
      · by_cases h5 : 500 ≤ m1
        · have HP3 : Hid (r = (Grain.szero, 5)) := by show _ = _; rw [HP2.out, if_neg (by rw [hl]; decide), if_pos h5]
          have hd : decide ((500 : Int) ≤ (m1 : Int)) = true := by simp; omega
          clear HP2 hl h5
          go_wp2
          exact bodyPost_ret (v := .tuple #[.agg #[.slice none 0 0, .slice none 0 0, .slice none 0 0, .slice none 0 0, .int .i64 0, .int .i64 0, .int .i64 0, .int .i64 0, .int .i64 0], .int .i64 5]) (by simp [results, Try.results8, go_sem, q0, q1, q2, q3, q4, q5, q6, q7, q8]) rfl (shpost_no HP3.out (below_set9 bel4 (by omega) _ _ _ _ _ _ _ _ _))
        · have HP3 : Hid (r = ({ y.s with ra := y.s.ra ++ [(t, v)] }, 0)) := by show _ = _; rw [HP2.out, if_neg (by rw [hl]; decide), if_neg h5]
          have hd : decide ((500 : Int) ≤ (m1 : Int)) = false := by simp; omega
          clear HP2 hl
          go_wp2_with fail
          rw [← Hv.out]
          refine (cshelf_any y w3 hx4).mono ?_
          rintro e w4 ⟨z, rfl, hz, oz, hb4⟩
          have hzr : z.s.ra.length = m1 := by rw [hz]; exact Hra.out.symm
          have bel5 : Below w.heap.size w w4 := bel4.trans (hb4.mono bel4.size)
          have S5 := below_block hb4 S4
          have R5 := below_block hb4 R4
          obtain ⟨zs, A0, D0, A1, D1, A2, D2, A3, D3⟩ := z
          simp only at hz hzr
          subst hz
          obtain ⟨o0, o1, o2, o3, one, ofits, on0, on1, on2, on3⟩ := oz
          simp only at o0 o1 o2 o3 one ofits on0 on1 on2 on3
          obtain ⟨k0, d0⟩ : ∃ m, m = y.s.se.length := ⟨_, rfl⟩
          obtain ⟨k2, d2⟩ : ∃ m, m = y.s.fi.length := ⟨_, rfl⟩
          obtain ⟨k3, d3⟩ : ∃ m, m = y.s.co.length := ⟨_, rfl⟩
          simp only [ShT.v, hzr, ← d0, ← d2, ← d3]
          rw [hzr] at o1
          rw [← d0] at o0
          rw [← d2] at o2
          rw [← d3] at o3
          obtain ⟨W4, hW4⟩ : ∃ W, W = w4.alloc (.cells #[.slice A0 k0 D0, .slice A1 m1 D1, .slice A2 k2 D2, .slice A3 k3 D3, .int .i64 y.s.rf, .int .i64 y.s.ff, .int .i64 y.s.ft, .int .i64 y.s.cf, .int .i64 y.s.ct] 27) := ⟨_, rfl⟩
          obtain ⟨Y, hY⟩ : ∃ Y, Y = w4.heap.size := ⟨_, rfl⟩
          have hbW : Below w4.heap.size w4 W4 := by rw [hW4]; exact (Below.refl _ _).alloc (Nat.le_refl _) _
          have B6 : W4.heap[Y]? = some (sob (.slice A0 k0 D0) (.slice A1 m1 D1) (.slice A2 k2 D2) (.slice A3 k3 D3) (.int .i64 y.s.rf) (.int .i64 y.s.ff) (.int .i64 y.s.ft) (.int .i64 y.s.cf) (.int .i64 y.s.ct)) := by rw [hW4, hY]; exact heap_alloc_new w4 _
          have S6 := below_block hbW S5
          have R6 := below_block hbW R5
          have bel6 : Below w.heap.size w W4 := bel5.trans (hbW.mono bel5.size)
          have p0 := own_below o0 hbW
          have p1 := own_below o1 hbW
          have p2 := own_below o2 hbW
          have p3 := own_below o3 hbW
          have hs6 : X + 3 ≤ W4.heap.size := by have := hb4.size; have := hbW.size; omega
          have hYs : w3.heap.size ≤ Y := by rw [hY]; exact hb4.size
          have HW4 := hide hW4
          have HY := hide hY
          have HD0 := hide d0
          have HD2 := hide d2
          have HD3 := hide d3
          have HZ := hide hzr
          clear hW4 hY d0 d2 d3 hzr o0 o1 o2 o3 hbW S5 R5 hb4 bel5 bel4 S4 R4 B4 hx4 b0 b1 b2 b3 b4 b5 b6 b7 b8 q0 q1 q2 q3 q4 q5 q6 q7 q8 f0 f1 f2 f3 f4 f5 f6 f7 f8
          go_upto_region 12 with fail
          rw [← HW4.out, ← HY.out]
          obtain ⟨b0, b1, b2, b3, b4, b5, b6, b7, b8⟩ := sob_cells B6
          obtain ⟨s0, s1, _, _⟩ := two_cells S6
          obtain ⟨i0, hi, hz0, hz1, hz2⟩ := sinfo_parts Try.infoSmp
          have hs36 : w3.heap.size ≤ W4.heap.size := by have := (own_seg' p1); have := hYs; have : Y < W4.heap.size := lt_of_block B6; omega
          go_wp2_with (at_builtin; refine wpList_append_lies _ rfl _ _ 24 rfl w3.heap.size 29 i0 (.agg #[.int .i64 0, .int .i64 0]) 2 16 Try.underlying24 hi hz0 hz1 hz2 rfl (by decide) _ _ _ rfl (p1.alloc _) ⟨W4.heap.size, 0, none⟩ 1 1 [.int .i64 t, .int .i64 v] rfl rfl (news_two rfl _ _ _) (by simp [Value.oneCell']) (by decide) (by unfold maxLen; omega) (by omega) (by simp; omega) (W4.heap.size + 1) (by simp) ?_)
          intro g' cp' w5 own5 gr5 hat5 hlt5
          have l6 : Y < W4.heap.size := lt_of_block B6
          have l7 : X + 2 < W4.heap.size := lt_of_block R6
          have B7 : w5.heap[Y]? = some (sob (.slice A0 k0 D0) (.slice A1 m1 D1) (.slice A2 k2 D2) (.slice A3 k3 D3) (.int .i64 y.s.rf) (.int .i64 y.s.ff) (.int .i64 y.s.ft) (.int .i64 y.s.cf) (.int .i64 y.s.ct)) := by
            rw [gr5.block Y (by simp; omega) (fun e => own_far p1 B6 (by decide) e.symm), Below.heap_alloc _ _ _ l6]; exact B6
          have R7 := (gr5.block (X + 2) (by simp; omega) (fun e => own_far p1 R6 (by decide) e.symm)).trans ((Below.heap_alloc _ _ _ l7).trans R6)
          have bel7 : Below w.heap.size w w5 := (bel6.alloc bel6.size _).grown gr5 (by have := bel6.size; simp; omega) (fun j hj => by have := (p1.lt j hj).1; have := bel6.size; omega)
          have r0 := own_keep (p0.alloc _) gr5 (own_types p0 p1 (by decide))
          have r2 := own_keep (p2.alloc _) gr5 (own_types p2 p1 (by decide))
          have r3 := own_keep (p3.alloc _) gr5 (own_types p3 p1 (by decide))
          have t0 := own_far r0 B7 (by decide)
          have t1 := own_far own5 B7 (by decide)
          have t2 := own_far r2 B7 (by decide)
          have t3 := own_far r3 B7 (by decide)
          have hs7 : X + 3 ≤ w5.heap.size := by have := gr5.size; simp at this; omega
          clear gr5 hat5 hlt5 p0 p1 p2 p3 B6 S6 R6 bel6 b0 b1 b2 b3 b4 b5 b6 b7 b8 s0 s1 hi hz0 hz1 hz2
          obtain ⟨b0, b1, b2, b3, b4, b5, b6, b7, b8⟩ := sob_cells B7
          obtain ⟨g0, g1, g2, g3, g4, g5, g6, g7, g8⟩ := sob_free B7
          obtain ⟨q0, q1, q2, q3, q4, q5, q6, q7, q8⟩ := sob_cells R7
          obtain ⟨f0, f1, f2, f3, f4, f5, f6, f7, f8⟩ := sob_free R7
          have hYX : Y ≠ X + 2 := by omega
          have hYX' : Y ≠ X + 1 + 1 := by omega
          go_upto_region 13 with fail
          obtain ⟨W5, hW5⟩ : ∃ W, W = w5.setCell ⟨Y, 1, none⟩ (.slice (some ⟨g', 0, none⟩) (m1 + 1) cp') := ⟨_, rfl⟩
          rw [← hW5]
          have B8 : W5.heap[Y]? = some (sob (.slice A0 k0 D0) (.slice (some ⟨g', 0, none⟩) (m1 + 1) cp') (.slice A2 k2 D2) (.slice A3 k3 D3) (.int .i64 y.s.rf) (.int .i64 y.s.ff) (.int .i64 y.s.ft) (.int .i64 y.s.cf) (.int .i64 y.s.ct)) := by rw [hW5]; exact set_block B7 _
          have R8 : W5.heap[X + 2]? = some (sob (.slice none 0 0) (.slice none 0 0) (.slice none 0 0) (.slice none 0 0) (.int .i64 0) (.int .i64 0) (.int .i64 0) (.int .i64 0) (.int .i64 0)) := by rw [hW5, setCell_far (fun e => hYX e.symm)]; exact R7
          have bel8 : Below w.heap.size w W5 := by rw [hW5]; exact bel7.setCell (by have := HX.out; show w.heap.size ≤ Y; omega) _
          have c0 : W5.ownsRow w3.heap.size 71 2 (.slice A0 k0 D0) k0 (lcells y.s.se) := by rw [hW5]; exact ownsRow_setCell_other r0 t0 _
          have c1 : W5.ownsRow w3.heap.size 29 2 (.slice (some ⟨g', 0, none⟩) (m1 + 1) cp') (m1 + 1) (scells (y.s.ra ++ [(t, v)])) := by rw [hW5, scells_append]; exact ownsRow_setCell_other own5 t1 _
          have c2 : W5.ownsRow w3.heap.size 67 8 (.slice A2 k2 D2) k2 (kcells y.s.fi) := by rw [hW5]; exact ownsRow_setCell_other r2 t2 _
          have c3 : W5.ownsRow w3.heap.size 67 8 (.slice A3 k3 D3) k3 (kcells y.s.co) := by rw [hW5]; exact ownsRow_setCell_other r3 t3 _
          clear hW5 r0 r2 r3 own5 t0 t1 t2 t3 B7 R7 bel7 b0 b1 b2 b3 b4 b5 b6 b7 b8 g0 g1 g2 g3 g4 g5 g6 g7 g8 q0 q1 q2 q3 q4 q5 q6 q7 q8 f0 f1 f2 f3 f4 f5 f6 f7 f8
          obtain ⟨b0, b1, b2, b3, b4, b5, b6, b7, b8⟩ := sob_cells B8
          obtain ⟨q0, q1, q2, q3, q4, q5, q6, q7, q8⟩ := sob_cells R8
          obtain ⟨f0, f1, f2, f3, f4, f5, f6, f7, f8⟩ := sob_free R8
          go_wp2
          refine bodyPost_ret (v := .tuple #[.agg #[.slice A0 k0 D0, .slice (some ⟨g', 0, none⟩) (m1 + 1) cp', .slice A2 k2 D2, .slice A3 k3 D3, .int .i64 y.s.rf, .int .i64 y.s.ff, .int .i64 y.s.ft, .int .i64 y.s.cf, .int .i64 y.s.ct], .int .i64 0]) (by simp [results, Try.results8, go_sem, q0, q1, q2, q3, q4, q5, q6, q7, q8]) rfl ?_
          have hlr : (y.s.ra ++ [(t, v)]).length = m1 + 1 := by rw [List.length_append, HZ.out]; rfl
          have hbw : w.heap.size ≤ w3.heap.size := by have := HX.out; omega
          refine ⟨⟨{ y.s with ra := y.s.ra ++ [(t, v)] }, A0, D0, some ⟨g', 0, none⟩, cp', A2, D2, A3, D3⟩, ?_, ?_, ⟨?_, ?_, ?_, ?_, one, ofits, on0, ?_, on2, on3⟩, below_set9 bel8 (by omega) _ _ _ _ _ _ _ _ _⟩
          · rw [HP3.out]
            simp only [ShT.v, hlr, ← HD0.out, ← HD2.out, ← HD3.out]
          · rw [HP3.out]
          · simp only [← HD0.out]; exact own_down (own_set9 c0 (by omega) _ _ _ _ _ _ _ _ _) hbw
          · simp only [hlr]; exact own_down (own_set9 c1 (by omega) _ _ _ _ _ _ _ _ _) hbw
          · simp only [← HD2.out]; exact own_down (own_set9 c2 (by omega) _ _ _ _ _ _ _ _ _) hbw
          · simp only [← HD3.out]; exact own_down (own_set9 c3 (by omega) _ _ _ _ _ _ _ _ _) hbw
          · show (y.s.ra ++ [(t, v)]).length * 16 ≤ _; rw [hlr]; omega
      · have HP3 : Hid (r = (Grain.szero, 9)) := by show _ = _; rw [HP2.out, if_pos hl]
        clear HP2 hl
        go_wp2
        exact bodyPost_ret (v := .tuple #[.agg #[.slice none 0 0, .slice none 0 0, .slice none 0 0, .slice none 0 0, .int .i64 0, .int .i64 0, .int .i64 0, .int .i64 0, .int .i64 0], .int .i64 9]) (by simp [results, Try.results8, go_sem, q0, q1, q2, q3, q4, q5, q6, q7, q8]) rfl (shpost_no HP3.out (below_set9 bel4 (by omega) _ _ _ _ _ _ _ _ _))
  · have n := ne_beq z
    have HP1 : Hid (r = (Grain.szero, E)) := by show _ = _; rw [HP.out, if_pos z]
    clear HP z
    go_wp2
    exact bodyPost_ret (v := .tuple #[.agg #[.slice none 0 0, .slice none 0 0, .slice none 0 0, .slice none 0 0, .int .i64 0, .int .i64 0, .int .i64 0, .int .i64 0, .int .i64 0], .int .i64 E]) (by simp [results, Try.results8, go_sem, q0, q1, q2, q3, q4, q5, q6, q7, q8]) rfl (shpost_no HP1.out (below_set9 bel1 (by omega) _ _ _ _ _ _ _ _ _))

end Go.Proofs.Ytcgcefnfelmmkaa
