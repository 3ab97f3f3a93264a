/-
  The walks of Value and Words.
-/
import Derived.Test.YthohkokhimdamaaGreatP36
import Derived.Test.YthohkokhimdamaaGreatP22
/-
  The walk of the document's Of.
-/
namespace Go.Proofs.YthohkokhimdamaaGreat
open Go.RowKit Go.GrainU

/-- the sum of the document's loop, k samples behind it: count, first and last are told at once -/
def rs (l : List (Int × Int)) (k : Nat) : Grain.Sm :=
  if k = 0 then ⟨l.length, 0, Grain.vl l 0, Grain.vl l 0, Grain.vl l 0, Grain.vl l (l.length - 1), 0⟩
  else ⟨l.length, (Grain.ofN l k).t, (Grain.ofN l k).mn, (Grain.ofN l k).mx, Grain.vl l 0, Grain.vl l (l.length - 1), (Grain.ofN l k).r⟩

theorem ofN_fl (l : List (Int × Int)) : ∀ k : Nat, k + 1 ≤ 1152921504606846976 → (Grain.ofN l (k + 1)).f = Grain.vl l 0 ∧ (Grain.ofN l (k + 1)).l = Grain.vl l k := by
  intro k
  induction k with
  | zero => intro _; rw [Grain.ofN, Grain.ofN, Grain.join_zero_left _ _ rfl]; exact ⟨rfl, rfl⟩
  | succ k ih =>
    intro h
    have ih := ih (by omega)
    have hc := Grain.ofN_c l (k + 1) (by omega)
    rw [Grain.ofN, Grain.join_full _ _ (by omega) (by simp [Grain.one])]
    exact ⟨ih.1, rfl⟩

theorem rs_end (l : List (Int × Int)) (h0 : 0 < l.length) (h1 : l.length ≤ 1152921504606846975) : rs l l.length = Grain.of l := by
  unfold rs Grain.of
  rw [if_neg (by omega)]
  obtain ⟨k, hk⟩ : ∃ k, l.length = k + 1 := ⟨l.length - 1, by omega⟩
  have hc := Grain.ofN_c l l.length (by omega)
  have hf := ofN_fl l k (by omega)
  rw [← hk] at hf
  apply Grain.Sm.ext
  · exact hc.symm
  · rfl
  · rfl
  · rfl
  · exact hf.1.symm
  · show Grain.vl l (l.length - 1) = _; rw [hf.2, hk]; rfl
  · rfl

/-- a sample more, behind the first one -/
theorem rs_next (l : List (Int × Int)) (k : Nat) (hk : k + 1 ≤ 1152921504606846975) :
    rs l (k + 1 + 1) = ⟨(rs l (k + 1)).c, Grain.wr ((rs l (k + 1)).t + Grain.vl l (k + 1)), if Grain.vl l (k + 1) < (rs l (k + 1)).mn then Grain.vl l (k + 1) else (rs l (k + 1)).mn, if (rs l (k + 1)).mx < Grain.vl l (k + 1) then Grain.vl l (k + 1) else (rs l (k + 1)).mx, (rs l (k + 1)).f, (rs l (k + 1)).l, Grain.wr ((rs l (k + 1)).r + Grain.rise (Grain.vl l k) (Grain.vl l (k + 1)))⟩ := by
  have hc := Grain.ofN_c l (k + 1) (by omega)
  have hf := ofN_fl l k (by omega)
  unfold rs
  rw [if_neg (by omega), if_neg (by omega), Grain.ofN, Grain.join_full _ _ (by omega) (by simp [Grain.one])]
  apply Grain.Sm.ext
  · rfl
  · rfl
  · rfl
  · rfl
  · rfl
  · rfl
  · show Grain.wr (Grain.wr ((Grain.ofN l (k + 1)).r + Grain.rise (Grain.ofN l (k + 1)).l (Grain.vl l (k + 1))) + 0) = Grain.wr ((Grain.ofN l (k + 1)).r + Grain.rise (Grain.vl l k) (Grain.vl l (k + 1)))
    rw [hf.2]
    simp only [Grain.wr_eq]
    omega

/-- the first one -/
theorem rs_first (l : List (Int × Int)) (h0 : -9223372036854775808 ≤ Grain.vl l 0) (h1 : Grain.vl l 0 ≤ 9223372036854775807) :
    rs l 1 = ⟨(rs l 0).c, Grain.wr ((rs l 0).t + Grain.vl l 0), (rs l 0).mn, (rs l 0).mx, (rs l 0).f, (rs l 0).l, (rs l 0).r⟩ := by
  unfold rs
  rw [if_neg (by omega), if_pos rfl, show Grain.ofN l 1 = Grain.one (Grain.vl l 0) from by rw [Grain.ofN, Grain.ofN, Grain.join_zero_left _ _ rfl]]
  apply Grain.Sm.ext
  · rfl
  · show Grain.vl l 0 = Grain.wr (0 + Grain.vl l 0); rw [Int.zero_add, Grain.wr_in h0 h1]
  · rfl
  · rfl
  · rfl
  · rfl
  · rfl

theorem OfInv.one {w V : World} {s s' : Grain.Sm} {i : Nat} {z : Value} (I : OfInv w V s) (h : SumAt (V.setCell ⟨w.heap.size + 1, i, none⟩ z) (w.heap.size + 1) s') : OfInv w (V.setCell ⟨w.heap.size + 1, i, none⟩ z) s' :=
  ⟨by unfold SumAt; rw [setCell_far (by omega)]; exact I.res, h, I.bel.setCell (by simp) _⟩
theorem OfInv.tot {w V : World} {s : Grain.Sm} (I : OfInv w V s) (z : Int) : OfInv w (V.setCell ⟨w.heap.size + 1, 1, none⟩ (.int .i64 z)) ⟨s.c, z, s.mn, s.mx, s.f, s.l, s.r⟩ :=
  I.one (by have h := I.cur; unfold SumAt at h ⊢; simp [World.setCell, Array.getElem?_modify, h])
theorem OfInv.min {w V : World} {s : Grain.Sm} (I : OfInv w V s) (z : Int) : OfInv w (V.setCell ⟨w.heap.size + 1, 2, none⟩ (.int .i64 z)) ⟨s.c, s.t, z, s.mx, s.f, s.l, s.r⟩ :=
  I.one (by have h := I.cur; unfold SumAt at h ⊢; simp [World.setCell, Array.getElem?_modify, h])
theorem OfInv.max {w V : World} {s : Grain.Sm} (I : OfInv w V s) (z : Int) : OfInv w (V.setCell ⟨w.heap.size + 1, 3, none⟩ (.int .i64 z)) ⟨s.c, s.t, s.mn, z, s.f, s.l, s.r⟩ :=
  I.one (by have h := I.cur; unfold SumAt at h ⊢; simp [World.setCell, Array.getElem?_modify, h])
theorem OfInv.ris {w V : World} {s : Grain.Sm} (I : OfInv w V s) (z : Int) : OfInv w (V.setCell ⟨w.heap.size + 1, 6, none⟩ (.int .i64 z)) ⟨s.c, s.t, s.mn, s.mx, s.f, s.l, z⟩ :=
  I.one (by have h := I.cur; unfold SumAt at h ⊢; simp [World.setCell, Array.getElem?_modify, h])

set_option maxHeartbeats 1000000 in
theorem rof_none (ao : Option Addr) (cap : Nat) (w : World) :
    Calls Tryz.prog 18 #[.slice ao 0 cap] w fun e w' => e = .returned (sv Grain.zero) ∧ Below w.heap.size w w' := by
  go_enter Tryz.func18, Tryz.ntmps18
  go_wp2
  exact bodyPost_ret (v := sv Grain.zero) (by simp [results, Tryz.results18, go_sem, sv, Grain.zero]) rfl ⟨rfl, by go_grown⟩

set_option maxHeartbeats 4000000 in
theorem rof_some (l : List (Int × Int)) (b off n cap : Nat) (w : World) (hs : Seg w (some ⟨b, off, none⟩) (scells l)) (hn : n = l.length) (h0 : 0 < n) (hL : n ≤ 1152921504606846975)
    (hv : ∀ j, j < n → -9223372036854775808 ≤ Grain.vl l j ∧ Grain.vl l j ≤ 9223372036854775807) :
    Calls Tryz.prog 18 #[.slice (some ⟨b, off, none⟩) n cap] w fun e w' => e = .returned (sv (Grain.of l)) ∧ Below w.heap.size w w' := by
  have Hn := hide hn
  have Hv := hide hv
  obtain ⟨b', off', e, hcell⟩ := hs.sample (k := 0) (by omega)
  simp at e
  obtain ⟨rfl, rfl⟩ := e
  have HC := hide hcell
  have hb : b < w.heap.size := World.block_lt_of_cell? w ⟨b, off + 0 * 2, none⟩ (hcell 0 (by omega)).1
  have c0 : w.cell? ⟨b, off + 1, none⟩ = some (.int .i64 (Grain.vl l 0)) := by simpa using (hcell 0 (by omega)).2
  obtain ⟨m, hm⟩ : ∃ m, m = n - 1 := ⟨_, rfl⟩
  have c1 : w.cell? ⟨b, off + m * 2 + 1, none⟩ = some (.int .i64 (Grain.vl l m)) := (hcell m (by omega)).2
  clear hn hv hcell
  have hq : (((n : Nat) : Int) == 0) = false := by simp; omega
  have hn1 : (0 : Int) < ((n : Nat) : Int) := by omega
  have k1 : IntKind.i64.wrap (((n : Nat) : Int) - 1) = ((m : Nat) : Int) := by rw [IntWalk.i64_in _ ⟨by omega, by omega⟩]; omega
  have m1 : (0 : Int) ≤ ((m : Nat) : Int) := by omega
  have m2 : ((m : Nat) : Int) < ((n : Nat) : Int) := by omega
  have m3 : m < n := by omega
  have Hm := hide hm
  clear hm
  obtain ⟨W, hW, F, d0, d1, bel, hWs⟩ : ∃ W, W = w.alloc (.cells #[.int .i64 0, .int .i64 0, .int .i64 0, .int .i64 0, .int .i64 0, .int .i64 0, .int .i64 0] 46) ∧ SumAt W w.heap.size Grain.zero ∧ W.cell? ⟨b, off + 1, none⟩ = some (.int .i64 (Grain.vl l 0)) ∧ W.cell? ⟨b, off + m * 2 + 1, none⟩ = some (.int .i64 (Grain.vl l m)) ∧ Below w.heap.size w W ∧ W.heap.size = w.heap.size + 1 :=
    ⟨_, rfl, heap_alloc_new w _, (World.cell?_alloc_lt _ _ _ hb).trans c0, (World.cell?_alloc_lt _ _ _ hb).trans c1, (Below.refl _ _).alloc (Nat.le_refl _) _, by simp⟩
  have HW := hide hW
  have HWs := hide hWs
  have n1 : ¬ (b = W.heap.size) := by omega
  have n2 : ¬ (W.heap.size = b) := by omega
  clear hW c0 c1 hWs
  go_enter Tryz.func18, Tryz.ntmps18
  go_wp2_with fail
  rw [← HW.out]
  go_region_held3 (fun w' => w'.cell? ⟨b, off + 1, none⟩ = some (.int .i64 (Grain.vl l 0)) ∧ w'.cell? ⟨b, off + m * 2 + 1, none⟩ = some (.int .i64 (Grain.vl l m))) (go_keep) (fail)
  have IS : Hid (OfInv w (W.alloc (.cells #[.int .i64 n, .int .i64 0, .int .i64 (Grain.vl l 0), .int .i64 (Grain.vl l 0), .int .i64 (Grain.vl l 0), .int .i64 (Grain.vl l m), .int .i64 0] 46)).drew (rs l 0)) := by
    have e : rs l 0 = ⟨n, 0, Grain.vl l 0, Grain.vl l 0, Grain.vl l 0, Grain.vl l m, 0⟩ := by unfold rs; rw [if_pos rfl, Hm.out, Hn.out]
    rw [e]
    refine ⟨?_, ?_, below_drewN (bel.alloc bel.size _) 1⟩
    · show (W.alloc _).heap[_]? = _
      rw [Below.heap_alloc _ _ _ (by rw [HWs.out]; omega)]; exact F
    · have := heap_alloc_new W (.cells #[.int .i64 n, .int .i64 0, .int .i64 (Grain.vl l 0), .int .i64 (Grain.vl l 0), .int .i64 (Grain.vl l 0), .int .i64 (Grain.vl l m), .int .i64 0] 46)
      rw [HWs.out] at this
      exact this
  clear F d0 d1 bel n1 n2 k1 m1 m2 m3
  go_wp2
  rw [HWs.out]
  go_loopw [34] (fun i wr => ∃ (k : Nat) (s : Grain.Sm), k ≤ n ∧ i = .int .i64 k ∧ Hid (s = rs l k) ∧ OfInv w wr s) (fun i _ => n - (intOf i).toNat)
  case atStart => exact ⟨0, _, Nat.zero_le _, rfl, rfl, IS.out⟩
  case round =>
    obtain ⟨k, s, hk, rfl, HS, I⟩ := hrel
    by_cases hlt : k < n
    · have hkl : k < l.length := by rw [← Hn.out]; exact hlt
      have c0 : wr.cell? ⟨b, off + k * 2, none⟩ = some (.int .i64 (Grain.tm l k)) := (I.bel.cell (by exact hb)).trans (HC.out k hkl).1
      have c1 : wr.cell? ⟨b, off + k * 2 + 1, none⟩ = some (.int .i64 (Grain.vl l k)) := (I.bel.cell (by exact hb)).trans (HC.out k hkl).2
      have rng := Hv.out k hlt
      have lD := lt_of_block I.cur
      obtain ⟨s0, s1, s2, s3, s4, s5, s6⟩ := I.cur.cells
      obtain ⟨f0, f1, f2, f3, f4, f5, f6⟩ := seven_thaw I.cur
      have nx : ¬ (wr.heap.size = w.heap.size + 1) := by omega
      have ny : ¬ (w.heap.size + 1 = wr.heap.size) := by omega
      have I1 := I.tot (wrap64 (s.t + Grain.vl l k))
      by_cases hk0 : k = 0
      · have e0 : s.mn = Grain.vl l k ∧ s.mx = Grain.vl l k := by rw [HS.out, hk0]; exact ⟨rfl, rfl⟩
        obtain ⟨V, hV, IV, _, _, _⟩ := I1.next (.int .i64 (Grain.tm l k)) (.int .i64 (Grain.vl l k))
        rw [hV] at IV
        have HN : Hid ((⟨s.c, wrap64 (s.t + Grain.vl l k), s.mn, s.mx, s.f, s.l, s.r⟩ : Grain.Sm) = rs l (k + 1)) := by
          show (⟨s.c, wrap64 (s.t + Grain.vl l k), s.mn, s.mx, s.f, s.l, s.r⟩ : Grain.Sm) = rs l (k + 1)
          subst hk0
          rw [rs_first l rng.1 rng.2, HS.out]
          simp [Grain.wr, IntWalk.i64_left]
        have t1 : decide (Grain.vl l k < s.mn) = false := by rw [e0.1]; simp
        have t2 : decide (s.mx < Grain.vl l k) = false := by rw [e0.2]; simp
        have hk0' : k ≤ 0 := by omega
        clear e0 hV I1 hk0 I
        go_wp2
        go_roundw
        case rel => exact ⟨k + 1, _, by omega, by go_num, HN, IV⟩
        case measure => simp [intOf]; omega
      · obtain ⟨j, hj⟩ : ∃ j, k = j + 1 := ⟨k - 1, by omega⟩
        have Hj := hide hj
        have hp : 0 < k := by omega
        have kk : IntKind.i64.wrap (((k : Nat) : Int) - 1) = ((j : Nat) : Int) := by rw [IntWalk.i64_in _ ⟨by omega, by omega⟩]; omega
        have j1 : (0 : Int) ≤ ((j : Nat) : Int) := by omega
        have j2 : ((j : Nat) : Int) < ((n : Nat) : Int) := by omega
        have j3 : j < n := by omega
        have HNX : Hid (∀ mn mx r : Int, mn = (if Grain.vl l k < s.mn then Grain.vl l k else s.mn) → mx = (if s.mx < Grain.vl l k then Grain.vl l k else s.mx) → r = IntKind.i64.wrap (s.r + Grain.rise (Grain.vl l j) (Grain.vl l k)) → (⟨s.c, wrap64 (s.t + Grain.vl l k), mn, mx, s.f, s.l, r⟩ : Grain.Sm) = rs l (k + 1)) := by
          intro mn mx r h1 h2 h3
          rw [h1, h2, h3, Hj.out, rs_next l j (by omega), HS.out, Hj.out]
          simp [Grain.wr, IntWalk.i64_left]
        clear hj hk0
        have hjl : j < l.length := by rw [← Hn.out]; exact j3
        by_cases q1 : Grain.vl l k < s.mn
        · by_cases q2 : s.mx < Grain.vl l k
          · skip
            have HQ : Hid (∀ r : Int, r = IntKind.i64.wrap (s.r + Grain.rise (Grain.vl l j) (Grain.vl l k)) → (⟨s.c, wrap64 (s.t + Grain.vl l k), Grain.vl l k, Grain.vl l k, s.f, s.l, r⟩ : Grain.Sm) = rs l (k + 1)) := fun r hr => HNX.out _ _ r (by simp [q1]) (by simp [q2]) hr
            obtain ⟨U, hU, IU, G, _, _⟩ := ((I1.min (Grain.vl l k)).max (Grain.vl l k)).next (.int .i64 (Grain.tm l k)) (.int .i64 (Grain.vl l k))
            have x1 : U.cell? ⟨wr.heap.size, 1, none⟩ = some (.int .i64 (Grain.vl l k)) := by
              have := (two_cells G).2.1
              simpa using this
            have lc : U.cell? ⟨b, off + j * 2 + 1, none⟩ = some (.int .i64 (Grain.vl l j)) := (IU.bel.cell (by exact hb)).trans (HC.out j (by omega)).2
            have u6 := IU.cur.cells.2.2.2.2.2.2
            have g6 := (seven_thaw IU.cur).2.2.2.2.2.2
            have HQ' := hide (HQ.out (wrap64 (s.r + Grain.rise (Grain.vl l j) (Grain.vl l k))) (by simp [IntWalk.i64_left]))
            have IR := (IU.ris (wrap64 (s.r + Grain.rise (Grain.vl l j) (Grain.vl l k)))).drew
            have HU := hide hU
            clear HQ
            clear hU G I I1 HNX
            go_wp2_with fail
            rw [← HU.out]
            clear s0 s1 s2 s3 s4 s5 s6 f0 f1 f2 f3 f4 f5 f6 c0 c1 q1 q2 HU
            go_region_with
              (first
                | (go_at_call 42; refine (up_any _ _ _).mono ?_; rintro e w' ⟨rfl, rfl⟩))
            all_goals
              go_wp2
              go_roundw
              case rel => exact ⟨k + 1, _, by omega, by go_num, HQ', IR⟩
              case measure => simp [intOf]; omega
          · skip
            have HQ : Hid (∀ r : Int, r = IntKind.i64.wrap (s.r + Grain.rise (Grain.vl l j) (Grain.vl l k)) → (⟨s.c, wrap64 (s.t + Grain.vl l k), Grain.vl l k, s.mx, s.f, s.l, r⟩ : Grain.Sm) = rs l (k + 1)) := fun r hr => HNX.out _ _ r (by simp [q1]) (by simp [q2]) hr
            obtain ⟨U, hU, IU, G, _, _⟩ := (I1.min (Grain.vl l k)).next (.int .i64 (Grain.tm l k)) (.int .i64 (Grain.vl l k))
            have x1 : U.cell? ⟨wr.heap.size, 1, none⟩ = some (.int .i64 (Grain.vl l k)) := by
              have := (two_cells G).2.1
              simpa using this
            have lc : U.cell? ⟨b, off + j * 2 + 1, none⟩ = some (.int .i64 (Grain.vl l j)) := (IU.bel.cell (by exact hb)).trans (HC.out j (by omega)).2
            have u6 := IU.cur.cells.2.2.2.2.2.2
            have g6 := (seven_thaw IU.cur).2.2.2.2.2.2
            have HQ' := hide (HQ.out (wrap64 (s.r + Grain.rise (Grain.vl l j) (Grain.vl l k))) (by simp [IntWalk.i64_left]))
            have IR := (IU.ris (wrap64 (s.r + Grain.rise (Grain.vl l j) (Grain.vl l k)))).drew
            have HU := hide hU
            clear HQ
            clear hU G I I1 HNX
            go_wp2_with fail
            rw [← HU.out]
            clear s0 s1 s2 s3 s4 s5 s6 f0 f1 f2 f3 f4 f5 f6 c0 c1 q1 q2 HU
            go_region_with
              (first
                | (go_at_call 42; refine (up_any _ _ _).mono ?_; rintro e w' ⟨rfl, rfl⟩))
            all_goals
              go_wp2
              go_roundw
              case rel => exact ⟨k + 1, _, by omega, by go_num, HQ', IR⟩
              case measure => simp [intOf]; omega
        · by_cases q2 : s.mx < Grain.vl l k
          · skip
            have HQ : Hid (∀ r : Int, r = IntKind.i64.wrap (s.r + Grain.rise (Grain.vl l j) (Grain.vl l k)) → (⟨s.c, wrap64 (s.t + Grain.vl l k), s.mn, Grain.vl l k, s.f, s.l, r⟩ : Grain.Sm) = rs l (k + 1)) := fun r hr => HNX.out _ _ r (by simp [q1]) (by simp [q2]) hr
            obtain ⟨U, hU, IU, G, _, _⟩ := (I1.max (Grain.vl l k)).next (.int .i64 (Grain.tm l k)) (.int .i64 (Grain.vl l k))
            have x1 : U.cell? ⟨wr.heap.size, 1, none⟩ = some (.int .i64 (Grain.vl l k)) := by
              have := (two_cells G).2.1
              simpa using this
            have lc : U.cell? ⟨b, off + j * 2 + 1, none⟩ = some (.int .i64 (Grain.vl l j)) := (IU.bel.cell (by exact hb)).trans (HC.out j (by omega)).2
            have u6 := IU.cur.cells.2.2.2.2.2.2
            have g6 := (seven_thaw IU.cur).2.2.2.2.2.2
            have HQ' := hide (HQ.out (wrap64 (s.r + Grain.rise (Grain.vl l j) (Grain.vl l k))) (by simp [IntWalk.i64_left]))
            have IR := (IU.ris (wrap64 (s.r + Grain.rise (Grain.vl l j) (Grain.vl l k)))).drew
            have HU := hide hU
            clear HQ
            clear hU G I I1 HNX
            go_wp2_with fail
            rw [← HU.out]
            clear s0 s1 s2 s3 s4 s5 s6 f0 f1 f2 f3 f4 f5 f6 c0 c1 q1 q2 HU
            go_region_with
              (first
                | (go_at_call 42; refine (up_any _ _ _).mono ?_; rintro e w' ⟨rfl, rfl⟩))
            all_goals
              go_wp2
              go_roundw
              case rel => exact ⟨k + 1, _, by omega, by go_num, HQ', IR⟩
              case measure => simp [intOf]; omega
          · skip
            have HQ : Hid (∀ r : Int, r = IntKind.i64.wrap (s.r + Grain.rise (Grain.vl l j) (Grain.vl l k)) → (⟨s.c, wrap64 (s.t + Grain.vl l k), s.mn, s.mx, s.f, s.l, r⟩ : Grain.Sm) = rs l (k + 1)) := fun r hr => HNX.out _ _ r (by simp [q1]) (by simp [q2]) hr
            obtain ⟨U, hU, IU, G, _, _⟩ := (I1).next (.int .i64 (Grain.tm l k)) (.int .i64 (Grain.vl l k))
            have x1 : U.cell? ⟨wr.heap.size, 1, none⟩ = some (.int .i64 (Grain.vl l k)) := by
              have := (two_cells G).2.1
              simpa using this
            have lc : U.cell? ⟨b, off + j * 2 + 1, none⟩ = some (.int .i64 (Grain.vl l j)) := (IU.bel.cell (by exact hb)).trans (HC.out j (by omega)).2
            have u6 := IU.cur.cells.2.2.2.2.2.2
            have g6 := (seven_thaw IU.cur).2.2.2.2.2.2
            have HQ' := hide (HQ.out (wrap64 (s.r + Grain.rise (Grain.vl l j) (Grain.vl l k))) (by simp [IntWalk.i64_left]))
            have IR := (IU.ris (wrap64 (s.r + Grain.rise (Grain.vl l j) (Grain.vl l k)))).drew
            have HU := hide hU
            clear HQ
            clear hU G I I1 HNX
            go_wp2_with fail
            rw [← HU.out]
            clear s0 s1 s2 s3 s4 s5 s6 f0 f1 f2 f3 f4 f5 f6 c0 c1 q1 q2 HU
            go_region_with
              (first
                | (go_at_call 42; refine (up_any _ _ _).mono ?_; rintro e w' ⟨rfl, rfl⟩))
            all_goals
              go_wp2
              go_roundw
              case rel => exact ⟨k + 1, _, by omega, by go_num, HQ', IR⟩
              case measure => simp [intOf]; omega
    · have he : k = n := by omega
      subst he
      have HE : Hid (s = Grain.of l) := by
        show s = Grain.of l
        rw [HS.out, Hn.out]
        exact rs_end l (by rw [← Hn.out]; exact h0) (by rw [← Hn.out]; exact hL)
      obtain ⟨s0, s1, s2, s3, s4, s5, s6⟩ := I.cur.cells
      obtain ⟨z0, z1, z2, z3, z4, z5, z6⟩ := seven_cells I.res
      obtain ⟨r0, r1, r2, r3, r4, r5, r6⟩ := seven_thaw I.res
      clear HS
      go_wp2
      exact bodyPost_ret (v := sv s) (by simp [results, Tryz.results18, go_sem, sv, z0, z1, z2, z3, z4, z5, z6]) rfl ⟨by rw [HE.out], below_set7 I.bel (Nat.le_refl _) _ _ _ _ _ _ _⟩

end Go.Proofs.YthohkokhimdamaaGreat

/-
  The walks of Value and Words.
-/
namespace Go.Proofs.YthohkokhimdamaaGreat
open Go.RowKit Go.GrainU

def wAvg : ByteArray := ⟨#[97, 118, 103]⟩
def wCount : ByteArray := ⟨#[99, 111, 117, 110, 116]⟩
def wFirst : ByteArray := ⟨#[102, 105, 114, 115, 116]⟩
def wLast : ByteArray := ⟨#[108, 97, 115, 116]⟩
def wMax : ByteArray := ⟨#[109, 97, 120]⟩
def wMin : ByteArray := ⟨#[109, 105, 110]⟩
def wRise : ByteArray := ⟨#[114, 105, 115, 101]⟩
def wSum : ByteArray := ⟨#[115, 117, 109]⟩

/-- what a word says of a sum -/
def val (b : ByteArray) (s : Grain.Sm) : Int × Bool :=
  if s.c < 1 then (0, false) else if b == ⟨#[97, 118, 103]⟩ then (s.t.tdiv s.c, true) else if b == ⟨#[99, 111, 117, 110, 116]⟩ then (s.c, true) else if b == ⟨#[102, 105, 114, 115, 116]⟩ then (s.f, true) else if b == ⟨#[108, 97, 115, 116]⟩ then (s.l, true)
  else if b == ⟨#[109, 97, 120]⟩ then (s.mx, true) else if b == ⟨#[109, 105, 110]⟩ then (s.mn, true) else if b == ⟨#[114, 105, 115, 101]⟩ then (s.r, true) else if b == ⟨#[115, 117, 109]⟩ then (s.t, true) else (0, false)

set_option maxHeartbeats 1000000 in
theorem value_rise (s : Grain.Sm) (w : World) (h : 1 ≤ s.c) :
    Calls Tryz.prog 56 #[.string ⟨#[114, 105, 115, 101]⟩, .agg #[.int .i64 s.c, .int .i64 s.t, .int .i64 s.mn, .int .i64 s.mx, .int .i64 s.f, .int .i64 s.l, .int .i64 s.r]] w fun e w' => e = .returned (.tuple #[.int .i64 s.r, .bool true]) ∧ Below w.heap.size w w' := by
  go_enter Tryz.func56, Tryz.ntmps56
  go_wp2
  exact bodyPost_ret (v := .tuple #[.int .i64 s.r, .bool true]) (by simp [results, Tryz.results56, go_sem]) rfl ⟨rfl, by go_grown⟩

set_option maxHeartbeats 1000000 in
theorem words_any (w : World) :
    Calls Tryz.prog 99 #[] w fun e w' => ∃ g, e = .returned (.slice (some ⟨g, 0, none⟩) 8 8) ∧ g = w.heap.size ∧ w' = w.alloc (.cells #[.string wAvg, .string wCount, .string wFirst, .string wLast, .string wMax, .string wMin, .string wRise, .string wSum] 9) := by
  go_enter Tryz.func99, Tryz.ntmps99
  go_wp2
  go_ret
  exact ⟨_, rfl, rfl, rfl⟩

end Go.Proofs.YthohkokhimdamaaGreat
