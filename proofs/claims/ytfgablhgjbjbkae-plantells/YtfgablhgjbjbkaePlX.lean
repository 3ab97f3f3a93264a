/-
  The walks of the document's own May, Covers and SameParts.
-/
import Derived.Test.YtfgablhgjbjbkaePlA
namespace Go.Proofs.Ytfgablhgjbjbkae
open Go.RowKit Go.GrainU

set_option maxRecDepth 20000 in
set_option maxHeartbeats 4000000 in
theorem rmay_any (s : Grain.Shf) (v0 v1 v2 v3 : Value) (p : Grain.Pt) (b : Bool) (w : World) (hb : b = Grain.may s p) :
    Calls Try.prog 74 #[.agg #[v0, v1, v2, v3, .int .i64 s.rf, .int .i64 s.ff, .int .i64 s.ft, .int .i64 s.cf, .int .i64 s.ct], .agg #[.int .i64 p.k, .int .i64 p.f, .int .i64 p.t]] w fun e w' => e = .returned (.bool b) ∧ Below w.heap.size w w' := by
  obtain ⟨se, ra, fi, co, rf, ff, ft, cf, ct⟩ := s
  obtain ⟨k, f, t⟩ := p
  have HB := hide hb
  clear hb
  obtain ⟨V, hV⟩ : ∃ V, V = (w.alloc (.cells #[v0, v1, v2, v3, .int .i64 rf, .int .i64 ff, .int .i64 ft, .int .i64 cf, .int .i64 ct] 44)).alloc (.cells #[.int .i64 k, .int .i64 f, .int .i64 t] 112) := ⟨_, rfl⟩
  have bel : Below w.heap.size w V := by rw [hV]; exact ((Below.refl _ _).alloc (Nat.le_refl _) _).alloc (by simp) _
  have HV := hide hV
  clear hV
  by_cases hft : t ≤ f
  · have e : b = false := by rw [HB.out]; simp [Grain.may, hft]
    subst e
    clear HB
    go_enter Try.func74, Try.ntmps74
    go_wp2
    go_ret
    rw [← HV.out]
    exact ⟨rfl, bel⟩
  · have hlt : f < t := by omega
    clear hft
    by_cases k0 : k = 0
    · subst k0
      go_enter Try.func74, Try.ntmps74
      go_wp2
      all_goals
        go_ret
        refine ⟨ret_bool ?_, by rw [← HV.out]; exact bel⟩
        rw [HB.out]
        clear HB HV bel
        rw [Bool.eq_iff_iff]
        simp [Grain.may]
        omega
    · by_cases k1 : k = 1
      · subst k1
        have H1 := hide (tmod_emod f 10)
        have H2 := hide (tmod_emod t 10)
        by_cases c1 : ff ≤ f
        · by_cases c2 : t ≤ ft
          · go_enter Try.func74, Try.ntmps74
            go_wp2
            all_goals
              go_ret
              refine ⟨ret_bool ?_, by rw [← HV.out]; exact bel⟩
              rw [HB.out]
              have h1 := H1.out
              have h2 := H2.out
              clear HB HV bel H1 H2
              rw [Bool.eq_iff_iff]
              simp [Grain.may]
              omega
          · have e : b = false := by rw [HB.out, Bool.eq_false_iff]; simp [Grain.may]; omega
            subst e
            go_enter Try.func74, Try.ntmps74
            go_wp2
            go_ret
            rw [← HV.out]
            exact ⟨rfl, bel⟩
        · have e : b = false := by rw [HB.out, Bool.eq_false_iff]; simp [Grain.may]; omega
          subst e
          go_enter Try.func74, Try.ntmps74
          go_wp2
          go_ret
          rw [← HV.out]
          exact ⟨rfl, bel⟩
      · by_cases k2 : k = 2
        · subst k2
          have H1 := hide (tmod_emod f 60)
          have H2 := hide (tmod_emod t 60)
          by_cases c1 : cf ≤ f
          · by_cases c2 : t ≤ ct
            · go_enter Try.func74, Try.ntmps74
              go_wp2
              all_goals
                go_ret
                refine ⟨ret_bool ?_, by rw [← HV.out]; exact bel⟩
                rw [HB.out]
                have h1 := H1.out
                have h2 := H2.out
                clear HB HV bel H1 H2
                rw [Bool.eq_iff_iff]
                simp [Grain.may]
                omega
            · have e : b = false := by rw [HB.out, Bool.eq_false_iff]; simp [Grain.may]; omega
              subst e
              go_enter Try.func74, Try.ntmps74
              go_wp2
              go_ret
              rw [← HV.out]
              exact ⟨rfl, bel⟩
          · have e : b = false := by rw [HB.out, Bool.eq_false_iff]; simp [Grain.may]; omega
            subst e
            go_enter Try.func74, Try.ntmps74
            go_wp2
            go_ret
            rw [← HV.out]
            exact ⟨rfl, bel⟩
        · have e : b = false := by rw [HB.out]; simp [Grain.may, k0, k1, k2]
          subst e
          have e0 : (k == 0) = false := by simpa using k0
          have e1 : (k == 1) = false := by simpa using k1
          have e2 : (k == 2) = false := by simpa using k2
          clear HB k0 k1 k2
          go_enter Try.func74, Try.ntmps74
          go_wp2
          go_ret
          rw [← HV.out]
          exact ⟨rfl, bel⟩

set_option maxRecDepth 20000 in
set_option maxHeartbeats 4000000 in
theorem rcovers_any (s : Grain.Shf) (v0 v1 v2 v3 : Value) (l : List Grain.Pt) (ao : Option Addr) (n c : Nat) (f t : Int) (b : Bool) (w : World) (hs : Seg w ao (pcells l)) (hn : n = l.length) (hL : n ≤ 1000000000000000) (hb : b = Grain.cvr s l f t) :
    Calls Try.prog 29 #[.agg #[v0, v1, v2, v3, .int .i64 s.rf, .int .i64 s.ff, .int .i64 s.ft, .int .i64 s.cf, .int .i64 s.ct], .slice ao n c, .int .i64 f, .int .i64 t] w fun e w' => e = .returned (.bool b) ∧ Below w.heap.size w w' := by
  have HN := hide hn
  have HB := hide hb
  clear hn hb
  obtain ⟨X, hX⟩ : ∃ X, X = w.heap.size := ⟨_, rfl⟩
  obtain ⟨V, hV⟩ : ∃ V, V = w.alloc (.cells #[v0, v1, v2, v3, .int .i64 s.rf, .int .i64 s.ff, .int .i64 s.ft, .int .i64 s.cf, .int .i64 s.ct] 44) := ⟨_, rfl⟩
  have bel : Below w.heap.size w V := by rw [hV]; exact (Below.refl _ _).alloc (Nat.le_refl _) _
  have S0 : V.heap[X]? = some (.cells #[v0, v1, v2, v3, .int .i64 s.rf, .int .i64 s.ff, .int .i64 s.ft, .int .i64 s.cf, .int .i64 s.ct] 44 (0, 0)) := by rw [hV, hX]; exact heap_alloc_new w _
  have hsV := hs.below bel
  have HV := hide hV
  have HX := hide hX
  clear hV hX hs
  go_enter Try.func29, Try.ntmps29
  go_wp2
  rw [← HV.out, ← HX.out]
  go_loopw [9, 15] (fun s9 i wr => ∃ (k : Nat) (a : Int), k ≤ n ∧ s9 = .int .i64 a ∧ i = .int .i64 k ∧ Hid (b = Grain.cvr s (l.drop k) a t) ∧ Below V.heap.size V wr) (fun _ i _ => n - (intOf i).toNat)
  case atStart => exact ⟨0, f, Nat.zero_le _, rfl, rfl, HB, Below.refl _ _⟩
  case round =>
    obtain ⟨k, a, hk, rfl, rfl, HC, belr⟩ := hrel
    clear HB
    by_cases hlt : k < n
    · have hkl : k < l.length := by rw [← HN.out]; exact hlt
      obtain ⟨bb, off, rfl, hbl, hcell⟩ := seg_part hsV hkl
      obtain ⟨P, hP⟩ : ∃ P, P = Grain.pt l k := ⟨_, rfl⟩
      have q := (hcell k hkl).below belr hbl
      rw [← hP] at q
      obtain ⟨c0, c1, c2⟩ := q
      obtain ⟨m, hm⟩ : ∃ m, m = Grain.may s P := ⟨_, rfl⟩
      have HD : Hid (b = (m && (decide (P.f = a) && Grain.cvr s (l.drop (k + 1)) P.t t))) := by
        show _ = _
        rw [HC.out, List.drop_eq_getElem_cons hkl, Grain.cvr, hm, hP]
        have e : Grain.pt l k = l[k] := by simp [Grain.pt, List.getD, List.getElem?_eq_getElem hkl]
        rw [e]
      have HM := hide hm
      obtain ⟨W, hW⟩ : ∃ W, W = wr.alloc (.cells #[.int .i64 P.k, .int .i64 P.f, .int .i64 P.t] 112) := ⟨_, rfl⟩
      have hbW : Below wr.heap.size wr W := by rw [hW]; exact (Below.refl _ _).alloc (Nat.le_refl _) _
      have belW : Below V.heap.size V W := below_pl hbW belr
      have P0 : W.heap[wr.heap.size]? = some (.cells #[.int .i64 P.k, .int .i64 P.f, .int .i64 P.t] 112 (0, 0)) := by rw [hW]; exact heap_alloc_new wr _
      have S1 := below_block belr S0
      obtain ⟨x0, x1, x2, x3, x4, x5, x6, x7, x8⟩ := nine9 S1
      have Xl : X < wr.heap.size := lt_of_block S1
      have HW := hide hW
      clear hW hP hm hcell HC
      go_wp2_with fail
      rw [← HW.out]
      refine (rmay_any s v0 v1 v2 v3 P m W HM.out).mono ?_
      rintro e w1 ⟨rfl, hb1⟩
      have bel1 : Below V.heap.size V w1 := below_pl hb1 belW
      obtain ⟨y0, y1, y2⟩ := three3 (below_block hb1 P0)
      clear x0 x1 x2 x3 x4 x5 x6 x7 x8 hb1 c0 c1 c2 HW P0 S1
      cases m
      · have e : b = false := by rw [HD.out]; rfl
        subst e
        go_wp2
        go_ret
        exact ⟨rfl, below_pl bel1 bel⟩
      · by_cases ha : P.f = a
        · have HC : Hid (b = Grain.cvr s (l.drop (k + 1)) P.t t) := by show _ = _; rw [HD.out]; simp [ha]
          have en : (P.f != a) = false := by simp [ha]
          clear HD ha
          go_wp2
          go_roundw
          case rel => exact ⟨k + 1, P.t, by omega, rfl, by go_num, HC, bel1⟩
          case measure => simp [intOf]; omega
        · have e : b = false := by rw [HD.out]; simp [ha]
          subst e
          have en : (P.f != a) = true := by simp [ha]
          clear HD ha
          go_wp2
          go_ret
          exact ⟨rfl, below_pl bel1 bel⟩
    · have e : b = decide (a = t) := by
        rw [HC.out, List.drop_eq_nil_of_le (by have := HN.out; omega)]; rfl
      subst e
      clear HC
      go_wp2
      go_ret
      exact ⟨ret_bool (by rw [Bool.eq_iff_iff]; simp), below_pl belr bel⟩

set_option maxRecDepth 20000 in
set_option maxHeartbeats 2000000 in
theorem psame_any (l : List Grain.Pt) (ao bo : Option Addr) (n c c' : Nat) (w : World) (ha : Seg w ao (pcells l)) (hb : Seg w bo (pcells l)) (hn : n = l.length) (hc : n ≤ 9223372036854775807) :
    Calls Try.prog 32 #[.slice ao n c, .slice bo n c'] w fun e w' => e = .returned (.bool true) ∧ Below w.heap.size w w' := by
  have HN := hide hn
  clear hn
  have hz : ((n : Int) != (n : Int)) = false := by simp
  go_enter Try.func32, Try.ntmps32
  go_wp2
  go_loopw [13] (fun i wr => ∃ (k : Nat), k ≤ n ∧ i = .int .i64 k ∧ Below w.heap.size w wr) (fun i _ => n - (intOf i).toNat)
  case atStart => exact ⟨0, Nat.zero_le _, rfl, Below.refl _ _⟩
  case round =>
    obtain ⟨k, hk, rfl, bel⟩ := hrel
    by_cases hlt : k < n
    · have hlt' : k < l.length := by rw [← HN.out]; exact hlt
      obtain ⟨b, off, rfl, hbl, hcell⟩ := seg_part ha hlt'
      obtain ⟨b', off', rfl, hbl', hcell'⟩ := seg_part hb hlt'
      obtain ⟨P, hP⟩ : ∃ P, P = Grain.pt l k := ⟨_, rfl⟩
      have q := (hcell k hlt').below bel hbl
      have q' := (hcell' k hlt').below bel hbl'
      rw [← hP] at q q'
      obtain ⟨c0, c1, c2⟩ := q
      obtain ⟨d0, d1, d2⟩ := q'
      clear hcell hcell' hlt' hP
      go_wp2
      go_quiet (fail)
      go_wp2
      go_roundw
      case rel => exact ⟨k + 1, by omega, by go_num, below_drewN bel _⟩
      case measure => simp [intOf]; omega
    · go_wp2
      go_ret
      exact ⟨rfl, bel⟩

end Go.Proofs.Ytfgablhgjbjbkae
