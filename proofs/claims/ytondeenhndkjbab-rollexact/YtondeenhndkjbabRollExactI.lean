/-
  The walk of RollExact, where it asks.
-/
import Derived.Test.YtondeenhndkjbabRollExactW
namespace Go.Proofs.Ytondeenhndkjbab
open Go.RowKit Go.GrainU

theorem win_take {l : List (Int × Int)} {k : Nat} (f t : Int) (h : k < l.length) : Grain.win (l.take (k + 1)) f t = if f ≤ Grain.tm l k ∧ Grain.tm l k < t then Grain.win (l.take k) f t ++ [(Grain.tm l k, Grain.vl l k)] else Grain.win (l.take k) f t := by
  rw [Grain.take_tm h, Grain.win_snoc]

set_option maxHeartbeats 4000000 in
theorem rexact_in (l : List (Int × Int)) (ao : Option Addr) (n cap : Nat) (tier st a b : Int) (w : World) (hs : Seg w ao (scells l)) (hn : n = l.length)
    (hw : (Grain.wrong l).1 = 0) (hst : st = stepOf tier) (hst' : st = 10 ∨ st = 60) (ha : 0 ≤ a) (hab : a ≤ b) (hb : b ≤ 1000000 / st) :
    Calls Try.prog 8 #[.slice ao n cap, .int .i64 tier, .int .i64 a, .int .i64 b] w fun e w' => e = .returned (.bool true) ∧ Below w.heap.size w w' := by
  have HN := hide hn
  clear hn
  obtain ⟨i0, hi, hz0, hz1, hz2⟩ := info_parts Try.infoSample
  have hr := Grain.right_of hw
  have h5 := hr.few
  rw [← HN.out] at h5
  have hq := hide (Grain.wrong_zero hw)
  have HST := hide hst
  have ff := xfield_err 0 0
  have HE := hide (Grain.inB_up hst' a b l (by rw [← HN.out]; omega))
  obtain ⟨r1, r2, r3⟩ := hr.up hst'
  have HB := hide (Grain.wrongB_of (by rcases hst' with e | e <;> simp [e]) r2 r1)
  clear hw hst r3 r1
  rcases hst' with rfl | rfl
  · have hb' := hb
    simp at hb'
    clear hb
    go_enter Try.func8, Try.ntmps8
    go_wp2_with fail
    refine (kalive_any _).mono ?_
    rintro e w1 ⟨rfl, bel1⟩
    have hs1 := bel1.size
    go_wp2_with (go_at_call 14; refine (step_any tier _).mono ?_; intro e w3 hh; rw [hh.1, hh.2, ← HST.out]; clear hh)
    refine (wrong_len l ao n cap _ (hs.below bel1) HN.out).mono ?_
    rintro e w2 ⟨rfl, hb2⟩
    rw [hq.out]
    have bel2 := bel1.trans (hb2.mono hs1)
    clear hb2 bel1
    go_wp2
    go_loopw [10, 43] (fun lst i wr => ∃ (k N c : Nat) (bo : Option Addr), k ≤ n ∧ i = .int .i64 k ∧ lst = .slice bo N c ∧ N ≤ k ∧ wr.ownsRow w.heap.size 29 2 (.slice bo N c) N (scells (Grain.win (l.take k) (a * 10) (b * 10))) ∧ Below w.heap.size w wr) (fun _ i _ => n - (intOf i).toNat)
    case atStart => exact ⟨0, 0, 0, none, Nat.zero_le _, rfl, rfl, Nat.le_refl _, World.ownsRow_nil _ _ _ _, bel2⟩
    case round =>
      obtain ⟨k, N, c, bo, hk, rfl, rfl, hNk, own, bel⟩ := hrel
      have hsz := bel.size
      by_cases hlt : k < n
      · have hkl : k < l.length := by rw [← HN.out]; exact hlt
        obtain ⟨bb, off, rfl, hcell⟩ := hs.sample hkl
        have hbb : bb < w.heap.size := World.block_lt_of_cell? w ⟨bb, off + k * 2, none⟩ (hcell k hkl).1
        obtain ⟨t, htm⟩ : ∃ t, t = Grain.tm l k := ⟨_, rfl⟩
        obtain ⟨v, hvl⟩ : ∃ v, v = Grain.vl l k := ⟨_, rfl⟩
        have c0 : wr.cell? ⟨bb, off + k * 2, none⟩ = some (.int .i64 t) := by rw [htm]; exact (bel.cell (by exact hbb)).trans (hcell k hkl).1
        have c1 : wr.cell? ⟨bb, off + k * 2 + 1, none⟩ = some (.int .i64 v) := by rw [hvl]; exact (bel.cell (by exact hbb)).trans (hcell k hkl).2
        have HU : Hid (Grain.win (l.take (k + 1)) (a * 10) (b * 10) = if a * 10 ≤ t ∧ t < b * 10 then Grain.win (l.take k) (a * 10) (b * 10) ++ [(t, v)] else Grain.win (l.take k) (a * 10) (b * 10)) := by rw [htm, hvl]; exact win_take _ _ hkl
        clear htm hvl hcell hkl
        by_cases g1 : a * 10 ≤ t
        · by_cases g2 : t < b * 10
          · go_wp2_with (at_builtin; refine wpList_append_lies _ rfl _ _ 27 rfl w.heap.size 29 i0 (.agg #[.int .i64 0, .int .i64 0]) 2 16 Try.underlying27 hi hz0 hz1 hz2 rfl (by decide) _ _ _ rfl ((own.alloc _).alloc _) ⟨wr.heap.size + 1, 0, none⟩ 1 1 [.int .i64 t, .int .i64 v] rfl rfl (news_two (by simp) _ _ _) (by simp [Value.oneCell']) (by decide) (by unfold maxLen; omega) (by omega) (by simp; omega) (wr.heap.size + 2) (by simp) ?_)
            intro g1' cp1 w5 own6 gr6 hat6 hlt6
            have own7 : w5.ownsRow w.heap.size 29 2 (.slice (some ⟨g1', 0, none⟩) (N + 1) cp1) (N + 1) (scells (Grain.win (l.take (k + 1)) (a * 10) (b * 10))) := by
              rw [HU.out, if_pos ⟨g1, g2⟩, scells_append]; exact own6
            have bel7 : Below w.heap.size w w5 := ((bel.alloc hsz _).alloc (by simp; omega) _).grown gr6 (by simp; omega) (fun j hj => (own.lt j hj).1)
            clear own6 gr6 hat6 hlt6 own HU
            go_wp2
            go_roundw
            case rel => exact ⟨k + 1, N + 1, cp1, _, by omega, by go_num, rfl, by omega, own7, bel7⟩
            case measure => simp [intOf]; omega
          · have own7 : (wr.alloc (.cells #[.int .i64 t, .int .i64 v] 29)).ownsRow w.heap.size 29 2 (.slice bo N c) N (scells (Grain.win (l.take (k + 1)) (a * 10) (b * 10))) := by
              rw [HU.out, if_neg (by omega)]; exact own.alloc _
            clear own HU
            go_wp2
            go_roundw
            case rel => exact ⟨k + 1, N, c, _, by omega, by go_num, rfl, by omega, own7, bel.alloc hsz _⟩
            case measure => simp [intOf]; omega
        · have own7 : (wr.alloc (.cells #[.int .i64 t, .int .i64 v] 29)).ownsRow w.heap.size 29 2 (.slice bo N c) N (scells (Grain.win (l.take (k + 1)) (a * 10) (b * 10))) := by
            rw [HU.out, if_neg (by omega)]; exact own.alloc _
          clear own HU
          go_wp2
          go_roundw
          case rel => exact ⟨k + 1, N, c, _, by omega, by go_num, rfl, by omega, own7, bel.alloc hsz _⟩
          case measure => simp [intOf]; omega
      · have he : k = n := by omega
        subst he
        have HT := hide (List.take_of_length_le (i := k) (l := l) (by rw [← HN.out]; omega))
        rw [HT.out] at own
        clear HT
        go_wp2_with fail
        refine (up_yes l ao k cap tier 10 _ (hs.below bel) HN.out (by omega) (fun j hj => by have := hr.rng j hj; omega) HST.out.symm (by decide)).mono ?_
        rintro e w3 ⟨bo3, N3, c3, rfl, own3, hb3⟩
        have ownI := own_below own hb3
        have bel3 := bel.trans (hb3.mono hsz)
        have hs3 := bel3.size
        have hN3 := hide (own_klen own3)
        have hN := hide (own_slen ownI)
        obtain ⟨q3, d3, e1, sg3, _⟩ := own_open own3
        simp at e1
        obtain ⟨rfl, rfl⟩ := e1
        obtain ⟨q4, d4, e1, sgI, _⟩ := own_open ownI
        simp at e1
        obtain ⟨rfl, rfl⟩ := e1
        clear hb3 own own3 ownI bel
        go_wp2_with fail
        refine (kwrong_any (Grain.up l 10) bo3 N3 c3 tier _ sg3 hN3.out).mono ?_
        rintro e w4 ⟨rfl, hb4⟩
        rw [← HST.out, HB.out]
        have bel4 := bel3.trans (hb4.mono hs3)
        have hs4 := bel4.size
        have sg4 := sg3.below hb4
        have sgI4 := sgI.below hb4
        clear hb4 sg3 sgI bel3
        go_wp2_with fail
        refine (kof_any (Grain.up l 10) bo3 N3 c3 (a * 10) (b * 10) _ sg4 hN3.out (by have := hN3.out; omega)).mono ?_
        rintro e w5 ⟨J, HJ, rfl, hb5⟩
        have bel5 := bel4.trans (hb5.mono hs4)
        have hs5 := bel5.size
        have sgI5 := sgI4.below hb5
        clear hb5 sg4 sgI4 bel4
        go_wp2_with fail
        refine (of_len (Grain.win l (a * 10) (b * 10)) bo N c _ sgI5 hN.out (by omega)).mono ?_
        rintro e w6 ⟨J', HJ', rfl, hb6⟩
        have hJ : J' = J := by rw [HJ'.out, HJ.out]; exact HE.out.symm
        subst hJ
        have bel6 := bel5.trans (hb6.mono hs5)
        clear hb6 sgI5 bel5 HJ HJ' HE HB
        go_wp2
        go_ret
        exact ⟨by simp, bel6⟩
  · have hb' := hb
    simp at hb'
    clear hb
    go_enter Try.func8, Try.ntmps8
    go_wp2_with fail
    refine (kalive_any _).mono ?_
    rintro e w1 ⟨rfl, bel1⟩
    have hs1 := bel1.size
    go_wp2_with (go_at_call 14; refine (step_any tier _).mono ?_; intro e w3 hh; rw [hh.1, hh.2, ← HST.out]; clear hh)
    refine (wrong_len l ao n cap _ (hs.below bel1) HN.out).mono ?_
    rintro e w2 ⟨rfl, hb2⟩
    rw [hq.out]
    have bel2 := bel1.trans (hb2.mono hs1)
    clear hb2 bel1
    go_wp2
    go_loopw [10, 43] (fun lst i wr => ∃ (k N c : Nat) (bo : Option Addr), k ≤ n ∧ i = .int .i64 k ∧ lst = .slice bo N c ∧ N ≤ k ∧ wr.ownsRow w.heap.size 29 2 (.slice bo N c) N (scells (Grain.win (l.take k) (a * 60) (b * 60))) ∧ Below w.heap.size w wr) (fun _ i _ => n - (intOf i).toNat)
    case atStart => exact ⟨0, 0, 0, none, Nat.zero_le _, rfl, rfl, Nat.le_refl _, World.ownsRow_nil _ _ _ _, bel2⟩
    case round =>
      obtain ⟨k, N, c, bo, hk, rfl, rfl, hNk, own, bel⟩ := hrel
      have hsz := bel.size
      by_cases hlt : k < n
      · have hkl : k < l.length := by rw [← HN.out]; exact hlt
        obtain ⟨bb, off, rfl, hcell⟩ := hs.sample hkl
        have hbb : bb < w.heap.size := World.block_lt_of_cell? w ⟨bb, off + k * 2, none⟩ (hcell k hkl).1
        obtain ⟨t, htm⟩ : ∃ t, t = Grain.tm l k := ⟨_, rfl⟩
        obtain ⟨v, hvl⟩ : ∃ v, v = Grain.vl l k := ⟨_, rfl⟩
        have c0 : wr.cell? ⟨bb, off + k * 2, none⟩ = some (.int .i64 t) := by rw [htm]; exact (bel.cell (by exact hbb)).trans (hcell k hkl).1
        have c1 : wr.cell? ⟨bb, off + k * 2 + 1, none⟩ = some (.int .i64 v) := by rw [hvl]; exact (bel.cell (by exact hbb)).trans (hcell k hkl).2
        have HU : Hid (Grain.win (l.take (k + 1)) (a * 60) (b * 60) = if a * 60 ≤ t ∧ t < b * 60 then Grain.win (l.take k) (a * 60) (b * 60) ++ [(t, v)] else Grain.win (l.take k) (a * 60) (b * 60)) := by rw [htm, hvl]; exact win_take _ _ hkl
        clear htm hvl hcell hkl
        by_cases g1 : a * 60 ≤ t
        · by_cases g2 : t < b * 60
          · go_wp2_with (at_builtin; refine wpList_append_lies _ rfl _ _ 27 rfl w.heap.size 29 i0 (.agg #[.int .i64 0, .int .i64 0]) 2 16 Try.underlying27 hi hz0 hz1 hz2 rfl (by decide) _ _ _ rfl ((own.alloc _).alloc _) ⟨wr.heap.size + 1, 0, none⟩ 1 1 [.int .i64 t, .int .i64 v] rfl rfl (news_two (by simp) _ _ _) (by simp [Value.oneCell']) (by decide) (by unfold maxLen; omega) (by omega) (by simp; omega) (wr.heap.size + 2) (by simp) ?_)
            intro g1' cp1 w5 own6 gr6 hat6 hlt6
            have own7 : w5.ownsRow w.heap.size 29 2 (.slice (some ⟨g1', 0, none⟩) (N + 1) cp1) (N + 1) (scells (Grain.win (l.take (k + 1)) (a * 60) (b * 60))) := by
              rw [HU.out, if_pos ⟨g1, g2⟩, scells_append]; exact own6
            have bel7 : Below w.heap.size w w5 := ((bel.alloc hsz _).alloc (by simp; omega) _).grown gr6 (by simp; omega) (fun j hj => (own.lt j hj).1)
            clear own6 gr6 hat6 hlt6 own HU
            go_wp2
            go_roundw
            case rel => exact ⟨k + 1, N + 1, cp1, _, by omega, by go_num, rfl, by omega, own7, bel7⟩
            case measure => simp [intOf]; omega
          · have own7 : (wr.alloc (.cells #[.int .i64 t, .int .i64 v] 29)).ownsRow w.heap.size 29 2 (.slice bo N c) N (scells (Grain.win (l.take (k + 1)) (a * 60) (b * 60))) := by
              rw [HU.out, if_neg (by omega)]; exact own.alloc _
            clear own HU
            go_wp2
            go_roundw
            case rel => exact ⟨k + 1, N, c, _, by omega, by go_num, rfl, by omega, own7, bel.alloc hsz _⟩
            case measure => simp [intOf]; omega
        · have own7 : (wr.alloc (.cells #[.int .i64 t, .int .i64 v] 29)).ownsRow w.heap.size 29 2 (.slice bo N c) N (scells (Grain.win (l.take (k + 1)) (a * 60) (b * 60))) := by
            rw [HU.out, if_neg (by omega)]; exact own.alloc _
          clear own HU
          go_wp2
          go_roundw
          case rel => exact ⟨k + 1, N, c, _, by omega, by go_num, rfl, by omega, own7, bel.alloc hsz _⟩
          case measure => simp [intOf]; omega
      · have he : k = n := by omega
        subst he
        have HT := hide (List.take_of_length_le (i := k) (l := l) (by rw [← HN.out]; omega))
        rw [HT.out] at own
        clear HT
        go_wp2_with fail
        refine (up_yes l ao k cap tier 60 _ (hs.below bel) HN.out (by omega) (fun j hj => by have := hr.rng j hj; omega) HST.out.symm (by decide)).mono ?_
        rintro e w3 ⟨bo3, N3, c3, rfl, own3, hb3⟩
        have ownI := own_below own hb3
        have bel3 := bel.trans (hb3.mono hsz)
        have hs3 := bel3.size
        have hN3 := hide (own_klen own3)
        have hN := hide (own_slen ownI)
        obtain ⟨q3, d3, e1, sg3, _⟩ := own_open own3
        simp at e1
        obtain ⟨rfl, rfl⟩ := e1
        obtain ⟨q4, d4, e1, sgI, _⟩ := own_open ownI
        simp at e1
        obtain ⟨rfl, rfl⟩ := e1
        clear hb3 own own3 ownI bel
        go_wp2_with fail
        refine (kwrong_any (Grain.up l 60) bo3 N3 c3 tier _ sg3 hN3.out).mono ?_
        rintro e w4 ⟨rfl, hb4⟩
        rw [← HST.out, HB.out]
        have bel4 := bel3.trans (hb4.mono hs3)
        have hs4 := bel4.size
        have sg4 := sg3.below hb4
        have sgI4 := sgI.below hb4
        clear hb4 sg3 sgI bel3
        go_wp2_with fail
        refine (kof_any (Grain.up l 60) bo3 N3 c3 (a * 60) (b * 60) _ sg4 hN3.out (by have := hN3.out; omega)).mono ?_
        rintro e w5 ⟨J, HJ, rfl, hb5⟩
        have bel5 := bel4.trans (hb5.mono hs4)
        have hs5 := bel5.size
        have sgI5 := sgI4.below hb5
        clear hb5 sg4 sgI4 bel4
        go_wp2_with fail
        refine (of_len (Grain.win l (a * 60) (b * 60)) bo N c _ sgI5 hN.out (by omega)).mono ?_
        rintro e w6 ⟨J', HJ', rfl, hb6⟩
        have hJ : J' = J := by rw [HJ'.out, HJ.out]; exact HE.out.symm
        subst hJ
        have bel6 := bel5.trans (hb6.mono hs5)
        clear hb6 sgI5 bel5 HJ HJ' HE HB
        go_wp2
        go_ret
        exact ⟨by simp, bel6⟩

end Go.Proofs.Ytondeenhndkjbab
