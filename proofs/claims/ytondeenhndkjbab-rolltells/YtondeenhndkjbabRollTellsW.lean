/-
  The walk of RollTells.
-/
import Derived.Test.YtondeenhndkjbabRollSame
import Derived.Test.YtondeenhndkjbabRefWrong
import Derived.Test.YtondeenhndkjbabRefWB
import Derived.Test.YtondeenhndkjbabRefBk
import Derived.Test.YtondeenhndkjbabRollOf
import Derived.Deep.CutRange
namespace Go.Proofs.Ytondeenhndkjbab
open Go.RowKit Go.GrainU

theorem tfield_err (x y : Int) (w : World) : (Instr.field 44 (.agg #[.int .i64 x, .int .i64 y]) 0).run Try.prog w = .ok (.int .i64 x) w := by
  simp [Instr.field, go_sem, asAgg]

theorem kwrong_k (B : List Grain.Bk) (ao : Option Addr) (n cap : Nat) (tier x y : Int) (w : World) (hs : Seg w ao (kcells B)) (hn : n = B.length) (hx : x = (Grain.wrongB B (stepOf tier)).1) (hy : y = (Grain.wrongB B (stepOf tier)).2) :
    Calls Try.prog 15 #[.slice ao n cap, .int .i64 tier] w fun e w' => e = .returned (.agg #[.int .i64 x, .int .i64 y]) ∧ Below w.heap.size w w' := by
  rw [hx, hy]; exact kwrong_any B ao n cap tier w hs hn

theorem rwb_k (B : List Grain.Bk) (ao : Option Addr) (n cap : Nat) (tier x y : Int) (w : World) (hs : Seg w ao (kcells B)) (hn : n = B.length) (hx : x = (Grain.wrongB B (stepOf tier)).1) (hy : y = (Grain.wrongB B (stepOf tier)).2) :
    Calls Try.prog 16 #[.slice ao n cap, .int .i64 tier] w fun e w' => e = .returned (.agg #[.int .i64 x, .int .i64 y]) ∧ Below w.heap.size w w' := by
  rw [hx, hy]; exact rwb_any B ao n cap tier w hs hn

set_option maxHeartbeats 4000000 in
theorem rtells_any (l : List (Int × Int)) (ao : Option Addr) (n cap : Nat) (B : List Grain.Bk) (bo : Option Addr) (m c : Nat) (tier f t : Int) (w : World) (hs : Seg w ao (scells l)) (hn : n = l.length) (hcap : n ≤ cap) (hcm : cap ≤ maxLen) (hb : Seg w bo (kcells B)) (hm : m = B.length) :
    Calls Try.prog 6 #[.slice ao n cap, .slice bo m c, .int .i64 tier, .int .i64 f, .int .i64 t] w fun e w' => e = .returned (.bool true) ∧ Below w.heap.size w w' := by
  have HN := hide hn
  have HM := hide hm
  clear hn hm
  obtain ⟨st, hst⟩ : ∃ st, st = stepOf tier := ⟨_, rfl⟩
  obtain ⟨x, hx⟩ : ∃ x, x = (Grain.wrongB B (stepOf tier)).1 := ⟨_, rfl⟩
  obtain ⟨y, hy⟩ : ∃ y, y = (Grain.wrongB B (stepOf tier)).2 := ⟨_, rfl⟩
  have HX := hide hx
  have HY := hide hy
  have hmm := @run_makeMap Try.prog
  have m1 : (Instr.mapUpdate 41 (.map (some w.heap.size)) (.int .i64 1) (.int .i64 10)).run Try.prog (w.alloc (.map #[] 0)).drew = .ok () (w.alloc (.map #[me 1 10 0] 1)).drew := smap_new (W := w.drew) (B := w.heap.size) rfl 1 10
  have m2 : (Instr.mapUpdate 41 (.map (some w.heap.size)) (.int .i64 2) (.int .i64 60)).run Try.prog (w.alloc (.map #[] 0)).drew = .ok () (w.alloc (.map #[me 2 60 0] 1)).drew := smap_new (W := w.drew) (B := w.heap.size) rfl 2 60
  have m12 : (Instr.mapUpdate 41 (.map (some w.heap.size)) (.int .i64 2) (.int .i64 60)).run Try.prog (w.alloc (.map #[me 1 10 0] 1)).drew = .ok () (w.alloc (.map #[me 1 10 0, me 2 60 1] 2)).drew := smap_12 (W := w.drew) (B := w.heap.size) rfl
  have m21 : (Instr.mapUpdate 41 (.map (some w.heap.size)) (.int .i64 1) (.int .i64 10)).run Try.prog (w.alloc (.map #[me 2 60 0] 1)).drew = .ok () (w.alloc (.map #[me 2 60 0, me 1 10 1] 2)).drew := smap_21 (W := w.drew) (B := w.heap.size) rfl
  have k1 : (Instr.lookup 41 (.map (some w.heap.size)) (.int .i64 tier) false).run Try.prog (w.alloc (.map #[me 1 10 0, me 2 60 1] 2)).drew = .ok (.int .i64 st) (w.alloc (.map #[me 1 10 0, me 2 60 1] 2)).drew := by rw [hst]; exact smap_look (W := w.drew) (B := w.heap.size) rfl tier
  have k2 : (Instr.lookup 41 (.map (some w.heap.size)) (.int .i64 tier) false).run Try.prog (w.alloc (.map #[me 2 60 0, me 1 10 1] 2)).drew = .ok (.int .i64 st) (w.alloc (.map #[me 2 60 0, me 1 10 1] 2)).drew := by rw [hst]; exact smap_look' (W := w.drew) (B := w.heap.size) rfl tier
  have HST := hide hst
  have BA : Hid (∀ o, Below w.heap.size w (w.alloc o).drew) := fun o => (below_drewN (Below.refl _ w) 1).alloc (Nat.le_refl _) o
  clear hx hy hst
  go_enter Try.func6, Try.ntmps6
  go_upto_region 1 with fail
  go_cut [26] from 11 to 26 (fun v wx => v = .bool false ∧ Below w.heap.size w wx)
  case first =>
    go_region_with
      (first
        | (go_at_call 14; refine (step_any tier _).mono ?_; intro e w1 hh; rw [hh.1, hh.2, ← HST.out]; clear hh)
        | (go_at_call 15; refine (kwrong_k B bo m c tier x y _ (hb.below (BA.out _)) HM.out HX.out HY.out).mono ?_; rintro e w1 ⟨rfl, hb1⟩; have bel1 := (BA.out _).trans (hb1.mono (BA.out _).size))
        | (go_at_call 16; refine (rwb_k B bo m c tier x y _ (hb.below bel1) HM.out HX.out HY.out).mono ?_; rintro e w2 ⟨rfl, hb2⟩; have bel2 := bel1.trans (hb2.mono bel1.size)))
    all_goals (go_wp2_with fail; go_meet; exact ⟨rfl, bel2⟩)
  case rest =>
  obtain ⟨rfl, bel1⟩ := hcut
  clear hmm m1 m2 m12 m21 k1 k2 BA
  go_upto_region 3 with fail
  go_cut [42] from 27 to 42 (fun v wx => v = .bool false ∧ Below w.heap.size w wx)
  case first =>
    have ff := tfield_err x y
    have hs1 := bel1.size
    by_cases hx0 : x = 0
    · subst hx0
      have hr := Grain.rb_of (by rw [← HX.out] : (Grain.wrongB B (stepOf tier)).1 = 0)
      have h5 := hr.2.1
      rw [← HM.out] at h5
      clear hr
      go_wp2_with fail
      refine (rwb_k B bo m c tier 0 y _ (hb.below bel1) HM.out HX.out HY.out).mono ?_
      rintro e w2 ⟨rfl, hb2⟩
      have bel2 := bel1.trans (hb2.mono hs1)
      have hs2 := bel2.size
      clear hb2
      go_wp2_with fail
      refine (kof_any B bo m c f t _ (hb.below bel2) HM.out (by omega)).mono ?_
      rintro e w3 ⟨J, HJ, rfl, hb3⟩
      have bel3 := bel2.trans (hb3.mono hs2)
      have hs3 := bel3.size
      clear hb3
      go_wp2_with fail
      refine (rof_any B bo m c f t _ (hb.below bel3) HM.out (by omega)).mono ?_
      rintro e w4 ⟨J', HJ', rfl, hb4⟩
      have hJ : J' = J := by rw [HJ'.out, HJ.out]
      subst hJ
      have bel4 := bel3.trans (hb4.mono hs3)
      clear hb4 HJ HJ'
      go_wp2_with fail
      go_meet
      exact ⟨by simp, bel4⟩
    · have hz : (x == 0) = false := by simpa using hx0
      clear hx0
      go_wp2_with fail
      refine (rwb_k B bo m c tier x y _ (hb.below bel1) HM.out HX.out HY.out).mono ?_
      rintro e w2 ⟨rfl, hb2⟩
      have bel2 := bel1.trans (hb2.mono hs1)
      clear hb2
      go_wp2_with fail
      go_meet
      exact ⟨rfl, bel2⟩
  case rest =>
  obtain ⟨rfl, bel2⟩ := hcut
  clear bel1 HX HY
  obtain ⟨x1, hx⟩ : ∃ x1, x1 = (Grain.wrongB B (stepOf 1)).1 := ⟨_, rfl⟩
  obtain ⟨y1, hy⟩ : ∃ y1, y1 = (Grain.wrongB B (stepOf 1)).2 := ⟨_, rfl⟩
  have HX := hide hx
  have HY := hide hy
  clear hx hy
  go_upto_region 5 with fail
  go_cut [54] from 43 to 54 (fun v wx => v = .bool false ∧ Below w.heap.size w wx)
  case first =>
    have ff := tfield_err x1 y1
    have hs2 := bel2.size
    by_cases hx0 : x1 = 0
    · subst hx0
      have hr := Grain.rb_of (by rw [← HX.out] : (Grain.wrongB B (stepOf 1)).1 = 0)
      rw [show stepOf 1 = 10 from by simp [stepOf]] at hr
      have h5 := hr.2.1
      rw [← HM.out] at h5
      have hB := hr.2.2
      clear hr
      go_wp2_with fail
      refine (rwb_k B bo m c 1 0 y1 _ (hb.below bel2) HM.out HX.out HY.out).mono ?_
      rintro e w3 ⟨rfl, hb3⟩
      have bel3 := bel2.trans (hb3.mono hs2)
      have hs3 := bel3.size
      clear hb3
      go_wp2_with fail
      refine (great_any B bo m c _ (hb.below bel3) HM.out (by omega) (fun j hj => by have := Grain.inRB_get (hB.rng j hj); omega)).mono ?_
      rintro e w4 ⟨bo4, N4, c4, rfl, own4, hb4⟩
      have bel4 := bel3.trans (hb4.mono hs3)
      have hs4 := bel4.size
      clear hb4
      go_wp2_with fail
      refine (rgreat_any B bo m c _ (hb.below bel4) HM.out (by omega) hB).mono ?_
      rintro e w5 ⟨bo5, N5, c5, rfl, own5, hb5⟩
      have own4' := own_below own4 hb5
      have bel5 := bel4.trans (hb5.mono hs4)
      have hs5 := bel5.size
      have hN4 := hide (own_klen own4)
      have hN5 := hide (own_klen own5)
      have e5 : N5 = N4 := by have := hN4.out; have := hN5.out; omega
      subst e5
      obtain ⟨q4, d4, e1, sg4, _⟩ := own_open own4'
      simp at e1
      obtain ⟨rfl, rfl⟩ := e1
      obtain ⟨q5, d5, e1, sg5, _⟩ := own_open own5
      simp at e1
      obtain ⟨rfl, rfl⟩ := e1
      have hle := Grain.great_len B
      have hN : N5 ≤ 500 := by have := hN5.out; have := HM.out; omega
      clear hb5 own4 own5 own4' hle
      go_wp2_with fail
      refine (ksame_any (Grain.great B) bo4 bo5 N5 c4 c5 _ sg4 sg5 hN5.out (by omega)).mono ?_
      rintro e w6 ⟨rfl, hb6⟩
      have bel6 := bel5.trans (hb6.mono hs5)
      clear hb6 sg4 sg5
      go_wp2_with fail
      go_meet
      exact ⟨rfl, bel6⟩
    · have hz : (x1 == 0) = false := by simpa using hx0
      clear hx0
      go_wp2_with fail
      refine (rwb_k B bo m c 1 x1 y1 _ (hb.below bel2) HM.out HX.out HY.out).mono ?_
      rintro e w3 ⟨rfl, hb3⟩
      have bel3 := bel2.trans (hb3.mono hs2)
      clear hb3
      go_wp2_with fail
      go_meet
      exact ⟨rfl, bel3⟩
  case rest =>
  obtain ⟨rfl, bel3⟩ := hcut
  clear bel2 HX HY hb HM
  have hs3 := bel3.size
  by_cases hw : (Grain.wrong l).1 = 0
  · have hr := Grain.right_of hw
    have h5 := hr.few
    rw [← HN.out] at h5
    have hq := hide (Grain.wrong_zero hw)
    have ff := tfield_err 0 0
    clear hw
    go_wp2_with fail
    refine (rwrong_any l ao n cap _ (hs.below bel3) HN.out).mono ?_
    rintro e w4 ⟨rfl, hb4⟩
    rw [hq.out]
    have bel4 := bel3.trans (hb4.mono hs3)
    have hs4 := bel4.size
    clear hb4 bel3
    go_wp2_with fail
    refine (up_yes l ao n cap 1 10 _ (hs.below bel4) HN.out (by omega) (fun j hj => by have := hr.rng j hj; omega) (by simp [stepOf]) (.inl rfl)).mono ?_
    rintro e w5 ⟨bo5, N5, c5, rfl, own5, hb5⟩
    have bel5 := bel4.trans (hb5.mono hs4)
    have hs5 := bel5.size
    have hN5 := hide (own_klen own5)
    clear hb5 bel4
    go_wp2_with fail
    refine (rbk_any l ao n cap 10 _ (hs.below bel5) HN.out hcap hcm hr (.inl rfl)).mono ?_
    rintro e w6 ⟨bo6, N6, c6, rfl, own6, hb6⟩
    have own5' := own_below own5 hb6
    have bel6 := bel5.trans (hb6.mono hs5)
    have hs6 := bel6.size
    have hN6 := hide (own_klen own6)
    have e6 : N6 = N5 := by have := hN5.out; have := hN6.out; omega
    subst e6
    obtain ⟨q4, d4, e1, sg5, _⟩ := own_open own5'
    simp at e1
    obtain ⟨rfl, rfl⟩ := e1
    obtain ⟨q5, d5, e1, sg6, _⟩ := own_open own6
    simp at e1
    obtain ⟨rfl, rfl⟩ := e1
    have hN : N6 ≤ 500 := by have := hN6.out; have := (hr.up (.inl rfl : (10 : Int) = 10 ∨ (10 : Int) = 60)).2.1; omega
    clear hb6 own5 own6 own5' bel5
    go_wp2_with fail
    refine (ksame_any (Grain.up l 10) bo5 bo6 N6 c5 c6 _ sg5 sg6 hN6.out (by omega)).mono ?_
    rintro e w7 ⟨rfl, hb7⟩
    have bel7 := bel6.trans (hb7.mono hs6)
    have hs7 := bel7.size
    clear hb7 sg5 sg6 bel6 hN hN5 hN6
    go_wp2_with fail
    refine (up_yes l ao n cap 2 60 _ (hs.below bel7) HN.out (by omega) (fun j hj => by have := hr.rng j hj; omega) (by simp [stepOf]) (.inr rfl)).mono ?_
    rintro e w8 ⟨bo8, N8, c8, rfl, own8, hb8⟩
    have bel8 := bel7.trans (hb8.mono hs7)
    have hs8 := bel8.size
    have hN8 := hide (own_klen own8)
    clear hb8 bel7
    go_wp2_with fail
    refine (rbk_any l ao n cap 60 _ (hs.below bel8) HN.out hcap hcm hr (.inr rfl)).mono ?_
    rintro e w9 ⟨bo9, N9, c9, rfl, own9, hb9⟩
    have own8' := own_below own8 hb9
    have bel9 := bel8.trans (hb9.mono hs8)
    have hs9 := bel9.size
    have hN9 := hide (own_klen own9)
    have e9 : N9 = N8 := by have := hN8.out; have := hN9.out; omega
    subst e9
    obtain ⟨q8, d8, e1, sg8, _⟩ := own_open own8'
    simp at e1
    obtain ⟨rfl, rfl⟩ := e1
    obtain ⟨q9, d9, e1, sg9, _⟩ := own_open own9
    simp at e1
    obtain ⟨rfl, rfl⟩ := e1
    have hN : N9 ≤ 500 := by have := hN9.out; have := (hr.up (.inr rfl : (60 : Int) = 10 ∨ (60 : Int) = 60)).2.1; omega
    clear hb9 own8 own9 own8' bel8
    go_wp2_with fail
    refine (ksame_any (Grain.up l 60) bo8 bo9 N9 c8 c9 _ sg8 sg9 hN9.out (by omega)).mono ?_
    rintro e w10 ⟨rfl, hb10⟩
    have bel10 := bel9.trans (hb10.mono hs9)
    clear hb10 sg8 sg9 bel9 hN hN8 hN9
    go_wp2_with (go_at_call 23; refine (up_no ao n cap 0 _ (by simp [stepOf])).mono ?_; intro e w11 hh; rw [hh.1, hh.2]; clear hh)
    go_ret
    exact ⟨rfl, bel10⟩
  · obtain ⟨x2, hx⟩ : ∃ x2, x2 = (Grain.wrong l).1 := ⟨_, rfl⟩
    obtain ⟨y2, hy⟩ : ∃ y2, y2 = (Grain.wrong l).2 := ⟨_, rfl⟩
    have hz : (x2 != 0) = true := by rw [hx]; simpa using hw
    have HX := hide hx
    have HY := hide hy
    have ff := tfield_err x2 y2
    clear hx hy hw
    go_wp2_with fail
    refine (rwrong_any l ao n cap _ (hs.below bel3) HN.out).mono ?_
    rintro e w4 ⟨rfl, hb4⟩
    rw [← HX.out, ← HY.out]
    have bel4 := bel3.trans (hb4.mono hs3)
    clear hb4 bel3
    go_wp2
    go_ret
    exact ⟨rfl, bel4⟩

end Go.Proofs.Ytondeenhndkjbab
