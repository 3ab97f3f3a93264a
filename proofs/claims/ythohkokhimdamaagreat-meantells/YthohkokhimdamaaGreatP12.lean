/-
  The walk of names.Compare.
-/
import Derived.Test.YthohkokhimdamaaGreatP11
import Derived.Test.YthohkokhimdamaaGreatP07
import Derived.Lib.Bytealg
/-
  The walk of names.Wrong.
-/
namespace Go.GrainU

theorem wle_less (x z : ByteArray) : Op.bytesLess z.toList x.toList = !wle x z := by
  unfold wle
  cases h : Op.bytesLess z.toList x.toList with
  | true =>
    have h1 := less_asymm _ _ h
    have h2 : (x.toList == z.toList) = false := by
      rw [beq_eq_false_iff_ne]
      intro e
      rw [e, less_irrefl] at h
      cases h
    rw [h1, h2]; rfl
  | false =>
    by_cases e : x.toList = z.toList
    · rw [e]; simp
    · rw [less_total _ _ h (Ne.symm e)]; rfl

end Go.GrainU
namespace Go.Proofs.YthohkokhimdamaaGreat
open Go.RowKit Go.GrainU

set_option maxHeartbeats 2000000 in
theorem nwrong_any (l : List (ByteArray × ByteArray)) (ao : Option Addr) (n cap : Nat) (w : World) (hs : Seg w ao (lcells l)) (hn : n = l.length) (hf : Fits l) :
    Calls Tryz.prog 43 #[.slice ao n cap] w fun e w' => e = .returned (.int .i64 (wrongS l)) ∧ Below w.heap.size w w' := by
  by_cases h5 : 4 < n
  · have hw : wrongS l = 5 := by simp [wrongS, ← hn, h5]
    rw [hw]; clear hw hn
    have hd : decide ((4 : Int) < (n : Int)) = true := by simp; omega
    go_enter Tryz.func43, Tryz.ntmps43
    go_wp2
    go_ret
    exact ⟨rfl, Below.refl _ _⟩
  · have hw : wrongS l = wrongSF l n 0 := by simp [wrongS, ← hn, h5]
    rw [hw]; clear hw
    have HN := hide hn
    have HF := hide hf
    clear hn hf
    have hd : decide ((4 : Int) < (n : Int)) = false := by simp; omega
    go_enter Tryz.func43, Tryz.ntmps43
    go_wp2
    go_loopw [10] (fun i wr => ∃ k : Nat, k ≤ n ∧ i = .int .i64 k ∧ Hid (wrongSF l n 0 = wrongSF l (n - k) k) ∧ Below w.heap.size w wr) (fun i _ => n - (intOf i).toNat)
    case atStart => exact ⟨0, Nat.zero_le _, rfl, rfl, Below.refl _ _⟩
    case round =>
      obtain ⟨k, hk, rfl, HW, bel⟩ := hrel
      have hsz := bel.size
      by_cases hlt : k < n
      · have hkl : k < l.length := by rw [← HN.out]; exact hlt
        obtain ⟨b, off, rfl, hb, hcell⟩ := seg_label hs hkl
        obtain ⟨x, hx⟩ : ∃ x, x = lk l k := ⟨_, rfl⟩
        obtain ⟨y, hy⟩ : ∃ y, y = lv l k := ⟨_, rfl⟩
        have c0 : wr.cell? ⟨b, off + k * 2, none⟩ = some (.string x) := by rw [hx]; exact (bel.cell (by exact hb)).trans (hcell k hkl).1
        have c1 : wr.cell? ⟨b, off + k * 2 + 1, none⟩ = some (.string y) := by rw [hy]; exact (bel.cell (by exact hb)).trans (hcell k hkl).2
        have fx : x.size ≤ 9223372036854775807 := by rw [hx]; exact (HF.out k hkl).1
        have fy : y.size ≤ 9223372036854775807 := by rw [hy]; exact (HF.out k hkl).2
        have HX := hide hx
        have HY := hide hy
        have NO : Hid ((Grain.named x && Grain.named y) = false → wrongSF l n 0 = 7) := by
          intro h
          have hbad : badS l k = 7 := by unfold badS; rw [← HX.out, ← HY.out, h]; simp
          rw [HW.out, show n - k = (n - k - 1) + 1 from by omega, wrongSF_no (by rw [hbad]; decide), hbad]
        obtain ⟨N1, hN1⟩ : ∃ N1, N1 = Grain.named x := ⟨_, rfl⟩
        obtain ⟨N2, hN2⟩ : ∃ N2, N2 = Grain.named y := ⟨_, rfl⟩
        have H1 := hide hN1
        have H2 := hide hN2
        have HC := hide hcell
        clear hx hy hkl hN1 hN2 hcell
        go_wp2_with fail
        refine (nnamed_any x _ fx).mono ?_
        rintro e w1 ⟨rfl, hb1⟩
        rw [← H1.out]
        have F1 : w1.heap[wr.heap.size]? = some (.cells #[.string x, .string y] 88 (0, 0)) := by rw [hb1]; exact heap_alloc_new wr _
        obtain ⟨p0, p1, _, _⟩ := two_cells F1
        have bel1 : Below w.heap.size w w1 := by rw [hb1]; exact bel.alloc hsz _
        have hs1 := bel1.size
        clear hb1 bel c0 c1
        cases N1 with
        | false =>
          have hw := hide (NO.out (by rw [← H1.out]; rfl))
          clear NO HW
          go_wp2
          go_ret
          exact ⟨ret_int hw.out.symm, bel1⟩
        | true =>
          go_wp2_with fail
          refine (nnamed_any y _ fy).mono ?_
          rintro e w2 ⟨rfl, hb2⟩
          rw [← H2.out]
          have F2 : w2.heap[wr.heap.size]? = some (.cells #[.string x, .string y] 88 (0, 0)) := by rw [hb2]; exact F1
          obtain ⟨p0, p1, _, _⟩ := two_cells F2
          have bel2 : Below w.heap.size w w2 := by rw [hb2]; exact bel1
          clear hb2 bel1
          cases N2 with
          | false =>
            have hw := hide (NO.out (by rw [← H2.out]; simp))
            clear NO HW
            go_wp2
            go_ret
            exact ⟨ret_int hw.out.symm, bel2⟩
          | true =>
            have hgood : Hid ((Grain.named (lk l k) && Grain.named (lv l k)) = true) := by
              show (Grain.named (lk l k) && Grain.named (lv l k)) = true
              rw [← HX.out, ← HY.out, ← H1.out, ← H2.out]; rfl
            clear NO
            rcases Nat.eq_zero_or_pos k with hk0 | hk0
            · subst hk0
              have hg : decide ((0 : Int) < ((0 : Nat) : Int)) = false := by decide
              have hg' : decide ((0 : Int) < 0) = false := by decide
              have hw : Hid (wrongSF l n 0 = wrongSF l (n - (0 + 1)) (0 + 1)) := by
                show wrongSF l n 0 = wrongSF l (n - (0 + 1)) (0 + 1)
                have hbad : badS l 0 = 0 := by unfold badS; rw [hgood.out]; simp
                rw [HW.out, show n - 0 = (n - (0 + 1)) + 1 from by omega, wrongSF_ok hbad]
              clear HW hgood
              go_wp2
              go_quiet (fail)
              go_wp2
              go_roundw
              case rel => exact ⟨0 + 1, by omega, by go_num, hw, below_drewN bel2 _⟩
              case measure => simp [intOf]; omega
            · obtain ⟨m, rfl⟩ : ∃ m, k = m + 1 := ⟨k - 1, by omega⟩
              have hg : decide ((0 : Int) < ((m + 1 : Nat) : Int)) = true := by simp
              have hg' : decide ((0 : Int) < (m : Int) + 1) = true := by simp
              obtain ⟨z, hz⟩ : ∃ z, z = lk l m := ⟨_, rfl⟩
              have q0 : w2.cell? ⟨b, off + m * 2, none⟩ = some (.string z) := by rw [hz]; exact (bel2.cell (by exact hb)).trans (HC.out m (by rw [← HN.out]; omega)).1
              cases hle : wle x z with
              | true =>
                have hle' : Op.bytesLess z.toList x.toList = false := by rw [wle_less, hle]; rfl
                have hw : Hid (wrongSF l n 0 = 2) := by
                  show wrongSF l n 0 = 2
                  have hbad : badS l (m + 1) = 2 := by
                    unfold badS
                    rw [hgood.out, if_neg (by simp), if_pos ⟨by omega, by rw [← HX.out]; simpa [← hz] using hle⟩]
                  rw [HW.out, show n - (m + 1) = (n - (m + 1) - 1) + 1 from by omega, wrongSF_no (by rw [hbad]; decide), hbad]
                clear HW hgood hz hle
                go_wp2
                go_quiet (fail)
                go_wp2
                go_ret
                exact ⟨ret_int hw.out.symm, below_drewN bel2 _⟩
              | false =>
                have hle' : Op.bytesLess z.toList x.toList = true := by rw [wle_less, hle]; rfl
                have hw : Hid (wrongSF l n 0 = wrongSF l (n - (m + 1 + 1)) (m + 1 + 1)) := by
                  show wrongSF l n 0 = wrongSF l (n - (m + 1 + 1)) (m + 1 + 1)
                  have hbad : badS l (m + 1) = 0 := by
                    unfold badS
                    rw [hgood.out, if_neg (by simp), if_neg (by rw [← HX.out]; simp [← hz, hle])]
                  rw [HW.out, show n - (m + 1) = (n - (m + 1 + 1)) + 1 from by omega, wrongSF_ok hbad]
                clear HW hgood hz hle
                go_wp2
                go_quiet (fail)
                go_wp2
                go_roundw
                case rel => exact ⟨m + 1 + 1, by omega, by go_num, hw, below_drewN bel2 _⟩
                case measure => simp [intOf]; omega
      · have he : k = n := by omega
        subst he
        have hw : Hid (wrongSF l k 0 = 0) := by
          show wrongSF l k 0 = 0
          rw [HW.out]; simp [wrongSF]
        clear HW
        go_wp2
        go_ret
        exact ⟨ret_int hw.out.symm, bel⟩

end Go.Proofs.YthohkokhimdamaaGreat

/-
  The walk of names.Compare.
-/
namespace Go.GrainU
open Go.RowKit

theorem cmpB : ∀ x y : List UInt8, Lib.compareBytes x y = if Op.bytesLess x y = true then -1 else if x = y then 0 else 1
  | [], [] => rfl
  | [], _ :: _ => by simp [Lib.compareBytes, Op.bytesLess]
  | _ :: _, [] => by simp [Lib.compareBytes, Op.bytesLess]
  | a :: x, b :: y => by
    have ih := cmpB x y
    unfold Lib.compareBytes Op.bytesLess
    rw [ih]
    by_cases h1 : a < b
    · simp [h1]
    · by_cases h2 : b < a
      · have : a ≠ b := by intro e; subst e; exact h1 h2
        simp [h1, h2, this]
      · have : a = b := UInt8.le_antisymm (UInt8.not_lt.1 h2) (UInt8.not_lt.1 h1)
        subst this
        simp [h1]

theorem cmpB_W (x y : ByteArray) : Lib.compareBytes x.data.toList y.data.toList = cmpW x y := by
  rw [cmpB]
  unfold cmpW
  rw [← ByteArray.toList_eq, ← ByteArray.toList_eq]
  by_cases h : x = y
  · subst h; simp
  · have : x.toList ≠ y.toList := fun e => h (toList_inj e)
    simp [h, this]

/-- a label against another -/
def cmpP (x y x' y' : ByteArray) : Int := if x = x' then cmpW y y' else cmpW x x'

theorem cmpP_step (x y x' y' : ByteArray) (r : Int) : (if cmpW x x' ≠ 0 then cmpW x x' else if cmpW y y' ≠ 0 then cmpW y y' else r) = if cmpP x y x' y' = 0 then r else cmpP x y x' y' := by
  unfold cmpP
  by_cases h : x = x'
  · subst h
    rw [cmpW_self]
    by_cases h2 : cmpW y y' = 0 <;> simp [h2]
  · have : cmpW x x' ≠ 0 := by
      rcases cmpW_cases x x' with ⟨e, _⟩ | ⟨_, e⟩ | ⟨e, _⟩
      · rw [e]; decide
      · exact absurd e h
      · rw [e]; decide
    simp [h, this]

end Go.GrainU
namespace Go.Proofs.YthohkokhimdamaaGreat
open Go.RowKit Go.GrainU

set_option maxRecDepth 100000 in
theorem cmpstr_any (a b : ByteArray) (w : World) :
    Calls Tryz.prog 64 #[.string a, .string b] w fun e w' => e = .returned (.int .i64 (cmpW a b)) ∧ w' = w := by
  rw [← cmpB_W]
  go_enter Tryz.func64, Tryz.ntmps64
  go_wp2
  rw [run_callFunc_extern Tryz.func83 (by kernel_rfl) (by kernel_rfl) (by kernel_rfl) (e := Extern.BytealgCompare.compare) (by kernel_rfl), Lib.run_compareString]
  simp only [Result.andThen]
  rw [Oper.upon_value]
  go_wp2
  go_ret
  exact ⟨rfl, rfl⟩

theorem scmp_any (a b : ByteArray) (w : World) :
    Calls Tryz.prog 47 #[.string a, .string b] w fun e w' => e = .returned (.int .i64 (cmpW a b)) ∧ w' = w := by
  go_enter Tryz.func47, Tryz.ntmps47
  go_wp2_with fail
  refine (cmpstr_any _ _ _).mono ?_
  intro e w1 hh
  rw [hh.1, hh.2]
  clear hh
  go_wp2
  go_ret
  exact ⟨rfl, rfl⟩

set_option maxHeartbeats 1000000 in
theorem ncmp1_any (x y x' y' : ByteArray) (w : World) :
    Calls Tryz.prog 46 #[.agg #[.string x, .string y], .agg #[.string x', .string y']] w fun e w' => e = .returned (.int .i64 (cmpP x y x' y')) ∧ Below w.heap.size w w' := by
  have bel : Below w.heap.size w ((w.alloc (.cells #[.string x, .string y] 88)).alloc (.cells #[.string x', .string y'] 88)) := ((Below.refl _ _).alloc (Nat.le_refl _) _).alloc (by simp) _
  by_cases h : x = x'
  · have hp : Hid (cmpP x y x' y' = cmpW y y') := by show _ = _; simp [cmpP, h]
    subst h
    obtain ⟨v1, v2⟩ := word_self x
    go_enter Tryz.func46, Tryz.ntmps46
    go_wp2_with fail
    refine (scmp_any _ _ _).mono ?_
    intro e w1 hh
    rw [hh.1, hh.2]
    clear hh
    go_wp2
    go_ret
    exact ⟨ret_int hp.out.symm, bel⟩
  · have hp : Hid (cmpP x y x' y' = cmpW x x') := by show _ = _; simp [cmpP, h]
    obtain ⟨v1, v2⟩ := word_ne h
    clear h
    go_enter Tryz.func46, Tryz.ntmps46
    go_wp2_with fail
    refine (scmp_any _ _ _).mono ?_
    intro e w1 hh
    rw [hh.1, hh.2]
    clear hh
    go_wp2
    go_ret
    exact ⟨ret_int hp.out.symm, bel⟩

set_option maxHeartbeats 2000000 in
theorem ncmpf_any (a b : List (ByteArray × ByteArray)) (ao bo : Option Addr) (n m c c' : Nat) (w : World) (ha : Seg w ao (lcells a)) (hb : Seg w bo (lcells b)) (hn : n = a.length) (hm : m = b.length) (hc : n ≤ 9223372036854775807) :
    Calls Tryz.prog 45 #[.slice ao n c, .slice bo m c', .func (.func 46) #[] #[]] w fun e w' => e = .returned (.int .i64 (cmpS a b)) ∧ Below w.heap.size w w' := by
  have hS : cmpS a b = cmpF a b n 0 := by rw [hn]; rfl
  rw [hS]
  clear hS
  have HN := hide hn
  have HM := hide hm
  clear hn hm
  go_enter Tryz.func45, Tryz.ntmps45
  go_wp2
  go_loopw [13] (fun i wr => ∃ k : Nat, k ≤ n ∧ i = .int .i64 k ∧ Hid (cmpF a b n 0 = cmpF a b (n - k) k) ∧ Below w.heap.size w wr) (fun i _ => n - (intOf i).toNat)
  case atStart => exact ⟨0, Nat.zero_le _, rfl, rfl, Below.refl _ _⟩
  case round =>
    obtain ⟨k, hk, rfl, HW, bel⟩ := hrel
    have hsz := bel.size
    by_cases hlt : k < n
    · have hka : k < a.length := by rw [← HN.out]; exact hlt
      obtain ⟨p, off, rfl, hbl, hcell⟩ := seg_label ha hka
      obtain ⟨x, hx⟩ : ∃ x, x = lk a k := ⟨_, rfl⟩
      obtain ⟨y, hy⟩ : ∃ y, y = lv a k := ⟨_, rfl⟩
      have c0 : wr.cell? ⟨p, off + k * 2, none⟩ = some (.string x) := by rw [hx]; exact (bel.cell (by exact hbl)).trans (hcell k hka).1
      have c1 : wr.cell? ⟨p, off + k * 2 + 1, none⟩ = some (.string y) := by rw [hy]; exact (bel.cell (by exact hbl)).trans (hcell k hka).2
      have HS : Hid (cmpF a b n 0 = if m ≤ k then 1 else if cmpP x y (lk b k) (lv b k) = 0 then cmpF a b (n - (k + 1)) (k + 1) else cmpP x y (lk b k) (lv b k)) := by
        show _ = _
        rw [HW.out, show n - k = (n - (k + 1)) + 1 from by omega, cmpF, HM.out, cmpP_step, hx, hy]
      by_cases hkm : k < m
      · have hkb : k < b.length := by rw [← HM.out]; exact hkm
        obtain ⟨p', off', rfl, hbl', hcell'⟩ := seg_label hb hkb
        obtain ⟨x', hx'⟩ : ∃ x, x = lk b k := ⟨_, rfl⟩
        obtain ⟨y', hy'⟩ : ∃ y, y = lv b k := ⟨_, rfl⟩
        have d0 : wr.cell? ⟨p', off' + k * 2, none⟩ = some (.string x') := by rw [hx']; exact (bel.cell (by exact hbl')).trans (hcell' k hkb).1
        have d1 : wr.cell? ⟨p', off' + k * 2 + 1, none⟩ = some (.string y') := by rw [hy']; exact (bel.cell (by exact hbl')).trans (hcell' k hkb).2
        obtain ⟨C, hC⟩ : ∃ C, C = cmpP x y x' y' := ⟨_, rfl⟩
        have HS' : Hid (cmpF a b n 0 = if C = 0 then cmpF a b (n - (k + 1)) (k + 1) else C) := by
          show _ = _
          rw [HS.out, if_neg (by omega), ← hx', ← hy', hC]
        have HC := hide hC
        clear hx hy hx' hy' hcell hcell' hka hkb HS HW hC
        have hbp : p < wr.heap.size := World.block_lt_of_cell? wr _ c0
        have hbp' : p' < wr.heap.size := World.block_lt_of_cell? wr _ d0
        have kk : ¬ ((m : Int) ≤ (k : Int)) := by omega
        have bel2 : Below w.heap.size w ((wr.alloc (.cells #[.string x, .string y] 88)).alloc (.cells #[.string x', .string y'] 88)) := (bel.alloc hsz _).alloc (by simp; omega) _
        go_wp2_with fail
        refine (ncmp1_any x y x' y' _).mono ?_
        rintro e w1 ⟨rfl, hb1⟩
        rw [← HC.out]
        have bel1 : Below w.heap.size w w1 := bel2.trans (hb1.mono (by simp; omega))
        clear hb1 bel2 bel c0 c1 d0 d1 HC
        by_cases hc0 : C = 0
        · have hw : Hid (cmpF a b n 0 = cmpF a b (n - (k + 1)) (k + 1)) := by
            show _ = _
            rw [HS'.out, if_pos hc0]
          subst hc0
          clear HS'
          go_wp2
          go_roundw
          case rel => exact ⟨k + 1, by omega, by go_num, hw, bel1⟩
          case measure => simp [intOf]; omega
        · have hw : Hid (cmpF a b n 0 = C) := by
            show _ = _
            rw [HS'.out, if_neg hc0]
          have hd : (C != 0) = true := by simpa using hc0
          clear HS' hc0
          go_wp2
          go_ret
          exact ⟨ret_int hw.out.symm, bel1⟩
      · have hw : Hid (cmpF a b n 0 = 1) := by
          show _ = _
          rw [HS.out, if_pos (by omega)]
        have kk : (m : Int) ≤ (k : Int) := by omega
        clear HS HW hka hx hy hcell
        go_wp2
        go_ret
        exact ⟨ret_int hw.out.symm, bel.alloc hsz _⟩
    · have he : k = n := by omega
      subst he
      by_cases hl : k < m
      · have hw : Hid (cmpF a b k 0 = -1) := by
          show _ = _
          rw [HW.out, Nat.sub_self, cmpF, if_pos (by rw [← HN.out, ← HM.out]; exact hl)]
        have hd : decide ((k : Int) < (m : Int)) = true := by simpa using hl
        clear HW
        go_wp2
        go_ret
        exact ⟨ret_int hw.out.symm, bel⟩
      · have hw : Hid (cmpF a b k 0 = 0) := by
          show _ = _
          rw [HW.out, Nat.sub_self, cmpF, if_neg (by rw [← HN.out, ← HM.out]; exact hl)]
        have hd : decide ((k : Int) < (m : Int)) = false := by simp; omega
        clear HW
        go_wp2
        go_ret
        exact ⟨ret_int hw.out.symm, bel⟩

theorem ncmp_any (a b : List (ByteArray × ByteArray)) (ao bo : Option Addr) (n m c c' : Nat) (w : World) (ha : Seg w ao (lcells a)) (hb : Seg w bo (lcells b)) (hn : n = a.length) (hm : m = b.length) (hc : n ≤ 9223372036854775807) :
    Calls Tryz.prog 21 #[.slice ao n c, .slice bo m c'] w fun e w' => e = .returned (.int .i64 (cmpS a b)) ∧ Below w.heap.size w w' := by
  obtain ⟨N, hN⟩ : ∃ N, N = cmpS a b := ⟨_, rfl⟩
  have HR := hide hN
  rw [← hN]
  clear hN
  have HN := hide hn
  have HM := hide hm
  clear hn hm
  go_enter Tryz.func21, Tryz.ntmps21
  go_wp2_with fail
  refine (ncmpf_any a b ao bo n m c c' w ha hb HN.out HM.out hc).mono ?_
  rintro e w1 ⟨rfl, hb1⟩
  rw [← HR.out]
  go_wp2
  go_ret
  exact ⟨rfl, hb1⟩

end Go.Proofs.YthohkokhimdamaaGreat
