/-
  The walks of mean's wrongAlone, Wrong.
-/
import Derived.Test.YthohkokhimdamaaGreatRows
import Derived.Test.YthohkokhimdamaaGreatP01
import Derived.Test.YthohkokhimdamaaGreatP10
import Derived.Test.YthohkokhimdamaaGreatP12
import Derived.Deep.RegionHeld3
/-
  The walks of codec's inRange and Wrong.
-/
namespace Go.Proofs.YthohkokhimdamaaGreat
open Go.RowKit Go.GrainU

set_option maxHeartbeats 400000 in
theorem inRange_any (t v : Int) (w : World) :
    Calls Tryz.prog 63 #[.agg #[.int .i64 t, .int .i64 v]] w fun e w' => e = .returned (.bool (Grain.inR t v)) ∧ Below w.heap.size w w' := by
  go_enter Tryz.func63, Tryz.ntmps63
  go_wp2
  all_goals
    go_ret
    refine ⟨ret_bool ?_, (Below.refl _ _).alloc (Nat.le_refl _) _⟩
    rw [Bool.eq_iff_iff]
    simp [Grain.inR]
    omega

set_option maxHeartbeats 400000 in
theorem wrong_any (l : List (Int × Int)) (ao : Option Addr) (cap : Nat) (w : World) (hs : Seg w ao (scells l)) :
    Calls Tryz.prog 44 #[.slice ao l.length cap] w fun e w' => e = .returned (.agg #[.int .i64 (Grain.wrong l).1, .int .i64 (Grain.wrong l).2]) ∧ Below w.heap.size w w' := by
  by_cases h5 : 500 < l.length
  · have hw : Grain.wrong l = (5, 0) := by simp [Grain.wrong, h5]
    rw [hw]; clear hw
    go_enter Tryz.func44, Tryz.ntmps44
    go_wp2
    exact bodyPost_ret (v := .agg #[.int .i64 5, .int .i64 0]) (by simp [results, Tryz.results44, go_sem]) rfl ⟨rfl, by go_grown⟩
  · have hw : Grain.wrong l = Grain.wrongF l l.length 0 := by simp [Grain.wrong, h5]
    rw [hw]; clear hw
    have hd : decide ((500 : Int) < (l.length : Int)) = false := by simp; omega
    go_enter Tryz.func44, Tryz.ntmps44
    go_wp2
    go_loopw [11] (fun i wr => ∃ k : Nat, k ≤ l.length ∧ i = .int .i64 k ∧ Hid (Grain.wrongF l l.length 0 = Grain.wrongF l (l.length - k) k) ∧ wr.heap[w.heap.size]? = some (.cells #[.int .i64 0, .int .i64 0] 34 (0, 0)) ∧ Below w.heap.size w wr) (fun i _ => l.length - (intOf i).toNat)
    case atStart => exact ⟨0, Nat.zero_le _, rfl, rfl, heap_alloc_new w _, by go_grown⟩
    case round =>
      obtain ⟨k, hk, rfl, HW, hres, hbel⟩ := hrel
      by_cases hlt : k < l.length
      · obtain ⟨b, off, rfl, hcell⟩ := hs.sample hlt
        have hb : b < w.heap.size := World.block_lt_of_cell? w ⟨b, off + k * 2, none⟩ (hcell k hlt).1
        have c0 : wr.cell? ⟨b, off + k * 2, none⟩ = some (.int .i64 (Grain.tm l k)) := (hbel.cell (by exact hb)).trans (hcell k hlt).1
        have c1 : wr.cell? ⟨b, off + k * 2 + 1, none⟩ = some (.int .i64 (Grain.vl l k)) := (hbel.cell (by exact hb)).trans (hcell k hlt).2
        have hB : w.heap.size < wr.heap.size := lt_of_block hres
        go_wp2_with fail
        refine (inRange_any _ _ _).mono ?_
        rintro e w1 ⟨rfl, hb1⟩
        obtain ⟨hc1, hf1⟩ := bcell hb1
        have hsz : wr.heap.size + 1 ≤ w1.heap.size := by have := hb1.size; simpa using this
        have hres1 : w1.heap[w.heap.size]? = some (.cells #[.int .i64 0, .int .i64 0] 34 (0, 0)) := by
          rw [hb1.block _ (by simp; omega), Below.heap_alloc _ _ _ hB]; exact hres
        have hbel1 : Below w.heap.size w w1 := (hbel.alloc (by omega) _).trans (hb1.mono (by simp; omega))
        obtain ⟨r0, r1, r2, r3⟩ := two_cells hres1
        have x0 : w1.cell? ⟨wr.heap.size, 0, none⟩ = some (.int .i64 (Grain.tm l k)) := by
          rw [hc1 _ _ (by simp)]; exact (two_cells (heap_alloc_new wr _)).1
        clear hc1 hf1 hb1 c0 c1 hres hbel
        cases hin : Grain.inR (Grain.tm l k) (Grain.vl l k)
        · have hw : Hid (Grain.wrongF l l.length 0 = (3, (k : Int))) := by
            show Grain.wrongF l l.length 0 = (3, (k : Int))
            rw [HW.out, show l.length - k = (l.length - k - 1) + 1 from by omega, Grain.wrongF_no (by simp [Grain.bad, hin])]; simp [Grain.bad, hin]
          clear HW hin
          go_wp2
          exact bodyPost_ret (v := .agg #[.int .i64 3, .int .i64 k]) (by simp [results, Tryz.results44, go_sem, r0, r1]) rfl ⟨by rw [hw.out], (hbel1.setCell (Nat.le_refl _) _).setCell (Nat.le_refl _) _⟩
        · rcases Nat.eq_zero_or_pos k with hk0 | hk0
          · subst hk0
            have hg : decide ((0 : Int) < ((0 : Nat) : Int)) = false := by decide
            have hg' : decide ((0 : Int) < 0) = false := by decide
            have hw : Hid (Grain.wrongF l l.length 0 = Grain.wrongF l (l.length - (0 + 1)) (0 + 1)) := by
              show Grain.wrongF l l.length 0 = Grain.wrongF l (l.length - (0 + 1)) (0 + 1)
              rw [HW.out, show l.length - 0 = (l.length - (0 + 1)) + 1 from by omega, Grain.wrongF_ok (by simp [Grain.bad, hin])]
            clear HW hin
            go_wp2
            go_quiet (fail)
            go_wp2
            go_roundw
            case rel => exact ⟨0 + 1, by omega, by go_num, hw, hres1, below_drewN hbel1 _⟩
            case measure => simp [intOf]; omega
          · obtain ⟨m, rfl⟩ : ∃ m, k = m + 1 := ⟨k - 1, by omega⟩
            have hg : decide ((0 : Int) < ((m + 1 : Nat) : Int)) = true := by simp
            have hg' : decide ((0 : Int) < (m : Int) + 1) = true := by simp
            have hw2 : Hid (Grain.tm l (m + 1) ≤ Grain.tm l m → Grain.wrongF l l.length 0 = (2, ((m : Int) + 1))) := by
              intro hle
              rw [HW.out, show l.length - (m + 1) = (l.length - (m + 1) - 1) + 1 from by omega, Grain.wrongF_no (by simp [Grain.bad, hin, hle])]; simp [Grain.bad, hin, hle]
            have hw : Hid (Grain.tm l m < Grain.tm l (m + 1) → Grain.wrongF l l.length 0 = Grain.wrongF l (l.length - (m + 1 + 1)) (m + 1 + 1)) := by
              intro hle
              rw [HW.out, show l.length - (m + 1) = (l.length - (m + 1 + 1)) + 1 from by omega, Grain.wrongF_ok (by simp [Grain.bad, hin]; omega)]
            clear HW hin
            have p0 : w1.cell? ⟨b, off + m * 2, none⟩ = some (.int .i64 (Grain.tm l m)) := (hbel1.cell (by exact hb)).trans (hcell m (by omega)).1
            go_wp2
            go_quiet (fail)
            go_wp2
            · exact bodyPost_ret (v := .agg #[.int .i64 2, .int .i64 ((m : Int) + 1)]) (by simp [results, Tryz.results44, go_sem, r0, r1]) rfl ⟨by rw [hw2.out (by assumption)], ((below_drewN hbel1 _).setCell (Nat.le_refl _) _).setCell (Nat.le_refl _) _⟩
            · go_roundw
              case rel => exact ⟨m + 1 + 1, by omega, by go_num, hw.out (by assumption), hres1, below_drewN hbel1 _⟩
              case measure => simp [intOf]; omega
      · obtain ⟨r0, r1, r2, r3⟩ := two_cells hres
        have he : k = l.length := by omega
        subst he
        have hw : Hid (Grain.wrongF l l.length 0 = (0, 0)) := by
          show Grain.wrongF l l.length 0 = (0, 0)
          rw [HW.out]; simp [Grain.wrongF]
        clear HW
        go_wp2
        exact bodyPost_ret (v := .agg #[.int .i64 0, .int .i64 0]) (by simp [results, Tryz.results44, go_sem, r0, r1]) rfl ⟨by rw [hw.out], (hbel.setCell (Nat.le_refl _) _).setCell (Nat.le_refl _) _⟩

theorem wrong_len (l : List (Int × Int)) (ao : Option Addr) (N cap : Nat) (w : World) (hs : Seg w ao (scells l)) (hN : N = l.length) :
    Calls Tryz.prog 44 #[.slice ao N cap] w fun e w' => e = .returned (.agg #[.int .i64 (Grain.wrong l).1, .int .i64 (Grain.wrong l).2]) ∧ Below w.heap.size w w' := by
  subst hN; exact wrong_any l ao cap w hs

end Go.Proofs.YthohkokhimdamaaGreat

/-
  The walks of mean's wrongAlone, Wrong.
-/
namespace Go.GrainU
open Go.RowKit

theorem below_step {W w1 w2 : World} (h2 : Below w1.heap.size w1 w2) (h1 : Below W.heap.size W w1) : Below W.heap.size W w2 := h1.trans (h2.mono h1.size)

end Go.GrainU
namespace Go.Proofs.YthohkokhimdamaaGreat
open Go.RowKit Go.GrainU

set_option maxRecDepth 100000 in
set_option maxHeartbeats 1000000 in
theorem malone_any (x : LT) (n m : Nat) (w : World) (hx : LnOk w x) (hn : n = x.ser.length) (hm : m = x.smp.length) :
    Calls Tryz.prog 20 #[.agg #[.slice x.sa n x.sc, .slice x.pa m x.pc]] w fun e w' => e = .returned (.int .i64 (lnAlone x.ln)) ∧ Below w.heap.size w w' := by
  obtain ⟨A, hA⟩ : ∃ A, A = wrongS x.ser := ⟨_, rfl⟩
  obtain ⟨B, hB⟩ : ∃ B, B = Grain.wrong x.smp := ⟨_, rfl⟩
  have HR : Hid (lnAlone x.ln = if A = 0 then B.1 else A) := by show _ = _; rw [hA, hB]; rfl
  have HA := hide hA
  have HB := hide hB
  have HN := hide hn
  have HM := hide hm
  clear hA hB hn hm
  obtain ⟨R, hR⟩ : ∃ R, R = lnAlone x.ln := ⟨_, rfl⟩
  rw [← hR]
  have HR2 := hide hR
  clear hR
  obtain ⟨V, hV⟩ : ∃ V, V = w.alloc (.cells #[.slice x.sa n x.sc, .slice x.pa m x.pc] 43) := ⟨_, rfl⟩
  have bel : Below w.heap.size w V := by rw [hV]; exact (Below.refl _ _).alloc (Nat.le_refl _) _
  have F0 : V.heap[w.heap.size]? = some (.cells #[.slice x.sa n x.sc, .slice x.pa m x.pc] 43 (0, 0)) := by rw [hV]; exact heap_alloc_new w _
  have hxV := hx.below bel
  have HV := hide hV
  clear hV hx
  go_enter Tryz.func20, Tryz.ntmps20
  go_wp2_with fail
  rw [← HV.out]
  refine (nwrong_any x.ser x.sa n x.sc V hxV.ser HN.out hxV.fit).mono ?_
  rintro e w1 ⟨rfl, b1⟩
  rw [← HA.out]
  obtain ⟨p0, p1, _, _⟩ := two_cells (below_block b1 F0)
  by_cases h0 : A = 0
  · have HR3 : Hid (R = B.1) := by show _ = _; rw [HR2.out, HR.out, if_pos h0]
    subst h0
    go_wp2_with fail
    refine (wrong_len x.smp x.pa m x.pc w1 (hxV.smp.below b1) HM.out).mono ?_
    rintro e w2 ⟨rfl, b2⟩
    rw [← HB.out]
    obtain ⟨B1, B2⟩ := B
    have hfl : ∀ w, Sem.run Tryz.prog (Instr.field 34 (.agg #[.int .i64 B1, .int .i64 B2]) 0) w = .ok (.int .i64 B1) w := by intro w; simp [Instr.field, go_sem, asAgg]
    go_wp2
    go_ret
    exact ⟨ret_int HR3.out.symm, bel.trans ((below_step b2 b1).mono bel.size)⟩
  · have HR3 : Hid (R = A) := by show _ = _; rw [HR2.out, HR.out, if_neg h0]
    have hd : (A != 0) = true := by simpa using h0
    clear h0
    go_wp2
    go_ret
    exact ⟨ret_int HR3.out.symm, bel.trans (b1.mono bel.size)⟩

set_option maxRecDepth 100000 in
set_option maxHeartbeats 4000000 in
theorem mwrong_any (l : List LT) (ao : Option Addr) (n cap : Nat) (w : World) (hs : Seg w ao (tcells l)) (hin : LnsIn w l) (hn : n = l.length) :
    Calls Tryz.prog 7 #[.slice ao n cap] w fun e w' => e = .returned (.agg #[.int .i64 (wrLn (lns l)).1, .int .i64 (wrLn (lns l)).2]) ∧ Below w.heap.size w w' := by
  by_cases h5 : 8 < n
  · have hw : wrLn (lns l) = (5, 0) := by simp [wrLn, lns_len, ← hn, h5]
    rw [hw]; clear hw hn
    have hd : decide ((8 : Int) < (n : Int)) = true := by simp; omega
    go_enter Tryz.func7, Tryz.ntmps7
    go_wp2
    exact bodyPost_ret (v := .agg #[.int .i64 5, .int .i64 0]) (by simp [results, Tryz.results7, go_sem]) rfl ⟨rfl, by go_grown⟩
  · have hw : wrLn (lns l) = wrLF (lns l) n 0 := by simp [wrLn, lns_len, ← hn, h5]
    rw [hw]; clear hw
    have HN := hide hn
    have HI := hide hin
    clear hn hin
    have hd : decide ((8 : Int) < (n : Int)) = false := by simp; omega
    go_enter Tryz.func7, Tryz.ntmps7
    go_wp2
    go_loopw [12] (fun i wr => ∃ k : Nat, k ≤ n ∧ i = .int .i64 k ∧ Hid (wrLF (lns l) n 0 = wrLF (lns l) (n - k) k) ∧ wr.heap[w.heap.size]? = some (.cells #[.int .i64 0, .int .i64 0] 34 (0, 0)) ∧ Below w.heap.size w wr) (fun i _ => n - (intOf i).toNat)
    case atStart => exact ⟨0, Nat.zero_le _, rfl, rfl, heap_alloc_new w _, by go_grown⟩
    case round =>
      obtain ⟨k, hk, rfl, HW, hres, bel⟩ := hrel
      have hB : w.heap.size < wr.heap.size := lt_of_block hres
      by_cases hlt : k < n
      · have hkl : k < l.length := by rw [← HN.out]; exact hlt
        obtain ⟨b, off, rfl, hb, hcell⟩ := seg_line hs hkl
        obtain ⟨x, hx⟩ : ∃ x, x = lt l k := ⟨_, rfl⟩
        obtain ⟨sn, hsn⟩ : ∃ sn, sn = x.ser.length := ⟨_, rfl⟩
        obtain ⟨pn, hpn⟩ : ∃ pn, pn = x.smp.length := ⟨_, rfl⟩
        have okx : LnOk w x := by rw [hx]; exact HI.out _ (lt_mem hkl)
        have c0 : wr.cell? ⟨b, off + k * 2, none⟩ = some (.slice x.sa sn x.sc) := by rw [hsn, hx]; exact (bel.cell (by exact hb)).trans (hcell k hkl).1
        have c1 : wr.cell? ⟨b, off + k * 2 + 1, none⟩ = some (.slice x.pa pn x.pc) := by rw [hpn, hx]; exact (bel.cell (by exact hb)).trans (hcell k hkl).2
        obtain ⟨A, hA⟩ : ∃ A, A = lnAlone x.ln := ⟨_, rfl⟩
        have HBD : Hid (lnBad (lns l) k = if A = 0 then (if 0 < k ∧ 0 ≤ cmpS (lt l (k - 1)).ser x.ser then 2 else 0) else A) := by
          show _ = _
          unfold lnBad
          rw [lser_lt hkl, lsmp_lt hkl, lser_lt (show k - 1 < l.length by omega), hA, hx]
          rfl
        obtain ⟨V, hV⟩ : ∃ V, V = wr.alloc (.cells #[.slice x.sa sn x.sc, .slice x.pa pn x.pc] 43) := ⟨_, rfl⟩
        obtain ⟨X, hX⟩ : ∃ X, X = wr.heap.size := ⟨_, rfl⟩
        have F1 : V.heap[X]? = some (.cells #[.slice x.sa sn x.sc, .slice x.pa pn x.pc] 43 (0, 0)) := by rw [hV, hX]; exact heap_alloc_new wr _
        have bel1 : Below w.heap.size w V := by rw [hV]; exact bel.alloc (by omega) _
        have res1 : V.heap[w.heap.size]? = some (.cells #[.int .i64 0, .int .i64 0] 34 (0, 0)) := by rw [hV, Below.heap_alloc _ _ _ hB]; exact hres
        have HV := hide hV
        have HX := hide hX
        have HSN := hide hsn
        have HPN := hide hpn
        have HA := hide hA
        have HC := hide hcell
        have Hx := hide hx
        have hsz := bel1.size
        clear hV hsn hpn hA hcell hx bel hres
        go_wp2_with fail
        rw [← HV.out]
        refine (malone_any x sn pn V (okx.below bel1) HSN.out HPN.out).mono ?_
        rintro e w1 ⟨rfl, b1⟩
        rw [← HA.out]
        have bel2 : Below w.heap.size w w1 := bel1.trans (b1.mono hsz)
        have F2 := below_block b1 F1
        have res2 := below_block b1 res1
        obtain ⟨r0, r1, r2, r3⟩ := two_cells res2
        obtain ⟨p0, p1, _, _⟩ := two_cells F2
        clear b1 bel1 F1 res1 c0 c1 HV
        rw [← HX.out]
        clear HX hX
        by_cases h0 : A = 0
        rotate_left
        · have hw : Hid (wrLF (lns l) n 0 = (A, (k : Int))) := by
            have hbad : lnBad (lns l) k = A := by rw [HBD.out, if_neg h0]
            show _ = _
            rw [HW.out, show n - k = (n - k - 1) + 1 from by omega, wrLF_no (by rw [hbad]; exact h0), hbad]
          have hd : (A != 0) = true := by simpa using h0
          clear HW HBD h0
          go_wp2
          exact bodyPost_ret (v := .agg #[.int .i64 A, .int .i64 k]) (by simp [results, Tryz.results7, go_sem, r0, r1]) rfl ⟨by rw [hw.out], (bel2.setCell (Nat.le_refl _) _).setCell (Nat.le_refl _) _⟩
        · have HBD2 : Hid (lnBad (lns l) k = if 0 < k ∧ 0 ≤ cmpS (lt l (k - 1)).ser x.ser then 2 else 0) := by show _ = _; rw [HBD.out, if_pos h0]
          subst h0
          clear HBD
          rcases Nat.eq_zero_or_pos k with hk0 | hk0
          · subst hk0
            have hg : decide ((0 : Int) < ((0 : Nat) : Int)) = false := by decide
            have hg' : decide ((0 : Int) < 0) = false := by decide
            have hw : Hid (wrLF (lns l) n 0 = wrLF (lns l) (n - (0 + 1)) (0 + 1)) := by
              show _ = _
              rw [HW.out, show n - 0 = (n - (0 + 1)) + 1 from by omega, wrLF_ok (by rw [HBD2.out]; simp)]
            clear HW HBD2
            go_wp2
            go_quiet (fail)
            go_wp2
            go_roundw
            case rel => exact ⟨0 + 1, by omega, by go_num, hw, res2, below_drewN bel2 _⟩
            case measure => simp [intOf]; omega
          · obtain ⟨m, rfl⟩ : ∃ m, k = m + 1 := ⟨k - 1, by omega⟩
            have hg : decide ((0 : Int) < ((m + 1 : Nat) : Int)) = true := by simp
            have hg' : decide ((0 : Int) < (m : Int) + 1) = true := by simp
            have hml : m < l.length := by omega
            obtain ⟨y, hy⟩ : ∃ y, y = lt l m := ⟨_, rfl⟩
            obtain ⟨yn, hyn⟩ : ∃ yn, yn = y.ser.length := ⟨_, rfl⟩
            have oky : LnOk w y := by rw [hy]; exact HI.out _ (lt_mem hml)
            have q0 : w1.cell? ⟨b, off + m * 2, none⟩ = some (.slice y.sa yn y.sc) := by rw [hyn, hy]; exact (bel2.cell (by exact hb)).trans (HC.out m hml).1
            obtain ⟨C, hC⟩ : ∃ C, C = cmpS y.ser x.ser := ⟨_, rfl⟩
            have HBD3 : Hid (lnBad (lns l) (m + 1) = if 0 ≤ C then 2 else 0) := by
              show _ = _
              rw [HBD2.out, hC, hy, show m + 1 - 1 = m from rfl]
              simp
            have HYN := hide hyn
            have HCC := hide hC
            have bw1 : b < w1.heap.size := World.block_lt_of_cell? w1 _ q0
            have Xw1 : X < w1.heap.size := lt_of_block F2
            have HS : Hid (∀ w', Below w1.heap.size w1 w' → w'.cell? ⟨b, off + m * 2, none⟩ = some (.slice y.sa yn y.sc) ∧ w'.cell? ⟨X, 0, none⟩ = some (.slice x.sa sn x.sc)) := fun w' hb' => ⟨(hb'.cell (by exact bw1)).trans q0, (hb'.cell (by exact Xw1)).trans p0⟩
            have R0 : Below w1.heap.size w1 w1.drew := below_drewN (Below.refl _ _) 1
            have i1 : (0 : Int) ≤ (m : Int) := by omega
            have i2 : (m : Int) < (n : Int) := by omega
            have i10 : IntKind.i64.wrap (m : Int) = (m : Int) := by rw [IntKind.wrap_i64]; omega
            have i3 : IntKind.i64.wrap ((m : Int) + 1 - 1) = (m : Int) := by rw [IntKind.wrap_i64]; omega
            have i4 : IntKind.i64.wrap (((m + 1 : Nat) : Int) - 1) = (m : Int) := by rw [IntKind.wrap_i64]; omega
            have HL : Hid (yn ≤ 9223372036854775807) := by show _ ≤ _; rw [HYN.out]; have := oky.ls; omega
            clear hy hyn hC HBD2 hml
            go_wp2_with fail
            have hnn : decide (m < n) = true := by simp; omega
            have i7 : m < n := by omega
            have i8 : ¬ (n ≤ m) := by omega
            have i9 : ¬ (m = n) := by omega
            go_region_held3 (fun w' => w'.cell? ⟨b, off + m * 2, none⟩ = some (.slice y.sa yn y.sc) ∧ w'.cell? ⟨X, 0, none⟩ = some (.slice x.sa sn x.sc)) (exact HS.out _ (by assumption))
              (first | (go_at_call 21; refine (ncmp_any y.ser x.ser y.sa x.sa yn sn y.sc x.sc _ (oky.ser.below (bel2.trans (Below.mono (by assumption) bel2.size))) (okx.ser.below (bel2.trans (Below.mono (by assumption) bel2.size))) HYN.out HSN.out HL.out).mono ?_; rintro e w3 ⟨rfl, b3⟩; rw [← HCC.out]; have R4 := below_step b3 (by assumption)))
            all_goals
              have bel3 : Below w.heap.size w w3 := bel2.trans (R4.mono bel2.size)
              have res3 := below_block R4 res2
              clear R4 b3 R0 HS q0 bel2 res2 F2 p0 p1 r0 r1 r2 r3 i1 i2 i3 i4 i7 i8 i9 i10
              obtain ⟨r0, r1, r2, r3⟩ := two_cells res3
              by_cases hC : 0 ≤ C
              · have hw : Hid (wrLF (lns l) n 0 = (2, ((m : Int) + 1))) := by
                  have hbad : lnBad (lns l) (m + 1) = 2 := by rw [HBD3.out, if_pos hC]
                  show _ = _
                  rw [HW.out, show n - (m + 1) = (n - (m + 1) - 1) + 1 from by omega, wrLF_no (by rw [hbad]; decide), hbad]
                  simp
                clear HW HBD3
                go_wp2
                exact bodyPost_ret (v := .agg #[.int .i64 2, .int .i64 ((m : Int) + 1)]) (by simp [results, Tryz.results7, go_sem, r0, r1]) rfl ⟨by rw [hw.out], (bel3.setCell (Nat.le_refl _) _).setCell (Nat.le_refl _) _⟩
              · have hw : Hid (wrLF (lns l) n 0 = wrLF (lns l) (n - (m + 1 + 1)) (m + 1 + 1)) := by
                  show _ = _
                  rw [HW.out, show n - (m + 1) = (n - (m + 1 + 1)) + 1 from by omega, wrLF_ok (by rw [HBD3.out, if_neg hC])]
                clear HW HBD3
                go_wp2
                go_roundw
                case rel => exact ⟨m + 1 + 1, by omega, by go_num, hw, res3, bel3⟩
                case measure => simp [intOf]; omega
      · obtain ⟨r0, r1, r2, r3⟩ := two_cells hres
        have he : k = n := by omega
        subst he
        have hw : Hid (wrLF (lns l) k 0 = (0, 0)) := by
          show _ = _
          rw [HW.out]; simp [wrLF]
        clear HW
        go_wp2
        exact bodyPost_ret (v := .agg #[.int .i64 0, .int .i64 0]) (by simp [results, Tryz.results7, go_sem, r0, r1]) rfl ⟨by rw [hw.out], (bel.setCell (Nat.le_refl _) _).setCell (Nat.le_refl _) _⟩

end Go.Proofs.YthohkokhimdamaaGreat
