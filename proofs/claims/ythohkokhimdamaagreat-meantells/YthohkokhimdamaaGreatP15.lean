/-
  The walk of the document's WrongLines.
-/
import Derived.Test.YthohkokhimdamaaGreatP14
import Derived.Test.YthohkokhimdamaaGreatP03
import Derived.Test.YthohkokhimdamaaGreatP13
import Derived.Test.YthohkokhimdamaaGreatP07
import Derived.Deep.RegionHeld3
/-
  The walk of the document's WrongSeries.
-/
namespace Go.Proofs.YthohkokhimdamaaGreat
open Go.RowKit Go.GrainU

set_option maxHeartbeats 2000000 in
theorem rwrongs_any (l : List (ByteArray × ByteArray)) (ao : Option Addr) (n cap : Nat) (w : World) (hs : Seg w ao (lcells l)) (hn : n = l.length) (hf : Fits l) :
    Calls Tryz.prog 23 #[.slice ao n cap] w fun e w' => e = .returned (.int .i64 (wrongS l)) ∧ Below w.heap.size w w' := by
  by_cases h5 : 4 < n
  · have hw : wrongS l = 5 := by simp [wrongS, ← hn, h5]
    rw [hw]; clear hw hn
    have hd : decide ((4 : Int) < (n : Int)) = true := by simp; omega
    go_enter Tryz.func23, Tryz.ntmps23
    go_wp2
    go_ret
    exact ⟨rfl, Below.refl _ _⟩
  · have hw : wrongS l = wrongSF l n 0 := by simp [wrongS, ← hn, h5]
    rw [hw]; clear hw
    have HN := hide hn
    have HF := hide hf
    clear hn hf
    have hd : decide ((4 : Int) < (n : Int)) = false := by simp; omega
    go_enter Tryz.func23, Tryz.ntmps23
    go_wp2
    go_loopw [10] (fun i wr => ∃ k : Nat, k ≤ n ∧ i = .int .i64 k ∧ Hid (wrongSF l n 0 = wrongSF l (n - k) k) ∧ Below w.heap.size w wr) (fun i _ => n - (intOf i).toNat)
    case atStart => exact ⟨0, Nat.zero_le _, rfl, rfl, Below.refl _ _⟩
    case round =>
      obtain ⟨k, hk, rfl, HW, bel⟩ := hrel
      have hsz := bel.size
      by_cases hlt : k < n
      · have hkl : k < l.length := by rw [← HN.out]; exact hlt
        obtain ⟨b, off, rfl, hb, hcell⟩ := seg_label hs hkl
        obtain ⟨x, hx⟩ : ∃ x, x = lk l k := ⟨_, rfl⟩
        obtain ⟨y, hy⟩ : ∃ y, y = lv l k := ⟨_, rfl⟩
        have c0 : wr.cell? ⟨b, off + k * 2, none⟩ = some (.string x) := by rw [hx]; exact (bel.cell (by exact hb)).trans (hcell k hkl).1
        have c1 : wr.cell? ⟨b, off + k * 2 + 1, none⟩ = some (.string y) := by rw [hy]; exact (bel.cell (by exact hb)).trans (hcell k hkl).2
        have fx : x.size ≤ 9223372036854775807 := by rw [hx]; exact (HF.out k hkl).1
        have fy : y.size ≤ 9223372036854775807 := by rw [hy]; exact (HF.out k hkl).2
        have HX := hide hx
        have HY := hide hy
        have NO : Hid ((Grain.named x && Grain.named y) = false → wrongSF l n 0 = 7) := by
          intro h
          have hbad : badS l k = 7 := by unfold badS; rw [← HX.out, ← HY.out, h]; simp
          rw [HW.out, show n - k = (n - k - 1) + 1 from by omega, wrongSF_no (by rw [hbad]; decide), hbad]
        obtain ⟨N1, hN1⟩ : ∃ N1, N1 = Grain.named x := ⟨_, rfl⟩
        obtain ⟨N2, hN2⟩ : ∃ N2, N2 = Grain.named y := ⟨_, rfl⟩
        have H1 := hide hN1
        have H2 := hide hN2
        have HC := hide hcell
        clear hx hy hkl hN1 hN2 hcell
        go_wp2_with fail
        refine (rnamed_any x _ fx).mono ?_
        rintro e w1 ⟨rfl, hb1⟩
        rw [← H1.out]
        have F1 := below_block hb1 (heap_alloc_new wr (.cells #[.string x, .string y] 88))
        obtain ⟨p0, p1, _, _⟩ := two_cells F1
        have bel1 : Below w.heap.size w w1 := (bel.alloc hsz _).trans (hb1.mono (by simp; omega))
        have hs1 := bel1.size
        clear hb1 bel c0 c1
        cases N1 with
        | false =>
          have hw := hide (NO.out (by rw [← H1.out]; rfl))
          clear NO HW
          go_wp2
          go_ret
          exact ⟨ret_int hw.out.symm, bel1⟩
        | true =>
          go_wp2_with fail
          refine (rnamed_any y _ fy).mono ?_
          rintro e w2 ⟨rfl, hb2⟩
          rw [← H2.out]
          have F2 := below_block hb2 F1
          obtain ⟨p0, p1, _, _⟩ := two_cells F2
          have bel2 : Below w.heap.size w w2 := bel1.trans (hb2.mono hs1)
          clear hb2 bel1
          cases N2 with
          | false =>
            have hw := hide (NO.out (by rw [← H2.out]; simp))
            clear NO HW
            go_wp2
            go_ret
            exact ⟨ret_int hw.out.symm, bel2⟩
          | true =>
            have hgood : Hid ((Grain.named (lk l k) && Grain.named (lv l k)) = true) := by
              show (Grain.named (lk l k) && Grain.named (lv l k)) = true
              rw [← HX.out, ← HY.out, ← H1.out, ← H2.out]; rfl
            clear NO
            rcases Nat.eq_zero_or_pos k with hk0 | hk0
            · subst hk0
              have hg : decide ((0 : Int) < ((0 : Nat) : Int)) = false := by decide
              have hg' : decide ((0 : Int) < 0) = false := by decide
              have hw : Hid (wrongSF l n 0 = wrongSF l (n - (0 + 1)) (0 + 1)) := by
                show wrongSF l n 0 = wrongSF l (n - (0 + 1)) (0 + 1)
                have hbad : badS l 0 = 0 := by unfold badS; rw [hgood.out]; simp
                rw [HW.out, show n - 0 = (n - (0 + 1)) + 1 from by omega, wrongSF_ok hbad]
              clear HW hgood
              go_wp2
              go_quiet (fail)
              go_wp2
              go_roundw
              case rel => exact ⟨0 + 1, by omega, by go_num, hw, below_drewN bel2 _⟩
              case measure => simp [intOf]; omega
            · obtain ⟨m, rfl⟩ : ∃ m, k = m + 1 := ⟨k - 1, by omega⟩
              have hg : decide ((0 : Int) < ((m + 1 : Nat) : Int)) = true := by simp
              have hg' : decide ((0 : Int) < (m : Int) + 1) = true := by simp
              obtain ⟨z, hz⟩ : ∃ z, z = lk l m := ⟨_, rfl⟩
              have q0 : w2.cell? ⟨b, off + m * 2, none⟩ = some (.string z) := by rw [hz]; exact (bel2.cell (by exact hb)).trans (HC.out m (by rw [← HN.out]; omega)).1
              cases hle : wle x z with
              | true =>
                have hle' : (Op.bytesLess x.toList z.toList || x.toList == z.toList) = true := hle
                have hw : Hid (wrongSF l n 0 = 2) := by
                  show wrongSF l n 0 = 2
                  have hbad : badS l (m + 1) = 2 := by
                    unfold badS
                    rw [hgood.out, if_neg (by simp), if_pos ⟨by omega, by rw [← HX.out]; simpa [← hz] using hle⟩]
                  rw [HW.out, show n - (m + 1) = (n - (m + 1) - 1) + 1 from by omega, wrongSF_no (by rw [hbad]; decide), hbad]
                clear HW hgood hz hle
                go_wp2
                go_quiet (fail)
                go_wp2
                go_ret
                exact ⟨ret_int hw.out.symm, below_drewN bel2 _⟩
              | false =>
                have hle' : (Op.bytesLess x.toList z.toList || x.toList == z.toList) = false := hle
                have hw : Hid (wrongSF l n 0 = wrongSF l (n - (m + 1 + 1)) (m + 1 + 1)) := by
                  show wrongSF l n 0 = wrongSF l (n - (m + 1 + 1)) (m + 1 + 1)
                  have hbad : badS l (m + 1) = 0 := by
                    unfold badS
                    rw [hgood.out, if_neg (by simp), if_neg (by rw [← HX.out]; simp [← hz, hle])]
                  rw [HW.out, show n - (m + 1) = (n - (m + 1 + 1)) + 1 from by omega, wrongSF_ok hbad]
                clear HW hgood hz hle
                go_wp2
                go_quiet (fail)
                go_wp2
                go_roundw
                case rel => exact ⟨m + 1 + 1, by omega, by go_num, hw, below_drewN bel2 _⟩
                case measure => simp [intOf]; omega
      · have he : k = n := by omega
        subst he
        have hw : Hid (wrongSF l k 0 = 0) := by
          show wrongSF l k 0 = 0
          rw [HW.out]; simp [wrongSF]
        clear HW
        go_wp2
        go_ret
        exact ⟨ret_int hw.out.symm, bel⟩

end Go.Proofs.YthohkokhimdamaaGreat

/-
  The walk of the document's WrongLines.
-/
namespace Go.Proofs.YthohkokhimdamaaGreat
open Go.RowKit Go.GrainU

theorem rbad_any (e i : Int) (B : Nat) (w : World) (h : w.cell? ⟨B, 0, none⟩ = some (.int .i64 i)) :
    Calls Tryz.prog 22 #[.int .i64 e, .pointer (some ⟨B, 0, none⟩)] w fun r w' => r = .returned (.agg #[.int .i64 e, .int .i64 i]) ∧ Below w.heap.size w w' := by
  have hB : B < w.heap.size := World.block_lt_of_cell? w _ h
  go_enter Tryz.func22, Tryz.ntmps22
  go_wp2
  exact bodyPost_ret (v := .agg #[.int .i64 e, .int .i64 i]) (by simp [results, Tryz.results22, go_sem]) rfl ⟨rfl, by go_grown⟩

set_option maxRecDepth 100000 in
set_option maxHeartbeats 4000000 in
theorem rlines_any (l : List LT) (ao : Option Addr) (n cap : Nat) (w : World) (hs : Seg w ao (tcells l)) (hin : LnsIn w l) (hn : n = l.length) :
    Calls Tryz.prog 8 #[.slice ao n cap] w fun e w' => e = .returned (.agg #[.int .i64 (wrLn (lns l)).1, .int .i64 (wrLn (lns l)).2]) ∧ Below w.heap.size w w' := by
  by_cases h5 : 8 < n
  · have hw : wrLn (lns l) = (5, 0) := by simp [wrLn, lns_len, ← hn, h5]
    rw [hw]; clear hw hn
    have hd : decide ((8 : Int) < (n : Int)) = true := by simp; omega
    go_enter Tryz.func8, Tryz.ntmps8
    go_wp2
    exact bodyPost_ret (v := .agg #[.int .i64 5, .int .i64 0]) (by simp [results, Tryz.results8, go_sem]) rfl ⟨rfl, by go_grown⟩
  · have hw : wrLn (lns l) = wrLF (lns l) n 0 := by simp [wrLn, lns_len, ← hn, h5]
    rw [hw]; clear hw
    have HN := hide hn
    have HI := hide hin
    clear hn hin
    have hd : decide ((8 : Int) < (n : Int)) = false := by simp; omega
    go_enter Tryz.func8, Tryz.ntmps8
    go_wp2
    go_loopw [14] (fun i wr => ∃ k : Nat, k ≤ n ∧ i = .int .i64 k ∧ Hid (wrLF (lns l) n 0 = wrLF (lns l) (n - k) k) ∧ wr.heap[w.heap.size]? = some (.cells #[.int .i64 0, .int .i64 0] 34 (0, 0)) ∧ Below w.heap.size w wr) (fun i _ => n - (intOf i).toNat)
    case atStart => exact ⟨0, Nat.zero_le _, rfl, rfl, heap_alloc_new w _, by go_grown⟩
    case round =>
      obtain ⟨k, hk, rfl, HW, hres, bel⟩ := hrel
      have hB : w.heap.size < wr.heap.size := lt_of_block hres
      by_cases hlt : k < n
      · have hkl : k < l.length := by rw [← HN.out]; exact hlt
        obtain ⟨b, off, rfl, hb, hcell⟩ := seg_line hs hkl
        obtain ⟨x, hx⟩ : ∃ x, x = lt l k := ⟨_, rfl⟩
        obtain ⟨sn, hsn⟩ : ∃ sn, sn = x.ser.length := ⟨_, rfl⟩
        obtain ⟨pn, hpn⟩ : ∃ pn, pn = x.smp.length := ⟨_, rfl⟩
        have okx : LnOk w x := by rw [hx]; exact HI.out _ (lt_mem hkl)
        have c0 : wr.cell? ⟨b, off + k * 2, none⟩ = some (.slice x.sa sn x.sc) := by rw [hsn, hx]; exact (bel.cell (by exact hb)).trans (hcell k hkl).1
        have c1 : wr.cell? ⟨b, off + k * 2 + 1, none⟩ = some (.slice x.pa pn x.pc) := by rw [hpn, hx]; exact (bel.cell (by exact hb)).trans (hcell k hkl).2
        obtain ⟨A, hA⟩ : ∃ A, A = wrongS x.ser := ⟨_, rfl⟩
        obtain ⟨D1, hD1⟩ : ∃ D, D = (Grain.wrong x.smp).1 := ⟨_, rfl⟩
        obtain ⟨D2, hD2⟩ : ∃ D, D = (Grain.wrong x.smp).2 := ⟨_, rfl⟩
        have HBD : Hid (lnBad (lns l) k = if (if A = 0 then D1 else A) = 0 then (if 0 < k ∧ 0 ≤ cmpS (lt l (k - 1)).ser x.ser then 2 else 0) else (if A = 0 then D1 else A)) := by
          show _ = _
          unfold lnBad
          rw [lser_lt hkl, lsmp_lt hkl, lser_lt (show k - 1 < l.length by omega), hA, hD1, hx]
          rfl
        obtain ⟨V, hV⟩ : ∃ V, V = (wr.alloc (.cells #[.int .i64 k] 3)).alloc (.cells #[.slice x.sa sn x.sc, .slice x.pa pn x.pc] 43) := ⟨_, rfl⟩
        obtain ⟨X, hX⟩ : ∃ X, X = wr.heap.size := ⟨_, rfl⟩
        have I1 : V.heap[X]? = some (.cells #[.int .i64 k] 3 (0, 0)) := by rw [hV, hX, Below.heap_alloc _ _ _ (by simp)]; exact heap_alloc_new wr _
        have F1 : V.heap[X + 1]? = some (.cells #[.slice x.sa sn x.sc, .slice x.pa pn x.pc] 43 (0, 0)) := by
          have := heap_alloc_new (wr.alloc (.cells #[.int .i64 k] 3)) (.cells #[.slice x.sa sn x.sc, .slice x.pa pn x.pc] 43)
          rw [hV, hX]; simpa using this
        have bel1 : Below w.heap.size w V := by rw [hV]; exact (bel.alloc (by omega) _).alloc (by simp; omega) _
        have res1 : V.heap[w.heap.size]? = some (.cells #[.int .i64 0, .int .i64 0] 34 (0, 0)) := by rw [hV, Below.heap_alloc _ _ _ (by simp; omega), Below.heap_alloc _ _ _ hB]; exact hres
        have HV := hide hV
        have HX := hide hX
        have HSN := hide hsn
        have HPN := hide hpn
        have HA := hide hA
        have HD1 := hide hD1
        have HD2 := hide hD2
        have HC := hide hcell
        have Hx := hide hx
        have hsz := bel1.size
        clear hV hsn hpn hA hD1 hD2 hcell hx bel hres
        go_wp2_with fail
        rw [← HV.out]
        refine (rwrongs_any x.ser x.sa sn x.sc V (okx.ser.below bel1) HSN.out okx.fit).mono ?_
        rintro e w1 ⟨rfl, b1⟩
        rw [← HA.out]
        have bel2 : Below w.heap.size w w1 := bel1.trans (b1.mono hsz)
        have F2 := below_block b1 F1
        have I2 := below_block b1 I1
        have res2 := below_block b1 res1
        clear b1 bel1 F1 I1 res1 c0 c1 HV
        rw [← HX.out]
        clear HX hX
        by_cases h0 : A = 0
        rotate_left
        · have hw : Hid (wrLF (lns l) n 0 = (A, (k : Int))) := by
            have hbad : lnBad (lns l) k = A := by rw [HBD.out, if_neg h0, if_neg h0]
            show _ = _
            rw [HW.out, show n - k = (n - k - 1) + 1 from by omega, wrLF_no (by rw [hbad]; exact h0), hbad]
          have hd : (A != 0) = true := by simpa using h0
          clear HW HBD h0
          go_wp2_with fail
          refine (rbad_any A k X w1 (by simp [World.cell?, I2])).mono ?_
          rintro e w2 ⟨rfl, b2⟩
          have bel3 : Below w.heap.size w w2 := below_step b2 bel2
          obtain ⟨r0, r1, r2, r3⟩ := two_cells (below_block b2 res2)
          go_wp2
          exact bodyPost_ret (v := .agg #[.int .i64 A, .int .i64 k]) (by simp [results, Tryz.results8, go_sem, r0, r1]) rfl ⟨by rw [hw.out], (bel3.setCell (Nat.le_refl _) _).setCell (Nat.le_refl _) _⟩
        · have HBD1 : Hid (lnBad (lns l) k = if D1 = 0 then (if 0 < k ∧ 0 ≤ cmpS (lt l (k - 1)).ser x.ser then 2 else 0) else D1) := by show _ = _; rw [HBD.out, if_pos h0]
          subst h0
          clear HBD
          obtain ⟨p0, p1, _, _⟩ := two_cells F2
          go_wp2_with fail
          refine (rwrongC_any x.smp x.pa pn x.pc w1 (okx.smp.below bel2) HPN.out).mono ?_
          rintro e w2 ⟨rfl, b2⟩
          rw [← HD1.out, ← HD2.out]
          obtain ⟨U, hU⟩ : ∃ U, U = w2.alloc (.cells #[.int .i64 D1, .int .i64 D2] 34) := ⟨_, rfl⟩
          obtain ⟨Y, hY⟩ : ∃ Y, Y = w2.heap.size := ⟨_, rfl⟩
          have G1 : U.heap[Y]? = some (.cells #[.int .i64 D1, .int .i64 D2] 34 (0, 0)) := by rw [hU, hY]; exact heap_alloc_new w2 _
          have bU : Below w2.heap.size w2 U := by rw [hU]; exact (Below.refl _ _).alloc (Nat.le_refl _) _
          have bU1 : Below w1.heap.size w1 U := below_step bU b2
          have bel3 : Below w.heap.size w U := below_step bU1 bel2
          have F3 := below_block bU1 F2
          have I3 := below_block bU1 I2
          have res3 := below_block bU1 res2
          have HU := hide hU
          have HY := hide hY
          clear hU b2 bU bU1 bel2 F2 I2 res2 p0 p1
          obtain ⟨g0, g1, _, _⟩ := two_cells G1
          by_cases h1 : D1 = 0
          rotate_left
          · have hw : Hid (wrLF (lns l) n 0 = (D1, (k : Int))) := by
              have hbad : lnBad (lns l) k = D1 := by rw [HBD1.out, if_neg h1]
              show _ = _
              rw [HW.out, show n - k = (n - k - 1) + 1 from by omega, wrLF_no (by rw [hbad]; exact h1), hbad]
            have hd : (D1 != 0) = true := by simpa using h1
            clear HW HBD1 h1
            go_wp2_with fail
            rw [← HU.out]
            refine (rbad_any D1 k X U (by simp [World.cell?, I3])).mono ?_
            rintro e w3 ⟨rfl, b3⟩
            have bel4 : Below w.heap.size w w3 := below_step b3 bel3
            obtain ⟨r0, r1, r2, r3⟩ := two_cells (below_block b3 res3)
            go_wp2
            exact bodyPost_ret (v := .agg #[.int .i64 D1, .int .i64 k]) (by simp [results, Tryz.results8, go_sem, r0, r1]) rfl ⟨by rw [hw.out], (bel4.setCell (Nat.le_refl _) _).setCell (Nat.le_refl _) _⟩
          · have HBD2 : Hid (lnBad (lns l) k = if 0 < k ∧ 0 ≤ cmpS (lt l (k - 1)).ser x.ser then 2 else 0) := by show _ = _; rw [HBD1.out, if_pos h1]
            subst h1
            clear HBD1
            have i0 : U.cell? ⟨X, 0, none⟩ = some (.int .i64 k) := by simp [World.cell?, I3]
            have iX : X < U.heap.size := lt_of_block I3
            rcases Nat.eq_zero_or_pos k with hk0 | hk0
            · subst hk0
              have hg : decide ((0 : Int) < ((0 : Nat) : Int)) = false := by decide
              have hg' : decide ((0 : Int) < 0) = false := by decide
              have hw : Hid (wrLF (lns l) n 0 = wrLF (lns l) (n - (0 + 1)) (0 + 1)) := by
                show _ = _
                rw [HW.out, show n - 0 = (n - (0 + 1)) + 1 from by omega, wrLF_ok (by rw [HBD2.out]; simp)]
              clear HW HBD2
              go_wp2_with fail
              rw [← HU.out]
              go_quiet (fail)
              go_wp2
              go_roundw
              case rel => exact ⟨0 + 1, by omega, by go_num, hw, res3, below_drewN bel3 _⟩
              case measure => simp [intOf]; omega
            · obtain ⟨m, rfl⟩ : ∃ m, k = m + 1 := ⟨k - 1, by omega⟩
              have hg : decide ((0 : Int) < ((m + 1 : Nat) : Int)) = true := by simp
              have hg' : decide ((0 : Int) < (m : Int) + 1) = true := by simp
              have hml : m < l.length := by omega
              obtain ⟨y, hy⟩ : ∃ y, y = lt l m := ⟨_, rfl⟩
              obtain ⟨yn, hyn⟩ : ∃ yn, yn = y.ser.length := ⟨_, rfl⟩
              have oky : LnOk w y := by rw [hy]; exact HI.out _ (lt_mem hml)
              have q0 : U.cell? ⟨b, off + m * 2, none⟩ = some (.slice y.sa yn y.sc) := by rw [hyn, hy]; exact (bel3.cell (by exact hb)).trans (HC.out m hml).1
              obtain ⟨C, hC⟩ : ∃ C, C = cmpS y.ser x.ser := ⟨_, rfl⟩
              have HBD3 : Hid (lnBad (lns l) (m + 1) = if 0 ≤ C then 2 else 0) := by
                show _ = _
                rw [HBD2.out, hC, hy, show m + 1 - 1 = m from rfl]
                simp
              have HYN := hide hyn
              have HCC := hide hC
              have bw1 : b < U.heap.size := World.block_lt_of_cell? U _ q0
              obtain ⟨p0, p1, _, _⟩ := two_cells F3
              have Xw1 : X + 1 < U.heap.size := lt_of_block F3
              have HS : Hid (∀ w', Below U.heap.size U w' → w'.cell? ⟨b, off + m * 2, none⟩ = some (.slice y.sa yn y.sc) ∧ w'.cell? ⟨X + 1, 0, none⟩ = some (.slice x.sa sn x.sc) ∧ w'.cell? ⟨X, 0, none⟩ = some (.int .i64 ((m : Int) + 1))) := fun w' hb' => ⟨(hb'.cell (by exact bw1)).trans q0, (hb'.cell (by exact Xw1)).trans p0, (hb'.cell (by exact iX)).trans (by simpa using i0)⟩
              have R0 : Below U.heap.size U U.drew := below_drewN (Below.refl _ _) 1
              have i1 : (0 : Int) ≤ (m : Int) := by omega
              have i2 : (m : Int) < (n : Int) := by omega
              have i10 : IntKind.i64.wrap (m : Int) = (m : Int) := by rw [IntKind.wrap_i64]; omega
              have i3 : IntKind.i64.wrap ((m : Int) + 1 - 1) = (m : Int) := by rw [IntKind.wrap_i64]; omega
              have i4 : IntKind.i64.wrap (((m + 1 : Nat) : Int) - 1) = (m : Int) := by rw [IntKind.wrap_i64]; omega
              have HL : Hid (yn ≤ 9223372036854775807) := by show _ ≤ _; rw [HYN.out]; have := oky.ls; omega
              clear hy hyn hC HBD2 hml
              go_wp2_with fail
              rw [← HU.out]
              have hnn : decide (m < n) = true := by simp; omega
              have i7 : m < n := by omega
              have i8 : ¬ (n ≤ m) := by omega
              have i9 : ¬ (m = n) := by omega
              go_region_held3 (fun w' => w'.cell? ⟨b, off + m * 2, none⟩ = some (.slice y.sa yn y.sc) ∧ w'.cell? ⟨X + 1, 0, none⟩ = some (.slice x.sa sn x.sc) ∧ w'.cell? ⟨X, 0, none⟩ = some (.int .i64 ((m : Int) + 1))) (exact HS.out _ (by assumption))
                (first | (go_at_call 25; refine (rcmp_any y.ser x.ser y.sa x.sa yn sn y.sc x.sc _ (oky.ser.below (bel3.trans (Below.mono (by assumption) bel3.size))) (okx.ser.below (bel3.trans (Below.mono (by assumption) bel3.size))) HYN.out HSN.out HL.out).mono ?_; rintro e w3 ⟨rfl, b3⟩; rw [← HCC.out]; have R4 := below_step b3 (by assumption)))
              all_goals
                have bel4 : Below w.heap.size w w3 := bel3.trans (R4.mono bel3.size)
                have res4 := below_block R4 res3
                have I4 := below_block R4 I3
                clear R4 b3 R0 HS q0 bel3 res3 F3 p0 p1 i1 i2 i3 i4 i7 i8 i9 i10 G1 g0 g1 I3 i0
                by_cases hC : 0 ≤ C
                · have hw : Hid (wrLF (lns l) n 0 = (2, ((m : Int) + 1))) := by
                    have hbad : lnBad (lns l) (m + 1) = 2 := by rw [HBD3.out, if_pos hC]
                    show _ = _
                    rw [HW.out, show n - (m + 1) = (n - (m + 1) - 1) + 1 from by omega, wrLF_no (by rw [hbad]; decide), hbad]
                    simp
                  clear HW HBD3
                  go_wp2_with fail
                  refine (rbad_any 2 ((m : Int) + 1) X w3 (by simp [World.cell?, I4])).mono ?_
                  rintro e w4 ⟨rfl, b4⟩
                  have bel5 : Below w.heap.size w w4 := below_step b4 bel4
                  obtain ⟨r0, r1, r2, r3⟩ := two_cells (below_block b4 res4)
                  go_wp2
                  exact bodyPost_ret (v := .agg #[.int .i64 2, .int .i64 ((m : Int) + 1)]) (by simp [results, Tryz.results8, go_sem, r0, r1]) rfl ⟨by rw [hw.out], (bel5.setCell (Nat.le_refl _) _).setCell (Nat.le_refl _) _⟩
                · have hw : Hid (wrLF (lns l) n 0 = wrLF (lns l) (n - (m + 1 + 1)) (m + 1 + 1)) := by
                    show _ = _
                    rw [HW.out, show n - (m + 1) = (n - (m + 1 + 1)) + 1 from by omega, wrLF_ok (by rw [HBD3.out, if_neg hC])]
                  clear HW HBD3
                  go_wp2
                  go_roundw
                  case rel => exact ⟨m + 1 + 1, by omega, by go_num, hw, res4, bel4⟩
                  case measure => simp [intOf]; omega
      · obtain ⟨r0, r1, r2, r3⟩ := two_cells hres
        have he : k = n := by omega
        subst he
        have hw : Hid (wrLF (lns l) k 0 = (0, 0)) := by
          show _ = _
          rw [HW.out]; simp [wrLF]
        clear HW
        go_wp2
        exact bodyPost_ret (v := .agg #[.int .i64 0, .int .i64 0]) (by simp [results, Tryz.results8, go_sem, r0, r1]) rfl ⟨by rw [hw.out], (bel.setCell (Nat.le_refl _) _).setCell (Nat.le_refl _) _⟩

end Go.Proofs.YthohkokhimdamaaGreat
