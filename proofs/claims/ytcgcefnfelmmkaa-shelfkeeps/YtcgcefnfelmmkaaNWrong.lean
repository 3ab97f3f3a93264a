/-
  The walk of names.Wrong.
-/
import Derived.Test.YtcgcefnfelmmkaaNNamed
import Derived.Test.YtcgcefnfelmmkaaCmpM
namespace Go.GrainU

theorem wle_less (x z : ByteArray) : Op.bytesLess z.toList x.toList = !wle x z := by
  unfold wle
  cases h : Op.bytesLess z.toList x.toList with
  | true =>
    have h1 := less_asymm _ _ h
    have h2 : (x.toList == z.toList) = false := by
      rw [beq_eq_false_iff_ne]
      intro e
      rw [e, less_irrefl] at h
      cases h
    rw [h1, h2]; rfl
  | false =>
    by_cases e : x.toList = z.toList
    · rw [e]; simp
    · rw [less_total _ _ h (Ne.symm e)]; rfl

end Go.GrainU
namespace Go.Proofs.Ytcgcefnfelmmkaa
open Go.RowKit Go.GrainU

set_option maxHeartbeats 2000000 in
theorem nwrong_any (l : List (ByteArray × ByteArray)) (ao : Option Addr) (n cap : Nat) (w : World) (hs : Seg w ao (lcells l)) (hn : n = l.length) (hf : Fits l) :
    Calls Try.prog 18 #[.slice ao n cap] w fun e w' => e = .returned (.int .i64 (wrongS l)) ∧ Below w.heap.size w w' := by
  by_cases h5 : 4 < n
  · have hw : wrongS l = 5 := by simp [wrongS, ← hn, h5]
    rw [hw]; clear hw hn
    have hd : decide ((4 : Int) < (n : Int)) = true := by simp; omega
    go_enter Try.func18, Try.ntmps18
    go_wp2
    go_ret
    exact ⟨rfl, Below.refl _ _⟩
  · have hw : wrongS l = wrongSF l n 0 := by simp [wrongS, ← hn, h5]
    rw [hw]; clear hw
    have HN := hide hn
    have HF := hide hf
    clear hn hf
    have hd : decide ((4 : Int) < (n : Int)) = false := by simp; omega
    go_enter Try.func18, Try.ntmps18
    go_wp2
    go_loopw [10] (fun i wr => ∃ k : Nat, k ≤ n ∧ i = .int .i64 k ∧ Hid (wrongSF l n 0 = wrongSF l (n - k) k) ∧ Below w.heap.size w wr) (fun i _ => n - (intOf i).toNat)
    case atStart => exact ⟨0, Nat.zero_le _, rfl, rfl, Below.refl _ _⟩
    case round =>
      obtain ⟨k, hk, rfl, HW, bel⟩ := hrel
      have hsz := bel.size
      by_cases hlt : k < n
      · have hkl : k < l.length := by rw [← HN.out]; exact hlt
        obtain ⟨b, off, rfl, hb, hcell⟩ := seg_label hs hkl
        obtain ⟨x, hx⟩ : ∃ x, x = lk l k := ⟨_, rfl⟩
        obtain ⟨y, hy⟩ : ∃ y, y = lv l k := ⟨_, rfl⟩
        have c0 : wr.cell? ⟨b, off + k * 2, none⟩ = some (.string x) := by rw [hx]; exact (bel.cell (by exact hb)).trans (hcell k hkl).1
        have c1 : wr.cell? ⟨b, off + k * 2 + 1, none⟩ = some (.string y) := by rw [hy]; exact (bel.cell (by exact hb)).trans (hcell k hkl).2
        have fx : x.size ≤ 9223372036854775807 := by rw [hx]; exact (HF.out k hkl).1
        have fy : y.size ≤ 9223372036854775807 := by rw [hy]; exact (HF.out k hkl).2
        have HX := hide hx
        have HY := hide hy
        have NO : Hid ((Grain.named x && Grain.named y) = false → wrongSF l n 0 = 7) := by
          intro h
          have hbad : badS l k = 7 := by unfold badS; rw [← HX.out, ← HY.out, h]; simp
          rw [HW.out, show n - k = (n - k - 1) + 1 from by omega, wrongSF_no (by rw [hbad]; decide), hbad]
        obtain ⟨N1, hN1⟩ : ∃ N1, N1 = Grain.named x := ⟨_, rfl⟩
        obtain ⟨N2, hN2⟩ : ∃ N2, N2 = Grain.named y := ⟨_, rfl⟩
        have H1 := hide hN1
        have H2 := hide hN2
        have HC := hide hcell
        clear hx hy hkl hN1 hN2 hcell
        go_wp2_with fail
        refine (nnamed_any x _ fx).mono ?_
        rintro e w1 ⟨rfl, hb1⟩
        rw [← H1.out]
        have F1 : w1.heap[wr.heap.size]? = some (.cells #[.string x, .string y] 71 (0, 0)) := by rw [hb1]; exact heap_alloc_new wr _
        obtain ⟨p0, p1, _, _⟩ := two_cells F1
        have bel1 : Below w.heap.size w w1 := by rw [hb1]; exact bel.alloc hsz _
        have hs1 := bel1.size
        clear hb1 bel c0 c1
        cases N1 with
        | false =>
          have hw := hide (NO.out (by rw [← H1.out]; rfl))
          clear NO HW
          go_wp2
          go_ret
          exact ⟨ret_int hw.out.symm, bel1⟩
        | true =>
          go_wp2_with fail
          refine (nnamed_any y _ fy).mono ?_
          rintro e w2 ⟨rfl, hb2⟩
          rw [← H2.out]
          have F2 : w2.heap[wr.heap.size]? = some (.cells #[.string x, .string y] 71 (0, 0)) := by rw [hb2]; exact F1
          obtain ⟨p0, p1, _, _⟩ := two_cells F2
          have bel2 : Below w.heap.size w w2 := by rw [hb2]; exact bel1
          clear hb2 bel1
          cases N2 with
          | false =>
            have hw := hide (NO.out (by rw [← H2.out]; simp))
            clear NO HW
            go_wp2
            go_ret
            exact ⟨ret_int hw.out.symm, bel2⟩
          | true =>
            have hgood : Hid ((Grain.named (lk l k) && Grain.named (lv l k)) = true) := by
              show (Grain.named (lk l k) && Grain.named (lv l k)) = true
              rw [← HX.out, ← HY.out, ← H1.out, ← H2.out]; rfl
            clear NO
            rcases Nat.eq_zero_or_pos k with hk0 | hk0
            · subst hk0
              have hg : decide ((0 : Int) < ((0 : Nat) : Int)) = false := by decide
              have hg' : decide ((0 : Int) < 0) = false := by decide
              have hw : Hid (wrongSF l n 0 = wrongSF l (n - (0 + 1)) (0 + 1)) := by
                show wrongSF l n 0 = wrongSF l (n - (0 + 1)) (0 + 1)
                have hbad : badS l 0 = 0 := by unfold badS; rw [hgood.out]; simp
                rw [HW.out, show n - 0 = (n - (0 + 1)) + 1 from by omega, wrongSF_ok hbad]
              clear HW hgood
              go_wp2
              go_quiet (fail)
              go_wp2
              go_roundw
              case rel => exact ⟨0 + 1, by omega, by go_num, hw, below_drewN bel2 _⟩
              case measure => simp [intOf]; omega
            · obtain ⟨m, rfl⟩ : ∃ m, k = m + 1 := ⟨k - 1, by omega⟩
              have hg : decide ((0 : Int) < ((m + 1 : Nat) : Int)) = true := by simp
              have hg' : decide ((0 : Int) < (m : Int) + 1) = true := by simp
              obtain ⟨z, hz⟩ : ∃ z, z = lk l m := ⟨_, rfl⟩
              have q0 : w2.cell? ⟨b, off + m * 2, none⟩ = some (.string z) := by rw [hz]; exact (bel2.cell (by exact hb)).trans (HC.out m (by rw [← HN.out]; omega)).1
              cases hle : wle x z with
              | true =>
                have hle' : Op.bytesLess z.toList x.toList = false := by rw [wle_less, hle]; rfl
                have hw : Hid (wrongSF l n 0 = 2) := by
                  show wrongSF l n 0 = 2
                  have hbad : badS l (m + 1) = 2 := by
                    unfold badS
                    rw [hgood.out, if_neg (by simp), if_pos ⟨by omega, by rw [← HX.out]; simpa [← hz] using hle⟩]
                  rw [HW.out, show n - (m + 1) = (n - (m + 1) - 1) + 1 from by omega, wrongSF_no (by rw [hbad]; decide), hbad]
                clear HW hgood hz hle
                go_wp2
                go_quiet (fail)
                go_wp2
                go_ret
                exact ⟨ret_int hw.out.symm, below_drewN bel2 _⟩
              | false =>
                have hle' : Op.bytesLess z.toList x.toList = true := by rw [wle_less, hle]; rfl
                have hw : Hid (wrongSF l n 0 = wrongSF l (n - (m + 1 + 1)) (m + 1 + 1)) := by
                  show wrongSF l n 0 = wrongSF l (n - (m + 1 + 1)) (m + 1 + 1)
                  have hbad : badS l (m + 1) = 0 := by
                    unfold badS
                    rw [hgood.out, if_neg (by simp), if_neg (by rw [← HX.out]; simp [← hz, hle])]
                  rw [HW.out, show n - (m + 1) = (n - (m + 1 + 1)) + 1 from by omega, wrongSF_ok hbad]
                clear HW hgood hz hle
                go_wp2
                go_quiet (fail)
                go_wp2
                go_roundw
                case rel => exact ⟨m + 1 + 1, by omega, by go_num, hw, below_drewN bel2 _⟩
                case measure => simp [intOf]; omega
      · have he : k = n := by omega
        subst he
        have hw : Hid (wrongSF l k 0 = 0) := by
          show wrongSF l k 0 = 0
          rw [HW.out]; simp [wrongSF]
        clear HW
        go_wp2
        go_ret
        exact ⟨ret_int hw.out.symm, bel⟩

end Go.Proofs.Ytcgcefnfelmmkaa
