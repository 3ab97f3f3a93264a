/-
  The walks of roll's inRange and Wrong.
-/
import Derived.Test.YtcgcefnfelmmkaaRollGr
import Derived.Test.YtcgcefnfelmmkaaRollN
namespace Go.Proofs.Ytcgcefnfelmmkaa
open Go.RowKit Go.GrainU

/-- a bucket as a value -/
def kv (k : Grain.Bk) : Value := .agg #[.int .i64 k.a, .int .i64 k.s.c, .int .i64 k.s.t, .int .i64 k.s.mn, .int .i64 k.s.mx, .int .i64 k.s.f, .int .i64 k.s.l, .int .i64 k.s.r]

set_option maxHeartbeats 1000000 in
theorem kinRange_any (k : Grain.Bk) (st : Int) (w : World) (hst : st = 10 ∨ st = 60) :
    Calls Try.prog 44 #[kv k, .int .i64 st] w fun e w' => e = .returned (.bool (Grain.inRB k st)) ∧ Below w.heap.size w w' := by
  obtain ⟨a, s⟩ := k
  obtain ⟨sc, s1, s2, s3, s4, s5, s6⟩ := s
  simp only [kv]
  by_cases h0 : 0 ≤ a
  · by_cases h1 : a ≤ 1000000
    · rcases hst with rfl | rfl
      all_goals
        go_enter Try.func44, Try.ntmps44
        go_wp2
        all_goals
          go_ret
          refine ⟨ret_bool ?_, (Below.refl _ _).alloc (Nat.le_refl _) _⟩
          rw [Bool.eq_iff_iff]
          simp [Grain.inRB]
          omega
    · go_enter Try.func44, Try.ntmps44
      go_wp2
      go_ret
      refine ⟨ret_bool ?_, (Below.refl _ _).alloc (Nat.le_refl _) _⟩
      rw [Bool.eq_iff_iff]
      simp [Grain.inRB]
      omega
  · go_enter Try.func44, Try.ntmps44
    go_wp2
    go_ret
    refine ⟨ret_bool ?_, (Below.refl _ _).alloc (Nat.le_refl _) _⟩
    rw [Bool.eq_iff_iff]
    simp [Grain.inRB]
    omega

theorem kstep_cases (tier : Int) : stepOf tier = 0 ∨ (stepOf tier = 10 ∨ stepOf tier = 60) := by
  unfold stepOf
  split
  · exact .inr (.inl rfl)
  · split
    · exact .inr (.inr rfl)
    · exact .inl rfl

set_option maxHeartbeats 2000000 in
theorem kwrong_any (B : List Grain.Bk) (ao : Option Addr) (n cap : Nat) (tier : Int) (w : World) (hs : Seg w ao (kcells B)) (hn : n = B.length) :
    Calls Try.prog 20 #[.slice ao n cap, .int .i64 tier] w fun e w' => e = .returned (.agg #[.int .i64 (Grain.wrongB B (stepOf tier)).1, .int .i64 (Grain.wrongB B (stepOf tier)).2]) ∧ Below w.heap.size w w' := by
  obtain ⟨st, hst⟩ : ∃ st, st = stepOf tier := ⟨_, rfl⟩
  have hc := kstep_cases tier
  rw [← hst] at hc ⊢
  have HST := hide hst
  clear hst
  rcases hc with hc | hc
  · subst hc
    have hw : Grain.wrongB B 0 = (1, 0) := by simp [Grain.wrongB]
    rw [hw]; clear hw
    go_enter Try.func20, Try.ntmps20
    go_wp2_with (go_at_call 35; refine (step_any tier _).mono ?_; intro e w1 hh; rw [hh.1, hh.2, ← HST.out]; clear hh)
    exact bodyPost_ret (v := .agg #[.int .i64 1, .int .i64 0]) (by simp [results, Try.results20, go_sem]) rfl ⟨rfl, by go_grown⟩
  · have hst0 : (st == 0) = false := by rcases hc with e | e <;> simp [e]
    have hst1 : st ≠ 0 := by rcases hc with e | e <;> simp [e]
    have HC := hide hc
    clear hc
    by_cases h5 : 500 < n
    · have hw : Grain.wrongB B st = (5, 0) := by simp [Grain.wrongB, hst1, ← hn, h5]
      rw [hw]; clear hw hn
      have hd : decide ((500 : Int) < (n : Int)) = true := by simp; omega
      go_enter Try.func20, Try.ntmps20
      go_wp2_with (go_at_call 35; refine (step_any tier _).mono ?_; intro e w1 hh; rw [hh.1, hh.2, ← HST.out]; clear hh)
      exact bodyPost_ret (v := .agg #[.int .i64 5, .int .i64 0]) (by simp [results, Try.results20, go_sem]) rfl ⟨rfl, by go_grown⟩
    · have hw : Grain.wrongB B st = Grain.wrongBF B st n 0 := by simp [Grain.wrongB, hst1, ← hn, h5]
      rw [hw]; clear hw
      have HN := hide hn
      clear hn
      have hd : decide ((500 : Int) < (n : Int)) = false := by simp; omega
      go_enter Try.func20, Try.ntmps20
      go_wp2_with (go_at_call 35; refine (step_any tier _).mono ?_; intro e w1 hh; rw [hh.1, hh.2, ← HST.out]; clear hh)
      go_loopw [19] (fun i wr => ∃ k : Nat, k ≤ n ∧ i = .int .i64 k ∧ Hid (Grain.wrongBF B st n 0 = Grain.wrongBF B st (n - k) k) ∧ wr.heap[w.heap.size]? = some (.cells #[.int .i64 0, .int .i64 0] 55 (0, 0)) ∧ Below w.heap.size w wr) (fun i _ => n - (intOf i).toNat)
      case atStart => exact ⟨0, Nat.zero_le _, rfl, rfl, heap_alloc_new w _, by go_grown⟩
      case round =>
        obtain ⟨k, hk, rfl, HW, hres, hbel⟩ := hrel
        by_cases hlt : k < n
        · have hkl : k < B.length := by rw [← HN.out]; exact hlt
          obtain ⟨b, off, rfl, hb, hcell⟩ := seg_bucket hs hkl
          obtain ⟨K, hK⟩ : ∃ K, K = Grain.bk B k := ⟨_, rfl⟩
          have q := (hcell k hkl).below hbel hb
          rw [← hK] at q
          obtain ⟨c0, c1, c2, c3, c4, c5, c6, c7⟩ := q
          have hB : w.heap.size < wr.heap.size := lt_of_block hres
          have HK := hide hK
          clear hK
          go_wp2_with fail
          refine (kinRange_any K st _ HC.out).mono ?_
          rintro e w1 ⟨rfl, hb1⟩
          obtain ⟨hc1, hf1⟩ := bcell hb1
          have hres1 : w1.heap[w.heap.size]? = some (.cells #[.int .i64 0, .int .i64 0] 55 (0, 0)) := by
            rw [hb1.block _ (by simp; omega), Below.heap_alloc _ _ _ hB]; exact hres
          have hbel1 : Below w.heap.size w w1 := (hbel.alloc (by omega) _).trans (hb1.mono (by simp; omega))
          obtain ⟨r0, r1, r2, r3⟩ := two_cells hres1
          have x0 : w1.cell? ⟨wr.heap.size, 0, none⟩ = some (.int .i64 K.a) := by
            rw [hc1 _ _ (by simp)]; exact (eight_cells (k := K) (heap_alloc_new wr _)).1
          clear hc1 hf1 hb1 c0 c1 c2 c3 c4 c5 c6 c7 hres hbel
          cases hin : Grain.inRB K st
          · have hw : Hid (Grain.wrongBF B st n 0 = (3, (k : Int))) := by
              show Grain.wrongBF B st n 0 = (3, (k : Int))
              have hbad : Grain.badB B st k = 3 := by unfold Grain.badB; rw [← HK.out, hin]; simp
              rw [HW.out, show n - k = (n - k - 1) + 1 from by omega, Grain.wrongBF_no (by rw [hbad]; decide), hbad]
            clear HW hin
            go_wp2
            exact bodyPost_ret (v := .agg #[.int .i64 3, .int .i64 k]) (by simp [results, Try.results20, go_sem, r0, r1]) rfl ⟨by rw [hw.out], (hbel1.setCell (Nat.le_refl _) _).setCell (Nat.le_refl _) _⟩
          · rcases Nat.eq_zero_or_pos k with hk0 | hk0
            · subst hk0
              have hg : decide ((0 : Int) < ((0 : Nat) : Int)) = false := by decide
              have hg' : decide ((0 : Int) < 0) = false := by decide
              have hw : Hid (Grain.wrongBF B st n 0 = Grain.wrongBF B st (n - (0 + 1)) (0 + 1)) := by
                show Grain.wrongBF B st n 0 = Grain.wrongBF B st (n - (0 + 1)) (0 + 1)
                have hbad : Grain.badB B st 0 = 0 := by unfold Grain.badB; rw [← HK.out, hin]; simp
                rw [HW.out, show n - 0 = (n - (0 + 1)) + 1 from by omega, Grain.wrongBF_ok hbad]
              clear HW hin
              go_wp2
              go_quiet (fail)
              go_wp2
              go_roundw
              case rel => exact ⟨0 + 1, by omega, by go_num, hw, hres1, below_drewN hbel1 _⟩
              case measure => simp [intOf]; omega
            · obtain ⟨m, rfl⟩ : ∃ m, k = m + 1 := ⟨k - 1, by omega⟩
              have hg : decide ((0 : Int) < ((m + 1 : Nat) : Int)) = true := by simp
              have hg' : decide ((0 : Int) < (m : Int) + 1) = true := by simp
              obtain ⟨M, hM⟩ : ∃ M, M = (Grain.bk B m).a := ⟨_, rfl⟩
              have hw2 : Hid (K.a ≤ M → Grain.wrongBF B st n 0 = (2, ((m : Int) + 1))) := by
                intro hle
                have hbad : Grain.badB B st (m + 1) = 2 := by
                  unfold Grain.badB
                  rw [← HK.out, hin, if_neg (by simp), if_pos ⟨by omega, by simpa [← hM] using hle⟩]
                rw [HW.out, show n - (m + 1) = (n - (m + 1) - 1) + 1 from by omega, Grain.wrongBF_no (by rw [hbad]; decide), hbad]
                simp
              have hw : Hid (M < K.a → Grain.wrongBF B st n 0 = Grain.wrongBF B st (n - (m + 1 + 1)) (m + 1 + 1)) := by
                intro hle
                have hbad : Grain.badB B st (m + 1) = 0 := by
                  unfold Grain.badB
                  rw [← HK.out, hin, if_neg (by simp), if_neg (by simp [← hM]; omega)]
                rw [HW.out, show n - (m + 1) = (n - (m + 1 + 1)) + 1 from by omega, Grain.wrongBF_ok hbad]
              have p0 : w1.cell? ⟨b, off + m * 8, none⟩ = some (.int .i64 M) := by
                rw [hM]; exact ((hcell m (by omega)).below hbel1 hb).1
              clear HW hin hM hcell
              go_wp2
              go_quiet (fail)
              go_wp2
              · exact bodyPost_ret (v := .agg #[.int .i64 2, .int .i64 ((m : Int) + 1)]) (by simp [results, Try.results20, go_sem, r0, r1]) rfl ⟨by rw [hw2.out (by assumption)], ((below_drewN hbel1 _).setCell (Nat.le_refl _) _).setCell (Nat.le_refl _) _⟩
              · go_roundw
                case rel => exact ⟨m + 1 + 1, by omega, by go_num, hw.out (by assumption), hres1, below_drewN hbel1 _⟩
                case measure => simp [intOf]; omega
        · obtain ⟨r0, r1, r2, r3⟩ := two_cells hres
          have he : k = n := by omega
          subst he
          have hw : Hid (Grain.wrongBF B st k 0 = (0, 0)) := by
            show Grain.wrongBF B st k 0 = (0, 0)
            rw [HW.out]; simp [Grain.wrongBF]
          clear HW
          go_wp2
          exact bodyPost_ret (v := .agg #[.int .i64 0, .int .i64 0]) (by simp [results, Try.results20, go_sem, r0, r1]) rfl ⟨by rw [hw.out], (hbel.setCell (Nat.le_refl _) _).setCell (Nat.le_refl _) _⟩

end Go.Proofs.Ytcgcefnfelmmkaa
