/-
  The walk of the document's WrongBuckets.
-/
import Derived.Test.YtfgablhgjbjbkaeRollWrong
import Derived.Test.YtfgablhgjbjbkaeStepMap
namespace Go.Proofs.Ytfgablhgjbjbkae
open Go.RowKit Go.GrainU

/-- the world behind the map -/
theorem wb_start (w : World) (o : Obj) : ∃ W, W = (w.alloc (.cells #[.int .i64 0, .int .i64 0] 78)).alloc o ∧ W.heap[w.heap.size]? = some (.cells #[.int .i64 0, .int .i64 0] 78 (0, 0)) ∧ Below w.heap.size w W := by
  refine ⟨_, rfl, ?_, ?_⟩
  · rw [Below.heap_alloc _ _ _ (by simp)]; exact heap_alloc_new w _
  · exact ((Below.refl _ _).alloc (Nat.le_refl _) _).alloc (by simp) _

set_option maxHeartbeats 2000000 in
theorem rwb_any (B : List Grain.Bk) (ao : Option Addr) (n cap : Nat) (tier : Int) (w : World) (hs : Seg w ao (kcells B)) (hn : n = B.length) :
    Calls Try.prog 49 #[.slice ao n cap, .int .i64 tier] w fun e w' => e = .returned (.agg #[.int .i64 (Grain.wrongB B (stepOf tier)).1, .int .i64 (Grain.wrongB B (stepOf tier)).2]) ∧ Below w.heap.size w w' := by
  have hmm := @run_makeMap Try.prog
  obtain ⟨st, hst⟩ : ∃ st, st = stepOf tier := ⟨_, rfl⟩
  have hc := kstep_cases tier
  have i1 := smap_new (W := w.alloc (.cells #[.int .i64 0, .int .i64 0] 78)) (B := w.heap.size + 1) (by simp) 1 10
  have i2 := smap_12 (W := w.alloc (.cells #[.int .i64 0, .int .i64 0] 78)) (B := w.heap.size + 1) (by simp)
  have i3 := smap_look (W := w.alloc (.cells #[.int .i64 0, .int .i64 0] 78)) (B := w.heap.size + 1) (by simp) tier
  rw [← hst] at hc i3 ⊢
  obtain ⟨W, hW, hres0, bel0⟩ := wb_start w (.map #[me 1 10 0, me 2 60 1] 2)
  have HST := hide hst
  have HW := hide hW
  clear hst hW
  obtain ⟨r0, r1, r2, r3⟩ := two_cells hres0
  rcases hc with hc | hc
  · subst hc
    have hw : Grain.wrongB B 0 = (1, 0) := by simp [Grain.wrongB]
    rw [hw]; clear hw
    go_enter Try.func49, Try.ntmps49
    go_wp2
    exact bodyPost_ret (v := .agg #[.int .i64 1, .int .i64 0]) (by simp [results, Try.results49, go_sem]) rfl ⟨rfl, ((Below.refl _ _).alloc (Nat.le_refl _) _).alloc (by simp) _⟩
  · have hst0 : (st == 0) = false := by rcases hc with e | e <;> simp [e]
    have hst1 : st ≠ 0 := by rcases hc with e | e <;> simp [e]
    have HC := hide hc
    clear hc
    by_cases h5 : 500 < n
    · have hw : Grain.wrongB B st = (5, 0) := by simp [Grain.wrongB, hst1, ← hn, h5]
      rw [hw]; clear hw hn
      have hd : decide ((500 : Int) < (n : Int)) = true := by simp; omega
      go_enter Try.func49, Try.ntmps49
      go_wp2
      exact bodyPost_ret (v := .agg #[.int .i64 5, .int .i64 0]) (by simp [results, Try.results49, go_sem]) rfl ⟨rfl, ((Below.refl _ _).alloc (Nat.le_refl _) _).alloc (by simp) _⟩
    · have hw : Grain.wrongB B st = Grain.wrongBF B st n 0 := by simp [Grain.wrongB, hst1, ← hn, h5]
      rw [hw]; clear hw
      have HN := hide hn
      clear hn
      have hd : decide ((500 : Int) < (n : Int)) = false := by simp; omega
      go_enter Try.func49, Try.ntmps49
      go_wp2
      rw [← HW.out]
      go_loopw [21] (fun i wr => ∃ k : Nat, k ≤ n ∧ i = .int .i64 k ∧ Hid (Grain.wrongBF B st n 0 = Grain.wrongBF B st (n - k) k) ∧ wr.heap[w.heap.size]? = some (.cells #[.int .i64 0, .int .i64 0] 78 (0, 0)) ∧ Below w.heap.size w wr) (fun i _ => n - (intOf i).toNat)
      case atStart => exact ⟨0, Nat.zero_le _, rfl, rfl, hres0, bel0⟩
      case round =>
        clear hmm i1 i2 i3 HW r0 r1 r2 r3 hres0 bel0
        obtain ⟨k, hk, rfl, HW, hres, hbel⟩ := hrel
        by_cases hlt : k < n
        · have hkl : k < B.length := by rw [← HN.out]; exact hlt
          obtain ⟨b, off, rfl, hb, hcell⟩ := seg_bucket hs hkl
          obtain ⟨K, hK⟩ : ∃ K, K = Grain.bk B k := ⟨_, rfl⟩
          have q := (hcell k hkl).below hbel hb
          rw [← hK] at q
          obtain ⟨c0, c1, c2, c3, c4, c5, c6, c7⟩ := q
          have hB : w.heap.size < wr.heap.size := lt_of_block hres
          have HK := hide hK
          obtain ⟨r0, r1, r2, r3⟩ := two_cells hres
          have hbel1 : Below w.heap.size w (wr.alloc (ko K)) := hbel.alloc (by omega) _
          have hres1 : (wr.alloc (ko K)).heap[w.heap.size]? = some (.cells #[.int .i64 0, .int .i64 0] 78 (0, 0)) := by
            rw [Below.heap_alloc _ _ _ hB]; exact hres
          have x0 := eight_cells (heap_alloc_new wr (ko K))
          have fin : Hid (Grain.inRB K st = false → Grain.wrongBF B st n 0 = (3, (k : Int))) := by
            intro hin
            have hbad : Grain.badB B st k = 3 := by unfold Grain.badB; rw [← HK.out, hin]; simp
            rw [HW.out, show n - k = (n - k - 1) + 1 from by omega, Grain.wrongBF_no (by rw [hbad]; decide), hbad]
          clear hK
          by_cases g1 : K.a < 0
          · have hin : Hid (Grain.inRB K st = false) := by unfold Hid; simp only [Grain.inRB, decide_eq_false_iff_not]; omega
            have d1 : decide (K.a < 0) = true := by simpa using g1
            clear HW hcell
            go_wp2
            go_quiet (fail)
            go_wp2
            exact bodyPost_ret (v := .agg #[.int .i64 3, .int .i64 k]) (by simp [results, Try.results49, go_sem, r0, r1, hB]) rfl ⟨by rw [fin.out hin.out], ((below_drewN hbel1 _).setCell (Nat.le_refl _) _).setCell (Nat.le_refl _) _⟩
          · have d1 : decide (K.a < 0) = false := by simpa using g1
            by_cases g2 : 1000000 < K.a
            · have hin : Hid (Grain.inRB K st = false) := by unfold Hid; simp only [Grain.inRB, decide_eq_false_iff_not]; omega
              have d2 : decide (1000000 < K.a) = true := by simpa using g2
              clear HW hcell
              go_wp2
              go_quiet (fail)
              go_wp2
              exact bodyPost_ret (v := .agg #[.int .i64 3, .int .i64 k]) (by simp [results, Try.results49, go_sem, r0, r1, hB]) rfl ⟨by rw [fin.out hin.out], ((below_drewN hbel1 _).setCell (Nat.le_refl _) _).setCell (Nat.le_refl _) _⟩
            · have d2 : decide (1000000 < K.a) = false := by simpa using g2
              have hstq := HC.out
              rcases hstq with hstq | hstq
              · subst hstq
                by_cases g3 : K.a / 10 * 10 = K.a
                · have d3 : (K.a / 10 * 10 != K.a) = false := by simpa using g3
                  by_cases g4 : K.s.c < 1
                  · have hin : Hid (Grain.inRB K 10 = false) := by unfold Hid; simp only [Grain.inRB, decide_eq_false_iff_not]; omega
                    have d4 : decide (K.s.c < 1) = true := by simpa using g4
                    clear HW hcell
                    go_wp2
                    go_quiet (fail)
                    go_wp2
                    exact bodyPost_ret (v := .agg #[.int .i64 3, .int .i64 k]) (by simp [results, Try.results49, go_sem, r0, r1, hB]) rfl ⟨by rw [fin.out hin.out], ((below_drewN hbel1 _).setCell (Nat.le_refl _) _).setCell (Nat.le_refl _) _⟩
                  · have d4 : decide (K.s.c < 1) = false := by simpa using g4
                    by_cases g5 : 10 < K.s.c
                    · have hin : Hid (Grain.inRB K 10 = false) := by unfold Hid; simp only [Grain.inRB, decide_eq_false_iff_not]; omega
                      have d5 : decide (10 < K.s.c) = true := by simpa using g5
                      clear HW hcell
                      go_wp2
                      go_quiet (fail)
                      go_wp2
                      exact bodyPost_ret (v := .agg #[.int .i64 3, .int .i64 k]) (by simp [results, Try.results49, go_sem, r0, r1, hB]) rfl ⟨by rw [fin.out hin.out], ((below_drewN hbel1 _).setCell (Nat.le_refl _) _).setCell (Nat.le_refl _) _⟩
                    · have d5 : decide (10 < K.s.c) = false := by simpa using g5
                      have hin : Grain.inRB K 10 = true := by simp only [Grain.inRB, decide_eq_true_eq]; omega
                      rcases Nat.eq_zero_or_pos k with hk0 | hk0
                      · subst hk0
                        have hg : decide ((0 : Int) < ((0 : Nat) : Int)) = false := by decide
                        have hg' : decide ((0 : Int) < 0) = false := by decide
                        have hw : Hid (Grain.wrongBF B 10 n 0 = Grain.wrongBF B 10 (n - (0 + 1)) (0 + 1)) := by
                          show Grain.wrongBF B 10 n 0 = Grain.wrongBF B 10 (n - (0 + 1)) (0 + 1)
                          have hbad : Grain.badB B 10 0 = 0 := by unfold Grain.badB; rw [← HK.out, hin]; simp
                          rw [HW.out, show n - 0 = (n - (0 + 1)) + 1 from by omega, Grain.wrongBF_ok hbad]
                        simp only [Nat.zero_mul, Nat.add_zero] at c0 c1 c2 c3 c4 c5 c6 c7
                        clear HW hin fin hcell
                        go_wp2
                        go_quiet (fail)
                        go_wp2
                        go_quiet (fail)
                        go_wp2
                        go_roundw
                        case rel => exact ⟨0 + 1, by omega, by go_num, hw, hres1, below_drewN hbel1 _⟩
                        case measure => simp [intOf]; omega
                      · obtain ⟨m, rfl⟩ : ∃ m, k = m + 1 := ⟨k - 1, by omega⟩
                        have hg : decide ((0 : Int) < ((m + 1 : Nat) : Int)) = true := by simp
                        have hg' : decide ((0 : Int) < (m : Int) + 1) = true := by simp
                        obtain ⟨M, hM⟩ : ∃ M, M = (Grain.bk B m).a := ⟨_, rfl⟩
                        have hw2 : Hid (K.a ≤ M → Grain.wrongBF B 10 n 0 = (2, ((m : Int) + 1))) := by
                          intro hle
                          have hbad : Grain.badB B 10 (m + 1) = 2 := by
                            unfold Grain.badB
                            rw [← HK.out, hin, if_neg (by simp), if_pos ⟨by omega, by simpa [← hM] using hle⟩]
                          rw [HW.out, show n - (m + 1) = (n - (m + 1) - 1) + 1 from by omega, Grain.wrongBF_no (by rw [hbad]; decide), hbad]
                          simp
                        have hw : Hid (M < K.a → Grain.wrongBF B 10 n 0 = Grain.wrongBF B 10 (n - (m + 1 + 1)) (m + 1 + 1)) := by
                          intro hle
                          have hbad : Grain.badB B 10 (m + 1) = 0 := by
                            unfold Grain.badB
                            rw [← HK.out, hin, if_neg (by simp), if_neg (by simp [← hM]; omega)]
                          rw [HW.out, show n - (m + 1) = (n - (m + 1 + 1)) + 1 from by omega, Grain.wrongBF_ok hbad]
                        have p0 : wr.cell? ⟨b, off + m * 8, none⟩ = some (.int .i64 M) := by
                          rw [hM]; exact ((hcell m (by omega)).below hbel hb).1
                        have hbr : b < wr.heap.size := by omega
                        clear HW hin hM hcell fin
                        go_wp2
                        go_quiet (fail)
                        go_wp2
                        go_quiet (fail)
                        go_wp2
                        · exact bodyPost_ret (v := .agg #[.int .i64 2, .int .i64 ((m : Int) + 1)]) (by simp [results, Try.results49, go_sem, r0, r1, hB]) rfl ⟨by rw [hw2.out (by assumption)], ((below_drewN hbel1 _).setCell (Nat.le_refl _) _).setCell (Nat.le_refl _) _⟩
                        · go_roundw
                          case rel => exact ⟨m + 1 + 1, by omega, by go_num, hw.out (by assumption), hres1, below_drewN hbel1 _⟩
                          case measure => simp [intOf]; omega
                · have hin : Hid (Grain.inRB K 10 = false) := by unfold Hid; simp only [Grain.inRB, decide_eq_false_iff_not]; omega
                  have d3 : (K.a / 10 * 10 != K.a) = true := by simpa using g3
                  clear HW hcell
                  go_wp2
                  go_quiet (fail)
                  go_wp2
                  exact bodyPost_ret (v := .agg #[.int .i64 3, .int .i64 k]) (by simp [results, Try.results49, go_sem, r0, r1, hB]) rfl ⟨by rw [fin.out hin.out], ((below_drewN hbel1 _).setCell (Nat.le_refl _) _).setCell (Nat.le_refl _) _⟩
              · subst hstq
                by_cases g3 : K.a / 60 * 60 = K.a
                · have d3 : (K.a / 60 * 60 != K.a) = false := by simpa using g3
                  by_cases g4 : K.s.c < 1
                  · have hin : Hid (Grain.inRB K 60 = false) := by unfold Hid; simp only [Grain.inRB, decide_eq_false_iff_not]; omega
                    have d4 : decide (K.s.c < 1) = true := by simpa using g4
                    clear HW hcell
                    go_wp2
                    go_quiet (fail)
                    go_wp2
                    exact bodyPost_ret (v := .agg #[.int .i64 3, .int .i64 k]) (by simp [results, Try.results49, go_sem, r0, r1, hB]) rfl ⟨by rw [fin.out hin.out], ((below_drewN hbel1 _).setCell (Nat.le_refl _) _).setCell (Nat.le_refl _) _⟩
                  · have d4 : decide (K.s.c < 1) = false := by simpa using g4
                    by_cases g5 : 60 < K.s.c
                    · have hin : Hid (Grain.inRB K 60 = false) := by unfold Hid; simp only [Grain.inRB, decide_eq_false_iff_not]; omega
                      have d5 : decide (60 < K.s.c) = true := by simpa using g5
                      clear HW hcell
                      go_wp2
                      go_quiet (fail)
                      go_wp2
                      exact bodyPost_ret (v := .agg #[.int .i64 3, .int .i64 k]) (by simp [results, Try.results49, go_sem, r0, r1, hB]) rfl ⟨by rw [fin.out hin.out], ((below_drewN hbel1 _).setCell (Nat.le_refl _) _).setCell (Nat.le_refl _) _⟩
                    · have d5 : decide (60 < K.s.c) = false := by simpa using g5
                      have hin : Grain.inRB K 60 = true := by simp only [Grain.inRB, decide_eq_true_eq]; omega
                      rcases Nat.eq_zero_or_pos k with hk0 | hk0
                      · subst hk0
                        have hg : decide ((0 : Int) < ((0 : Nat) : Int)) = false := by decide
                        have hg' : decide ((0 : Int) < 0) = false := by decide
                        have hw : Hid (Grain.wrongBF B 60 n 0 = Grain.wrongBF B 60 (n - (0 + 1)) (0 + 1)) := by
                          show Grain.wrongBF B 60 n 0 = Grain.wrongBF B 60 (n - (0 + 1)) (0 + 1)
                          have hbad : Grain.badB B 60 0 = 0 := by unfold Grain.badB; rw [← HK.out, hin]; simp
                          rw [HW.out, show n - 0 = (n - (0 + 1)) + 1 from by omega, Grain.wrongBF_ok hbad]
                        simp only [Nat.zero_mul, Nat.add_zero] at c0 c1 c2 c3 c4 c5 c6 c7
                        clear HW hin fin hcell
                        go_wp2
                        go_quiet (fail)
                        go_wp2
                        go_quiet (fail)
                        go_wp2
                        go_roundw
                        case rel => exact ⟨0 + 1, by omega, by go_num, hw, hres1, below_drewN hbel1 _⟩
                        case measure => simp [intOf]; omega
                      · obtain ⟨m, rfl⟩ : ∃ m, k = m + 1 := ⟨k - 1, by omega⟩
                        have hg : decide ((0 : Int) < ((m + 1 : Nat) : Int)) = true := by simp
                        have hg' : decide ((0 : Int) < (m : Int) + 1) = true := by simp
                        obtain ⟨M, hM⟩ : ∃ M, M = (Grain.bk B m).a := ⟨_, rfl⟩
                        have hw2 : Hid (K.a ≤ M → Grain.wrongBF B 60 n 0 = (2, ((m : Int) + 1))) := by
                          intro hle
                          have hbad : Grain.badB B 60 (m + 1) = 2 := by
                            unfold Grain.badB
                            rw [← HK.out, hin, if_neg (by simp), if_pos ⟨by omega, by simpa [← hM] using hle⟩]
                          rw [HW.out, show n - (m + 1) = (n - (m + 1) - 1) + 1 from by omega, Grain.wrongBF_no (by rw [hbad]; decide), hbad]
                          simp
                        have hw : Hid (M < K.a → Grain.wrongBF B 60 n 0 = Grain.wrongBF B 60 (n - (m + 1 + 1)) (m + 1 + 1)) := by
                          intro hle
                          have hbad : Grain.badB B 60 (m + 1) = 0 := by
                            unfold Grain.badB
                            rw [← HK.out, hin, if_neg (by simp), if_neg (by simp [← hM]; omega)]
                          rw [HW.out, show n - (m + 1) = (n - (m + 1 + 1)) + 1 from by omega, Grain.wrongBF_ok hbad]
                        have p0 : wr.cell? ⟨b, off + m * 8, none⟩ = some (.int .i64 M) := by
                          rw [hM]; exact ((hcell m (by omega)).below hbel hb).1
                        have hbr : b < wr.heap.size := by omega
                        clear HW hin hM hcell fin
                        go_wp2
                        go_quiet (fail)
                        go_wp2
                        go_quiet (fail)
                        go_wp2
                        · exact bodyPost_ret (v := .agg #[.int .i64 2, .int .i64 ((m : Int) + 1)]) (by simp [results, Try.results49, go_sem, r0, r1, hB]) rfl ⟨by rw [hw2.out (by assumption)], ((below_drewN hbel1 _).setCell (Nat.le_refl _) _).setCell (Nat.le_refl _) _⟩
                        · go_roundw
                          case rel => exact ⟨m + 1 + 1, by omega, by go_num, hw.out (by assumption), hres1, below_drewN hbel1 _⟩
                          case measure => simp [intOf]; omega
                · have hin : Hid (Grain.inRB K 60 = false) := by unfold Hid; simp only [Grain.inRB, decide_eq_false_iff_not]; omega
                  have d3 : (K.a / 60 * 60 != K.a) = true := by simpa using g3
                  clear HW hcell
                  go_wp2
                  go_quiet (fail)
                  go_wp2
                  exact bodyPost_ret (v := .agg #[.int .i64 3, .int .i64 k]) (by simp [results, Try.results49, go_sem, r0, r1, hB]) rfl ⟨by rw [fin.out hin.out], ((below_drewN hbel1 _).setCell (Nat.le_refl _) _).setCell (Nat.le_refl _) _⟩
        · obtain ⟨r0, r1, r2, r3⟩ := two_cells hres
          have he : k = n := by omega
          subst he
          have hw : Hid (Grain.wrongBF B st k 0 = (0, 0)) := by
            show Grain.wrongBF B st k 0 = (0, 0)
            rw [HW.out]; simp [Grain.wrongBF]
          clear HW
          go_wp2
          exact bodyPost_ret (v := .agg #[.int .i64 0, .int .i64 0]) (by simp [results, Try.results49, go_sem, r0, r1]) rfl ⟨by rw [hw.out], (hbel.setCell (Nat.le_refl _) _).setCell (Nat.le_refl _) _⟩

end Go.Proofs.Ytfgablhgjbjbkae
