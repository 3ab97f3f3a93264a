/-
  The walk of RollCount.
-/
import Derived.Test.YtondeenhndkjbacRollAlive
import Derived.Test.YtondeenhndkjbacCodecWrong
import Derived.Test.YtondeenhndkjbacRollN
namespace Go.Proofs.Ytondeenhndkjbac
open Go.RowKit Go.GrainU

theorem kfield_err (x y : Int) (w : World) : (Instr.field 26 (.agg #[.int .i64 x, .int .i64 y]) 0).run Try.prog w = .ok (.int .i64 x) w := by
  simp [Instr.field, go_sem, asAgg]

theorem step_cases (tier : Int) : stepOf tier = 0 ∨ (stepOf tier = 10 ∨ stepOf tier = 60) := by
  unfold stepOf
  split
  · exact .inr (.inl rfl)
  · split
    · exact .inr (.inr rfl)
    · exact .inl rfl

/-- the buckets of no samples -/
theorem up_none (tier : Int) (w : World) : Calls Try.prog 7 #[.slice none 0 0, .int .i64 tier] w fun e w' => ∃ bo c, e = .returned (.slice bo 0 c) ∧ Below w.heap.size w w' := by
  rcases step_cases tier with h | h
  · refine (up_no none 0 0 tier w h).mono ?_
    rintro e w' ⟨rfl, rfl⟩
    exact ⟨none, 0, rfl, Below.refl _ _⟩
  · refine (up_yes [] none 0 0 tier _ w (.inl rfl) rfl (by omega) (fun j hj => by simp at hj) rfl h).mono ?_
    rintro e w' ⟨bo, N, c, rfl, own, bel⟩
    have hN : N = 0 := own_klen own
    subst hN
    exact ⟨bo, c, rfl, bel⟩

theorem cnt_take {X : List Grain.Bk} {k : Nat} (h : k < X.length) : Grain.cnt (X.take (k + 1)) = Grain.cnt (X.take k) + (Grain.bk X k).s.c := by rw [Grain.take_bk h, Grain.cnt_snoc]

theorem cnt_bd {X : List Grain.Bk} {n : Int} (h : Grain.Fit X n) : ∀ k, 0 ≤ Grain.cnt (X.take k) ∧ Grain.cnt (X.take k) ≤ n := by
  intro k
  have h1 := Grain.cnt_nonneg (X.take k) (fun b hb => h.pos b (List.mem_of_mem_take hb))
  have h2 := Grain.cnt_nonneg (X.drop k) (fun b hb => h.pos b (List.mem_of_mem_drop hb))
  have h3 := Grain.cnt_append (X.take k) (X.drop k)
  rw [List.take_append_drop, h.tot] at h3
  omega

set_option maxHeartbeats 1000000 in
theorem rcount_any (l : List (Int × Int)) (ao : Option Addr) (n cap : Nat) (tier : Int) (w : World) (hs : Seg w ao (scells l)) (hn : n = l.length) :
    Calls Try.prog 3 #[.slice ao n cap, .int .i64 tier] w fun e w' => e = .returned (.bool true) ∧ Below w.heap.size w w' := by
  have HN := hide hn
  clear hn
  by_cases hw : (Grain.wrong l).1 = 0
  · have hr := Grain.right_of hw
    have h5 := hr.few
    rw [← HN.out] at h5
    have hq := hide (Grain.wrong_zero hw)
    clear hw
    rcases step_cases tier with ht | ht
    · go_enter Try.func3, Try.ntmps3
      go_wp2_with fail
      refine (kalive_any _).mono ?_
      rintro e w1 ⟨rfl, bel1⟩
      have hs1 := bel1.size
      have ff := kfield_err 0 0
      go_wp2_with fail
      refine (wrong_len l ao n cap _ (hs.below bel1) HN.out).mono ?_
      rintro e w2 ⟨rfl, hb2⟩
      rw [hq.out]
      have bel2 := bel1.trans (hb2.mono hs1)
      have hs2 := bel2.size
      clear hb2 bel1
      go_wp2_with (go_at_call 6; refine (step_any tier _).mono ?_; intro e w3 hh; rw [hh.1, hh.2, ht]; clear hh)
      refine (up_none tier _).mono ?_
      rintro e w4 ⟨bo, c, rfl, hb4⟩
      have bel4 := bel2.trans (hb4.mono hs2)
      clear hb4 bel2
      go_wp2
      go_ret
      exact ⟨rfl, bel4⟩
    · obtain ⟨st, hst⟩ : ∃ st, st = stepOf tier := ⟨_, rfl⟩
      rw [← hst] at ht
      have hst0 : (st == 0) = false := by rcases ht with e | e <;> simp [e]
      have HST := hide hst
      have HT := hide ht
      clear hst ht
      obtain ⟨r1, r2, r3⟩ := hr.up HT.out
      go_enter Try.func3, Try.ntmps3
      go_wp2_with fail
      refine (kalive_any _).mono ?_
      rintro e w1 ⟨rfl, bel1⟩
      have hs1 := bel1.size
      have ff := kfield_err 0 0
      go_wp2_with fail
      refine (wrong_len l ao n cap _ (hs.below bel1) HN.out).mono ?_
      rintro e w2 ⟨rfl, hb2⟩
      rw [hq.out]
      have bel2 := bel1.trans (hb2.mono hs1)
      have hs2 := bel2.size
      clear hb2 bel1
      go_wp2_with (go_at_call 6; refine (step_any tier _).mono ?_; intro e w3 hh; rw [hh.1, hh.2, ← HST.out]; clear hh)
      refine (up_yes l ao n cap tier st _ (hs.below bel2) HN.out (by omega) (fun j hj => by have := hr.rng j hj; omega) HST.out.symm HT.out).mono ?_
      rintro e w3 ⟨bo, N, c, rfl, own3, hb3⟩
      have bel3 := bel2.trans (hb3.mono hs2)
      have hs3 := bel3.size
      have HNN := hide (own_klen own3)
      have hN5 : N ≤ 500 := by rw [HNN.out]; exact r2
      obtain ⟨bo', c', e1, sg, _⟩ := own_open own3
      simp at e1
      obtain ⟨rfl, rfl⟩ := e1
      have FT := hide r3
      clear hb3 own3 bel2 r3 r1 r2 ff hq hr
      go_wp2
      go_loopw [5, 27] (fun m i wr => ∃ (k : Nat), k ≤ N ∧ i = .int .i64 k ∧ m = .int .i64 (Grain.cnt ((Grain.up l st).take k)) ∧ Below w3.heap.size w3 wr) (fun _ i _ => N - (intOf i).toNat)
      case atStart => exact ⟨0, Nat.zero_le _, rfl, rfl, Below.refl _ _⟩
      case round =>
        obtain ⟨k, hk, rfl, rfl, bel⟩ := hrel
        have hsz := bel.size
        have bd := cnt_bd FT.out k
        rw [← HN.out] at bd
        by_cases hlt : k < N
        · have hkl : k < (Grain.up l st).length := by rw [← HNN.out]; exact hlt
          obtain ⟨b, off, rfl, hb, hcell⟩ := seg_bucket sg hkl
          obtain ⟨K, hK⟩ : ∃ K, K = Grain.bk (Grain.up l st) k := ⟨_, rfl⟩
          have hc := (hcell k hkl).below bel hb
          rw [← hK] at hc
          obtain ⟨c0, c1, c2, c3, c4, c5, c6, c7⟩ := hc
          have hp : 1 ≤ K.s.c := by rw [hK]; exact FT.out.pos _ (Grain.bk_mem hkl)
          have bd2 := cnt_bd FT.out (k + 1)
          have HC := cnt_take hkl
          rw [← hK] at HC
          rw [← HN.out] at bd2
          obtain ⟨M, hM⟩ : ∃ M, M = Grain.cnt ((Grain.up l st).take k) := ⟨_, rfl⟩
          rw [← hM] at HC bd ⊢
          rw [HC] at bd2
          have HC' := hide HC
          clear HC hK hcell hkl hM
          go_wp2
          go_roundw
          case rel => exact ⟨k + 1, by omega, by go_num, by rw [HC'.out], bel.alloc hsz _⟩
          case measure => simp [intOf]; omega
        · have he : k = N := by omega
          subst he
          have hT : Hid (Grain.cnt ((Grain.up l st).take k) = (n : Int)) := by
            show Grain.cnt ((Grain.up l st).take k) = (n : Int)
            rw [List.take_of_length_le (by rw [← HNN.out]; omega), FT.out.tot, HN.out]
          rw [hT.out]
          have belf : Below w.heap.size w wr := bel3.trans (bel.mono hs3)
          clear bd
          go_wp2
          go_ret
          exact ⟨by simp, belf⟩
  · obtain ⟨x, hx⟩ : ∃ x, x = (Grain.wrong l).1 := ⟨_, rfl⟩
    obtain ⟨y, hy⟩ : ∃ y, y = (Grain.wrong l).2 := ⟨_, rfl⟩
    have hz : (x != 0) = true := by rw [hx]; simpa using hw
    have HX := hide hx
    have HY := hide hy
    clear hx hy hw
    go_enter Try.func3, Try.ntmps3
    go_wp2_with fail
    refine (kalive_any _).mono ?_
    rintro e w1 ⟨rfl, bel1⟩
    have hs1 := bel1.size
    have ff := kfield_err x y
    go_wp2_with fail
    refine (wrong_len l ao n cap _ (hs.below bel1) HN.out).mono ?_
    rintro e w2 ⟨rfl, hb2⟩
    rw [← HX.out, ← HY.out]
    have bel2 := bel1.trans (hb2.mono hs1)
    have hs2 := bel2.size
    clear hb2 bel1
    go_wp2_with fail
    refine (up_none tier _).mono ?_
    rintro e w4 ⟨bo, c, rfl, hb4⟩
    have bel4 := bel2.trans (hb4.mono hs2)
    clear hb4 bel2
    go_wp2
    go_ret
    exact ⟨rfl, bel4⟩

end Go.Proofs.Ytondeenhndkjbac
