/-
  The walk of CodecTells.
-/
import Derived.Test.YtlepdjfkgingpaaTurnsW
import Derived.Test.YtlepdjfkgingpaaRefD
import Derived.Test.YtlepdjfkgingpaaRefF
namespace Go.Proofs.Ytlepdjfkgingpaa
open Go.RowKit Go.GrainU

theorem rbytes_all (l : List (Int × Int)) (ao : Option Addr) (n cap : Nat) (w : World) (hs : Seg w ao (scells l)) (hn : n = l.length) :
    Calls Try.prog 8 #[.slice ao n cap] w fun e w' => ∃ o N c, e = .returned (.tuple #[.slice o N c, .agg #[.int .i64 (Grain.wrong l).1, .int .i64 (Grain.wrong l).2]]) ∧
      w'.ownsRow w.heap.size 5 1 (.slice o N c) N (bcells (bytesR l)) ∧ Below w.heap.size w w' := by
  by_cases h : (Grain.wrong l).1 = 0
  · refine (rbytes_yes l ao n cap w hs hn h).mono ?_
    rintro e w' ⟨g, N, c, rfl, own, bel⟩
    rw [Grain.wrong_zero h]
    exact ⟨_, N, c, rfl, by unfold bytesR; rw [if_pos h]; exact own, bel⟩
  · refine (rbytes_no l ao n cap w hs hn h).mono ?_
    rintro e w' ⟨rfl, bel⟩
    exact ⟨none, 0, 0, rfl, by unfold bytesR; rw [if_neg h]; exact World.ownsRow_nil _ _ _ _, bel⟩

theorem prs_prsO (bs : List Int) : prsO (Grain.rd bs) = prs bs := by
  unfold prs prsO
  rfl

theorem prs_few (bs : List Int) : (prs bs).1.length ≤ 500 := by
  rcases prs_cases bs with ⟨l, _, h, e⟩ | ⟨h, _⟩
  · rw [e]; exact (Grain.right_of h).few
  · rw [h]; simp

set_option maxHeartbeats 2000000 in
theorem tells_any (l : List (Int × Int)) (ao : Option Addr) (n cap : Nat) (bs : List Int) (bo : Option Addr) (m mc : Nat) (w : World) (hs : Seg w ao (scells l)) (hn : n = l.length)
    (hb : Seg w bo (bcells bs)) (hm : m = bs.length) (hc : m ≤ mc) (hmc : mc ≤ maxLen) (hbs : Grain.AllB bs) (hmm : m ≤ 140737488355328) :
    Calls Try.prog 3 #[.slice ao n cap, .slice bo m mc] w fun e w' => e = .returned (.bool true) ∧ Below w.heap.size w w' := by
  have HN := hide hn
  have HM := hide hm
  clear hn hm
  go_enter Try.func3, Try.ntmps3
  go_wp2_with fail
  refine (bytes_all l ao n cap _ hs HN.out).mono ?_
  rintro e w1 ⟨o1, N1, c1, rfl, own1, hb1⟩
  have hs1 := hb1.size
  have bel1 : Below w.heap.size w (w1.alloc (.cells #[.int .i64 (Grain.wrong l).1, .int .i64 (Grain.wrong l).2] 26)) := hb1.alloc hs1 _
  go_wp2_with fail
  refine (rbytes_all l ao n cap _ (hs.below bel1) HN.out).mono ?_
  rintro e w2 ⟨o2, N2, c2, rfl, own2, hb2⟩
  have bel2 : Below w.heap.size w w2 := bel1.trans (hb2.mono (by simp; omega))
  have hs2 := bel2.size
  have F1 := below_block hb2 (heap_alloc_new w1 (.cells #[.int .i64 (Grain.wrong l).1, .int .i64 (Grain.wrong l).2] 26))
  obtain ⟨f0, f1, _, _⟩ := two_cells F1
  have lt1 := lt_of_block F1
  have bel3 : Below w.heap.size w (w2.alloc (.cells #[.int .i64 (Grain.wrong l).1, .int .i64 (Grain.wrong l).2] 26)) := bel2.alloc hs2 _
  have cv1 := run_str (w := w2.alloc (.cells #[.int .i64 (Grain.wrong l).1, .int .i64 (Grain.wrong l).2] 26)) (cap := c1) (own_o_seg ((own_below (own1.alloc _) hb2).alloc _)).1 (own_len own1)
  have cv2 := run_str (w := w2.alloc (.cells #[.int .i64 (Grain.wrong l).1, .int .i64 (Grain.wrong l).2] 26)) (cap := c2) (own_o_seg (own2.alloc _)).1 (own_len own2)
  clear own1 own2 hb1 hb2 F1
  go_wp2_with fail
  refine (wrong_len l ao n cap _ (hs.below bel3) HN.out).mono ?_
  rintro e w4 ⟨rfl, hb4⟩
  have bel4 := bel3.trans (hb4.mono bel3.size)
  clear cv1 cv2
  go_wp2_with fail
  refine (rwrong_any l ao n cap _ (hs.below bel4) HN.out).mono ?_
  rintro e w5 ⟨rfl, hb5⟩
  have bel5 := bel4.trans (hb5.mono bel4.size)
  clear hb4 hb5
  go_wp2_with fail
  refine (parse_all bs bo m mc _ (hb.below bel5) HM.out hc hmc hbs).mono ?_
  rintro e w6 ⟨o6, N6, c6, rfl, own6, hb6⟩
  have bel6 := bel5.trans (hb6.mono bel5.size)
  clear f0 f1
  go_wp2_with fail
  refine (rparse_any bs bo m mc _ (hb.below bel6) HM.out hbs hmm).mono ?_
  rintro e w7 ⟨o7, N7, c7, rfl, own7, hb7⟩
  rw [prs_prsO] at own7 ⊢
  have bel7 := bel6.trans (hb7.mono bel6.size)
  have own6' := own_below own6 hb7
  have hN7 : N7 = N6 := by rw [own_slen own7, own_slen own6]
  subst hN7
  have hl := hide (own_slen own7)
  have h5 : N7 ≤ 500 := by rw [hl.out]; exact prs_few bs
  obtain ⟨s6, _, _⟩ := own_o_seg own6'
  obtain ⟨s7, _, _⟩ := own_o_seg own7
  clear own6 own7 own6' hb6 hb7
  go_wp2_with fail
  refine (same_any (prs bs).1 o6 o7 N7 c6 c7 _ s6 s7 hl.out (by omega)).mono ?_
  rintro e w8 ⟨rfl, hb8⟩
  have bel8 := bel7.trans (hb8.mono bel7.size)
  clear s6 s7 hb8
  go_wp2
  go_ret
  exact ⟨rfl, bel8⟩

end Go.Proofs.Ytlepdjfkgingpaa
