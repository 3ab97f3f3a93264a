/-
  The walk of the document's In: what the buckets of a window come to.
-/
import Derived.Test.YtfgablhgjbjbkaeRollGr
import Derived.Test.YtfgablhgjbjbkaeOf
import Derived.Test.YtfgablhgjbjbkaeRefJoin
namespace Go.Proofs.Ytfgablhgjbjbkae
open Go.RowKit Go.GrainU

theorem rof_more {w wr : World} {s : Grain.Sm} (I : OfInv w wr s) (o : Obj) : OfInv w (wr.alloc o) s := by
  have h2 := lt_of_block I.cur
  have h1 := lt_of_block I.res
  refine ⟨?_, ?_, I.bel.alloc (by omega) _⟩
  · show (wr.alloc _).heap[_]? = _
    rw [Below.heap_alloc _ _ _ h1]; exact I.res
  · show (wr.alloc _).heap[_]? = _
    rw [Below.heap_alloc _ _ _ h2]; exact I.cur

theorem rjoin_let (a b : Grain.Sm) (w : World) :
    Calls Try.prog 78 #[sv a, sv b] w fun e w' => ∃ J : Grain.Sm, Hid (J = Grain.join a b) ∧ e = .returned (.agg #[.int .i64 J.c, .int .i64 J.t, .int .i64 J.mn, .int .i64 J.mx, .int .i64 J.f, .int .i64 J.l, .int .i64 J.r]) ∧ Below w.heap.size w w' :=
  (rjoin_any a b w).mono fun _ _ h => ⟨_, rfl, h.1, h.2⟩

set_option maxHeartbeats 2000000 in
theorem rof_any (B : List Grain.Bk) (ao : Option Addr) (n cap : Nat) (f t : Int) (w : World) (hs : Seg w ao (kcells B)) (hn : n = B.length) (hL : n ≤ 1000000) :
    Calls Try.prog 61 #[.slice ao n cap, .int .i64 f, .int .i64 t] w fun e w' => ∃ J : Grain.Sm, Hid (J = Grain.inB B f t) ∧ e = .returned (.agg #[.int .i64 J.c, .int .i64 J.t, .int .i64 J.mn, .int .i64 J.mx, .int .i64 J.f, .int .i64 J.l, .int .i64 J.r]) ∧ Below w.heap.size w w' := by
  have HN := hide hn
  clear hn
  go_enter Try.func61, Try.ntmps61
  go_wp2
  go_loopw [12] (fun i wr => ∃ (k : Nat) (s : Grain.Sm), k ≤ n ∧ i = .int .i64 k ∧ Hid (s = Grain.inB (B.take k) f t) ∧ OfInv w wr s) (fun i _ => n - (intOf i).toNat)
  case atStart => exact ⟨0, _, Nat.zero_le _, rfl, rfl, OfInv.start w⟩
  case round =>
    obtain ⟨k, s, hk, rfl, HS, I⟩ := hrel
    by_cases hlt : k < n
    · have hkl : k < B.length := by rw [← HN.out]; exact hlt
      obtain ⟨b, off, rfl, hb, hcell⟩ := seg_bucket hs hkl
      obtain ⟨K, hK⟩ : ∃ K, K = Grain.bk B k := ⟨_, rfl⟩
      have q := (hcell k hkl).below I.bel hb
      rw [← hK] at q
      obtain ⟨c0, c1, c2, c3, c4, c5, c6, c7⟩ := q
      have HT : Hid (Grain.inB (B.take (k + 1)) f t = if f ≤ K.a ∧ K.a < t then Grain.join s K.s else s) := by
        show _ = _
        rw [Grain.inB_take f t hkl, ← hK, ← HS.out]
      have I1 := rof_more I (ko K)
      have hw1 : w.heap.size + 1 < wr.heap.size := lt_of_block I.cur
      obtain ⟨s0, s1, s2, s3, s4, s5, s6⟩ := I.cur.cells
      clear hcell hK hkl HS I
      by_cases h1 : f ≤ K.a
      · by_cases h2 : K.a < t
        · go_wp2_with fail
          refine (rjoin_let s K.s _).mono ?_
          rintro e w2 ⟨J, HJ, rfl, hb2⟩
          have I3 := I1.call hb2
          obtain ⟨q0, q1, q2, q3, q4, q5, q6⟩ := I3.cur.cells
          obtain ⟨r0, r1, r2, r3, r4, r5, r6⟩ := seven_thaw I3.cur
          have I4 := I3.store J
          have HK : Hid (J = Grain.inB (B.take (k + 1)) f t) := by
            show J = _
            rw [HT.out, if_pos ⟨h1, h2⟩]; exact HJ.out
          clear HJ HT I1 I3 hb2 s0 s1 s2 s3 s4 s5 s6 c0 c1 c2 c3 c4 c5 c6 c7 h1 h2 hw1
          go_wp2
          go_roundw
          case rel => exact ⟨k + 1, J, by omega, by go_num, HK, I4⟩
          case measure => simp [intOf]; omega
        · have HK : Hid (s = Grain.inB (B.take (k + 1)) f t) := by
            show s = _
            rw [HT.out, if_neg (by omega)]
          clear HT s0 s1 s2 s3 s4 s5 s6
          go_wp2
          go_roundw
          case rel => exact ⟨k + 1, s, by omega, by go_num, HK, I1⟩
          case measure => simp [intOf]; omega
      · have HK : Hid (s = Grain.inB (B.take (k + 1)) f t) := by
          show s = _
          rw [HT.out, if_neg (by omega)]
        clear HT s0 s1 s2 s3 s4 s5 s6
        go_wp2
        go_roundw
        case rel => exact ⟨k + 1, s, by omega, by go_num, HK, I1⟩
        case measure => simp [intOf]; omega
    · have he : k = n := by omega
      subst he
      have HT := hide (List.take_of_length_le (i := k) (l := B) (by rw [← HN.out]; omega))
      have HJ : Hid (s = Grain.inB B f t) := by
        show s = _
        rw [HS.out, HT.out]
      obtain ⟨s0, s1, s2, s3, s4, s5, s6⟩ := I.cur.cells
      obtain ⟨z0, z1, z2, z3, z4, z5, z6⟩ := seven_cells I.res
      obtain ⟨r0, r1, r2, r3, r4, r5, r6⟩ := seven_thaw I.res
      clear HT HN HS
      go_wp2
      exact bodyPost_ret (v := sv s) (by simp [results, Try.results61, go_sem, sv, z0, z1, z2, z3, z4, z5, z6]) rfl ⟨s, HJ, rfl, below_set7 I.bel (Nat.le_refl _) _ _ _ _ _ _ _⟩

end Go.Proofs.Ytfgablhgjbjbkae
