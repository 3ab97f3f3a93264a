/-
  The walk of ShelfKeeps.
-/
import Derived.Test.YtcgcefnfelmmkaaShT
import Derived.Deep.CutRange
import Derived.Deep.RegionHeld3
namespace Go.Proofs.Ytcgcefnfelmmkaa
open Go.RowKit Go.GrainU

def f1 (y : ShT) (B : List (Int × Int)) : List (Int × Int) := B.filter fun x => decide (y.s.rf ≤ x.1)
def f2 (y : ShT) (B : List (Int × Int)) : List (Int × Int) := Grain.win B y.s.ff y.s.ft
def f3 (y : ShT) (B : List (Int × Int)) : List (Int × Int) := Grain.win B y.s.cf y.s.ct

set_option maxRecDepth 100000 in
set_option maxHeartbeats 16000000 in
theorem skeeps_any (l : List Grain.Act) (ao : Option Addr) (n cap : Nat) (w : World) (hs : Seg w ao (acells l)) (hn : n = l.length) (hN : n ≤ 9223372036854775806) :
    Calls Try.prog 4 #[.slice ao n cap] w fun e w' => e = .returned (.bool true) ∧ Below w.heap.size w w' := by
  have HN := hide hn
  clear hn
  obtain ⟨i0, hi, hz0, hz1, hz2⟩ := sinfo_parts Try.infoSmp
  go_enter Try.func4, Try.ntmps4
  go_wp2_with fail
  refine (shalive_any w).mono ?_
  rintro e w1 ⟨rfl, hb1⟩
  go_wp2_with fail
  refine (splay_any l ao n cap w1 (hs.below hb1) HN.out hN).mono ?_
  rintro e w2 ⟨y, A, ro, N, c, rfl, kp, iny, sgA, hNA, hb2⟩
  have bel2 : Below w.heap.size w w2 := hb1.trans (hb2.mono hb1.size)
  have hAl : N ≤ 1000001 := by rw [hNA]; exact kp.took.len
  have HK := hide kp
  have HNA := hide hNA
  obtain ⟨S, hS⟩ : ∃ S, S = w2.heap.size := ⟨_, rfl⟩
  obtain ⟨W3, hW3⟩ : ∃ W, W = w2.alloc (so y) := ⟨_, rfl⟩
  have hbW : Below w2.heap.size w2 W3 := by rw [hW3]; exact (Below.refl _ _).alloc (Nat.le_refl _) _
  have bel3 : Below w.heap.size w W3 := bel2.trans (hbW.mono bel2.size)
  have FSo : W3.heap[S]? = some (so y) := by rw [hW3, hS]; exact heap_alloc_new w2 _
  have in3 := iny.below hbW
  have sg3 := sgA.below hbW
  have HW3 : Hid (W3 = w2.alloc (.cells #[.slice y.a0 y.s.se.length y.c0, .slice y.a1 y.s.ra.length y.c1, .slice y.a2 y.s.fi.length y.c2, .slice y.a3 y.s.co.length y.c3, .int .i64 y.s.rf, .int .i64 y.s.ff, .int .i64 y.s.ft, .int .i64 y.s.cf, .int .i64 y.s.ct] 27)) := hW3
  have HS := hide hS
  simp only [ShT.v]
  clear hW3 hS hbW hb1 hb2 hs kp hNA iny sgA bel2
  go_wp2_with fail
  rw [← HW3.out, ← HS.out]
  clear HW3
  go_loopw [5, 6, 7, 19] (fun v5 v6 v7 i wr => ∃ (k : Nat) (o1 : Option Addr) (n1 c1 : Nat) (o2 : Option Addr) (n2 c2 : Nat) (o3 : Option Addr) (n3 c3 : Nat), k ≤ N ∧ i = .int .i64 k ∧ v5 = .slice o1 n1 c1 ∧ v6 = .slice o2 n2 c2 ∧ v7 = .slice o3 n3 c3 ∧ TJ W3 wr o1 n1 c1 (f1 y (A.take k)) o2 n2 c2 (f2 y (A.take k)) o3 n3 c3 (f3 y (A.take k))) (fun _ _ _ i _ => N - (intOf i).toNat)
  case atStart => exact ⟨0, none, 0, 0, none, 0, 0, none, 0, 0, Nat.zero_le _, rfl, rfl, rfl, rfl, ⟨World.ownsRow_nil _ _ _ _, World.ownsRow_nil _ _ _ _, World.ownsRow_nil _ _ _ _, fun g h => by simp [Value.ownBlock] at h, fun g h => by simp [Value.ownBlock] at h, fun g h => by simp [Value.ownBlock] at h, Below.refl _ _⟩⟩
  case round =>
    obtain ⟨k, o1, n1, c1, o2, n2, c2, o3, n3, c3, hk, rfl, rfl, rfl, rfl, tj⟩ := hrel
    by_cases hlt : k < N
    · have hkl : k < A.length := by rw [← HNA.out]; exact hlt
      obtain ⟨b, off, rfl, hcell⟩ := sg3.sample hkl
      have hbl : b < W3.heap.size := World.block_lt_of_cell? W3 ⟨b, off + k * 2, none⟩ (hcell k hkl).1
      obtain ⟨T, hT⟩ : ∃ T, T = Grain.tm A k := ⟨_, rfl⟩
      obtain ⟨U, hU⟩ : ∃ U, U = Grain.vl A k := ⟨_, rfl⟩
      have e0 : wr.cell? ⟨b, off + k * 2, none⟩ = some (.int .i64 T) := by rw [hT]; exact (tj.bel.cell (by exact hbl)).trans (hcell k hkl).1
      have e1 : wr.cell? ⟨b, off + k * 2 + 1, none⟩ = some (.int .i64 U) := by rw [hU]; exact (tj.bel.cell (by exact hbl)).trans (hcell k hkl).2
      obtain ⟨C1, hC1⟩ : ∃ C, C = decide (y.s.rf ≤ T) := ⟨_, rfl⟩
      obtain ⟨C2, hC2⟩ : ∃ C, C = decide (y.s.ff ≤ T ∧ T < y.s.ft) := ⟨_, rfl⟩
      obtain ⟨C3, hC3⟩ : ∃ C, C = decide (y.s.cf ≤ T ∧ T < y.s.ct) := ⟨_, rfl⟩
      have hAk : A[k] = (T, U) := by rw [hT, hU, (Grain.tm_get hkl).1, (Grain.tm_get hkl).2]
      have HT1 : Hid (f1 y (A.take (k + 1)) = if C1 = true then f1 y (A.take k) ++ [(T, U)] else f1 y (A.take k)) := by
        show _ = _
        unfold f1
        rw [filter_take _ hkl, hAk, hC1]
      have HT2 : Hid (f2 y (A.take (k + 1)) = if C2 = true then f2 y (A.take k) ++ [(T, U)] else f2 y (A.take k)) := by
        show _ = _
        unfold f2 Grain.win
        rw [filter_take _ hkl, hAk, hC2]
      have HT3 : Hid (f3 y (A.take (k + 1)) = if C3 = true then f3 y (A.take k) ++ [(T, U)] else f3 y (A.take k)) := by
        show _ = _
        unfold f3 Grain.win
        rw [filter_take _ hkl, hAk, hC3]
      have HB1 : Hid ((f1 y (A.take k)).length ≤ 1000001) := by show _ ≤ _; have h1 : (f1 y (A.take k)).length ≤ (A.take k).length := List.length_filter_le _ _; rw [List.length_take] at h1; omega
      have HB2 : Hid ((f2 y (A.take k)).length ≤ 1000001) := by show _ ≤ _; have h1 : (f2 y (A.take k)).length ≤ (A.take k).length := List.length_filter_le _ _; rw [List.length_take] at h1; omega
      have HB3 : Hid ((f3 y (A.take k)).length ≤ 1000001) := by show _ ≤ _; have h1 : (f3 y (A.take k)).length ≤ (A.take k).length := List.length_filter_le _ _; rw [List.length_take] at h1; omega
      have HC1 := hide hC1
      have HC2 := hide hC2
      have HC3 := hide hC3
      obtain ⟨Y, hY⟩ : ∃ Y, Y = wr.heap.size := ⟨_, rfl⟩
      obtain ⟨W5, hW5⟩ : ∃ W, W = wr.alloc (.cells #[.int .i64 T, .int .i64 U] 29) := ⟨_, rfl⟩
      have ty0 : TY W3 W5 Y T U o1 n1 c1 (f1 y (A.take k)) o2 n2 c2 (f2 y (A.take k)) o3 n3 c3 (f3 y (A.take k)) := by rw [hW5, hY]; exact tj.ty T U
      have HW5 := hide hW5
      have HY := hide hY
      clear hC1 hC2 hC3 hAk hT hU hcell hkl hY hW5 tj
      go_upto_region 8 with fail
      rw [← HW5.out, ← HY.out]
      clear HW5 HY e0 e1
      obtain ⟨u0, u1, _, _⟩ := two_cells ty0.b
      obtain ⟨s0, s1, s2, s3, s4, s5, s6, s7, s8⟩ := nine_cells (below_block ty0.bel FSo)
      go_cut [27] from 23 to 27 (fun v wx => v = .bool C1 ∧ wx = W5)
      case first =>
        go_wp2_with fail
        all_goals
          go_meet
          refine ⟨?_, rfl⟩
          first | (rw [HC1.out]; done) | (rw [HC1.out]; refine congrArg Value.bool ?_; (rw [Bool.eq_iff_iff]) <;> simp <;> try omega)
      case rest =>
      obtain ⟨rfl, hwc⟩ := hcut
      rw [hwc]
      clear hwc
      rcases Bool.eq_false_or_eq_true C1 with h1 | h1
      · rw [h1]
        have hsz1 := ty0.bel.size
        have hq1 : n1 ≤ 1000001 := by have h1 := own_slen ty0.r1; have h2 := HB1.out; omega
        have tyA1 := ty0.call ((Below.refl W5.heap.size W5).alloc (Nat.le_refl _) (.cells #[.int .i64 T, .int .i64 U] 29))
        go_wp2_with (at_builtin; refine wpList_append_lies _ rfl _ _ 24 rfl W3.heap.size 29 i0 (.agg #[.int .i64 0, .int .i64 0]) 2 16 Try.underlying24 hi hz0 hz1 hz2 rfl (by decide) _ _ _ rfl tyA1.r1 ⟨W5.heap.size, 0, none⟩ 1 1 [.int .i64 T, .int .i64 U] rfl rfl (news_two rfl _ _ _) (by simp [Value.oneCell']) (by decide) (by unfold maxLen; omega) (by omega) (by simp; omega) (W5.heap.size + 1) (by simp) ?_)
        intro g1 cp1 v1 own1 gr1 hat1 hlt1
        have ty1' := tyA1.push1 own1 gr1 (by simpa using hat1)
        clear own1 gr1 hat1 hlt1 tyA1 u0 u1 s0 s1 s2 s3 s4 s5 s6 s7 s8
        go_upto_region 10 with fail
        obtain ⟨u0, u1, _, _⟩ := two_cells ty1'.b
        obtain ⟨s0, s1, s2, s3, s4, s5, s6, s7, s8⟩ := nine_cells (below_block ty1'.bel FSo)
        go_cut [43] from 32 to 43 (fun v wx => v = .bool C2 ∧ wx = v1)
        case first =>
          go_wp2_with fail
          all_goals
            go_meet
            refine ⟨?_, rfl⟩
            first | (rw [HC2.out]; done) | (rw [HC2.out]; refine congrArg Value.bool ?_; (rw [Bool.eq_iff_iff]) <;> simp <;> try omega)
        case rest =>
        obtain ⟨rfl, hwc⟩ := hcut
        rw [hwc]
        clear hwc
        rcases Bool.eq_false_or_eq_true C2 with h2 | h2
        · rw [h2]
          have hsz2 := ty1'.bel.size
          have hq2 : n2 ≤ 1000001 := by have h1 := own_slen ty1'.r2; have h2 := HB2.out; omega
          have tyA2 := ty1'.call ((Below.refl v1.heap.size v1).alloc (Nat.le_refl _) (.cells #[.int .i64 T, .int .i64 U] 29))
          go_wp2_with (at_builtin; refine wpList_append_lies _ rfl _ _ 24 rfl W3.heap.size 29 i0 (.agg #[.int .i64 0, .int .i64 0]) 2 16 Try.underlying24 hi hz0 hz1 hz2 rfl (by decide) _ _ _ rfl tyA2.r2 ⟨v1.heap.size, 0, none⟩ 1 1 [.int .i64 T, .int .i64 U] rfl rfl (news_two rfl _ _ _) (by simp [Value.oneCell']) (by decide) (by unfold maxLen; omega) (by omega) (by simp; omega) (v1.heap.size + 1) (by simp) ?_)
          intro g2 cp2 v2 own2 gr2 hat2 hlt2
          have ty2' := tyA2.push2 own2 gr2 (by simpa using hat2)
          clear own2 gr2 hat2 hlt2 tyA2 u0 u1 s0 s1 s2 s3 s4 s5 s6 s7 s8
          go_upto_region 12 with fail
          obtain ⟨u0, u1, _, _⟩ := two_cells ty2'.b
          obtain ⟨s0, s1, s2, s3, s4, s5, s6, s7, s8⟩ := nine_cells (below_block ty2'.bel FSo)
          go_cut [59] from 48 to 59 (fun v wx => v = .bool C3 ∧ wx = v2)
          case first =>
            go_wp2_with fail
            all_goals
              go_meet
              refine ⟨?_, rfl⟩
              first | (rw [HC3.out]; done) | (rw [HC3.out]; refine congrArg Value.bool ?_; (rw [Bool.eq_iff_iff]) <;> simp <;> try omega)
          case rest =>
          obtain ⟨rfl, hwc⟩ := hcut
          rw [hwc]
          clear hwc
          rcases Bool.eq_false_or_eq_true C3 with h3 | h3
          · rw [h3]
            have hsz3 := ty2'.bel.size
            have hq3 : n3 ≤ 1000001 := by have h1 := own_slen ty2'.r3; have h2 := HB3.out; omega
            have tyA3 := ty2'.call ((Below.refl v2.heap.size v2).alloc (Nat.le_refl _) (.cells #[.int .i64 T, .int .i64 U] 29))
            go_wp2_with (at_builtin; refine wpList_append_lies _ rfl _ _ 24 rfl W3.heap.size 29 i0 (.agg #[.int .i64 0, .int .i64 0]) 2 16 Try.underlying24 hi hz0 hz1 hz2 rfl (by decide) _ _ _ rfl tyA3.r3 ⟨v2.heap.size, 0, none⟩ 1 1 [.int .i64 T, .int .i64 U] rfl rfl (news_two rfl _ _ _) (by simp [Value.oneCell']) (by decide) (by unfold maxLen; omega) (by omega) (by simp; omega) (v2.heap.size + 1) (by simp) ?_)
            intro g3 cp3 v3 own3 gr3 hat3 hlt3
            have ty3' := tyA3.push3 own3 gr3 (by simpa using hat3)
            clear own3 gr3 hat3 hlt3 tyA3 u0 u1 s0 s1 s2 s3 s4 s5 s6 s7 s8
            have tjn : TJ W3 v3 (some ⟨g1, 0, none⟩) (n1 + 1) cp1 (f1 y (A.take (k + 1))) (some ⟨g2, 0, none⟩) (n2 + 1) cp2 (f2 y (A.take (k + 1))) (some ⟨g3, 0, none⟩) (n3 + 1) cp3 (f3 y (A.take (k + 1))) := by
              rw [HT1.out, if_pos h1, HT2.out, if_pos h2, HT3.out, if_pos h3]
              exact ty3'.tj
            go_wp2
            go_roundw
            case rel => exact ⟨k + 1, (some ⟨g1, 0, none⟩), (n1 + 1), cp1, (some ⟨g2, 0, none⟩), (n2 + 1), cp2, (some ⟨g3, 0, none⟩), (n3 + 1), cp3, by omega, by go_num, rfl, rfl, rfl, tjn⟩
            case measure => simp [intOf]; omega
          · rw [h3]
            clear u0 u1 s0 s1 s2 s3 s4 s5 s6 s7 s8
            have tjn : TJ W3 v2 (some ⟨g1, 0, none⟩) (n1 + 1) cp1 (f1 y (A.take (k + 1))) (some ⟨g2, 0, none⟩) (n2 + 1) cp2 (f2 y (A.take (k + 1))) o3 n3 c3 (f3 y (A.take (k + 1))) := by
              rw [HT1.out, if_pos h1, HT2.out, if_pos h2, HT3.out, if_neg (by rw [h3]; decide)]
              exact ty2'.tj
            go_wp2
            go_roundw
            case rel => exact ⟨k + 1, (some ⟨g1, 0, none⟩), (n1 + 1), cp1, (some ⟨g2, 0, none⟩), (n2 + 1), cp2, o3, n3, c3, by omega, by go_num, rfl, rfl, rfl, tjn⟩
            case measure => simp [intOf]; omega
        · rw [h2]
          clear u0 u1 s0 s1 s2 s3 s4 s5 s6 s7 s8
          go_upto_region 12 with fail
          obtain ⟨u0, u1, _, _⟩ := two_cells ty1'.b
          obtain ⟨s0, s1, s2, s3, s4, s5, s6, s7, s8⟩ := nine_cells (below_block ty1'.bel FSo)
          go_cut [59] from 48 to 59 (fun v wx => v = .bool C3 ∧ wx = v1)
          case first =>
            go_wp2_with fail
            all_goals
              go_meet
              refine ⟨?_, rfl⟩
              first | (rw [HC3.out]; done) | (rw [HC3.out]; refine congrArg Value.bool ?_; (rw [Bool.eq_iff_iff]) <;> simp <;> try omega)
          case rest =>
          obtain ⟨rfl, hwc⟩ := hcut
          rw [hwc]
          clear hwc
          rcases Bool.eq_false_or_eq_true C3 with h3 | h3
          · rw [h3]
            have hsz3 := ty1'.bel.size
            have hq3 : n3 ≤ 1000001 := by have h1 := own_slen ty1'.r3; have h2 := HB3.out; omega
            have tyA3 := ty1'.call ((Below.refl v1.heap.size v1).alloc (Nat.le_refl _) (.cells #[.int .i64 T, .int .i64 U] 29))
            go_wp2_with (at_builtin; refine wpList_append_lies _ rfl _ _ 24 rfl W3.heap.size 29 i0 (.agg #[.int .i64 0, .int .i64 0]) 2 16 Try.underlying24 hi hz0 hz1 hz2 rfl (by decide) _ _ _ rfl tyA3.r3 ⟨v1.heap.size, 0, none⟩ 1 1 [.int .i64 T, .int .i64 U] rfl rfl (news_two rfl _ _ _) (by simp [Value.oneCell']) (by decide) (by unfold maxLen; omega) (by omega) (by simp; omega) (v1.heap.size + 1) (by simp) ?_)
            intro g3 cp3 v3 own3 gr3 hat3 hlt3
            have ty3' := tyA3.push3 own3 gr3 (by simpa using hat3)
            clear own3 gr3 hat3 hlt3 tyA3 u0 u1 s0 s1 s2 s3 s4 s5 s6 s7 s8
            have tjn : TJ W3 v3 (some ⟨g1, 0, none⟩) (n1 + 1) cp1 (f1 y (A.take (k + 1))) o2 n2 c2 (f2 y (A.take (k + 1))) (some ⟨g3, 0, none⟩) (n3 + 1) cp3 (f3 y (A.take (k + 1))) := by
              rw [HT1.out, if_pos h1, HT2.out, if_neg (by rw [h2]; decide), HT3.out, if_pos h3]
              exact ty3'.tj
            go_wp2
            go_roundw
            case rel => exact ⟨k + 1, (some ⟨g1, 0, none⟩), (n1 + 1), cp1, o2, n2, c2, (some ⟨g3, 0, none⟩), (n3 + 1), cp3, by omega, by go_num, rfl, rfl, rfl, tjn⟩
            case measure => simp [intOf]; omega
          · rw [h3]
            clear u0 u1 s0 s1 s2 s3 s4 s5 s6 s7 s8
            have tjn : TJ W3 v1 (some ⟨g1, 0, none⟩) (n1 + 1) cp1 (f1 y (A.take (k + 1))) o2 n2 c2 (f2 y (A.take (k + 1))) o3 n3 c3 (f3 y (A.take (k + 1))) := by
              rw [HT1.out, if_pos h1, HT2.out, if_neg (by rw [h2]; decide), HT3.out, if_neg (by rw [h3]; decide)]
              exact ty1'.tj
            go_wp2
            go_roundw
            case rel => exact ⟨k + 1, (some ⟨g1, 0, none⟩), (n1 + 1), cp1, o2, n2, c2, o3, n3, c3, by omega, by go_num, rfl, rfl, rfl, tjn⟩
            case measure => simp [intOf]; omega
      · rw [h1]
        clear u0 u1 s0 s1 s2 s3 s4 s5 s6 s7 s8
        go_upto_region 10 with fail
        obtain ⟨u0, u1, _, _⟩ := two_cells ty0.b
        obtain ⟨s0, s1, s2, s3, s4, s5, s6, s7, s8⟩ := nine_cells (below_block ty0.bel FSo)
        go_cut [43] from 32 to 43 (fun v wx => v = .bool C2 ∧ wx = W5)
        case first =>
          go_wp2_with fail
          all_goals
            go_meet
            refine ⟨?_, rfl⟩
            first | (rw [HC2.out]; done) | (rw [HC2.out]; refine congrArg Value.bool ?_; (rw [Bool.eq_iff_iff]) <;> simp <;> try omega)
        case rest =>
        obtain ⟨rfl, hwc⟩ := hcut
        rw [hwc]
        clear hwc
        rcases Bool.eq_false_or_eq_true C2 with h2 | h2
        · rw [h2]
          have hsz2 := ty0.bel.size
          have hq2 : n2 ≤ 1000001 := by have h1 := own_slen ty0.r2; have h2 := HB2.out; omega
          have tyA2 := ty0.call ((Below.refl W5.heap.size W5).alloc (Nat.le_refl _) (.cells #[.int .i64 T, .int .i64 U] 29))
          go_wp2_with (at_builtin; refine wpList_append_lies _ rfl _ _ 24 rfl W3.heap.size 29 i0 (.agg #[.int .i64 0, .int .i64 0]) 2 16 Try.underlying24 hi hz0 hz1 hz2 rfl (by decide) _ _ _ rfl tyA2.r2 ⟨W5.heap.size, 0, none⟩ 1 1 [.int .i64 T, .int .i64 U] rfl rfl (news_two rfl _ _ _) (by simp [Value.oneCell']) (by decide) (by unfold maxLen; omega) (by omega) (by simp; omega) (W5.heap.size + 1) (by simp) ?_)
          intro g2 cp2 v2 own2 gr2 hat2 hlt2
          have ty2' := tyA2.push2 own2 gr2 (by simpa using hat2)
          clear own2 gr2 hat2 hlt2 tyA2 u0 u1 s0 s1 s2 s3 s4 s5 s6 s7 s8
          go_upto_region 12 with fail
          obtain ⟨u0, u1, _, _⟩ := two_cells ty2'.b
          obtain ⟨s0, s1, s2, s3, s4, s5, s6, s7, s8⟩ := nine_cells (below_block ty2'.bel FSo)
          go_cut [59] from 48 to 59 (fun v wx => v = .bool C3 ∧ wx = v2)
          case first =>
            go_wp2_with fail
            all_goals
              go_meet
              refine ⟨?_, rfl⟩
              first | (rw [HC3.out]; done) | (rw [HC3.out]; refine congrArg Value.bool ?_; (rw [Bool.eq_iff_iff]) <;> simp <;> try omega)
          case rest =>
          obtain ⟨rfl, hwc⟩ := hcut
          rw [hwc]
          clear hwc
          rcases Bool.eq_false_or_eq_true C3 with h3 | h3
          · rw [h3]
            have hsz3 := ty2'.bel.size
            have hq3 : n3 ≤ 1000001 := by have h1 := own_slen ty2'.r3; have h2 := HB3.out; omega
            have tyA3 := ty2'.call ((Below.refl v2.heap.size v2).alloc (Nat.le_refl _) (.cells #[.int .i64 T, .int .i64 U] 29))
            go_wp2_with (at_builtin; refine wpList_append_lies _ rfl _ _ 24 rfl W3.heap.size 29 i0 (.agg #[.int .i64 0, .int .i64 0]) 2 16 Try.underlying24 hi hz0 hz1 hz2 rfl (by decide) _ _ _ rfl tyA3.r3 ⟨v2.heap.size, 0, none⟩ 1 1 [.int .i64 T, .int .i64 U] rfl rfl (news_two rfl _ _ _) (by simp [Value.oneCell']) (by decide) (by unfold maxLen; omega) (by omega) (by simp; omega) (v2.heap.size + 1) (by simp) ?_)
            intro g3 cp3 v3 own3 gr3 hat3 hlt3
            have ty3' := tyA3.push3 own3 gr3 (by simpa using hat3)
            clear own3 gr3 hat3 hlt3 tyA3 u0 u1 s0 s1 s2 s3 s4 s5 s6 s7 s8
            have tjn : TJ W3 v3 o1 n1 c1 (f1 y (A.take (k + 1))) (some ⟨g2, 0, none⟩) (n2 + 1) cp2 (f2 y (A.take (k + 1))) (some ⟨g3, 0, none⟩) (n3 + 1) cp3 (f3 y (A.take (k + 1))) := by
              rw [HT1.out, if_neg (by rw [h1]; decide), HT2.out, if_pos h2, HT3.out, if_pos h3]
              exact ty3'.tj
            go_wp2
            go_roundw
            case rel => exact ⟨k + 1, o1, n1, c1, (some ⟨g2, 0, none⟩), (n2 + 1), cp2, (some ⟨g3, 0, none⟩), (n3 + 1), cp3, by omega, by go_num, rfl, rfl, rfl, tjn⟩
            case measure => simp [intOf]; omega
          · rw [h3]
            clear u0 u1 s0 s1 s2 s3 s4 s5 s6 s7 s8
            have tjn : TJ W3 v2 o1 n1 c1 (f1 y (A.take (k + 1))) (some ⟨g2, 0, none⟩) (n2 + 1) cp2 (f2 y (A.take (k + 1))) o3 n3 c3 (f3 y (A.take (k + 1))) := by
              rw [HT1.out, if_neg (by rw [h1]; decide), HT2.out, if_pos h2, HT3.out, if_neg (by rw [h3]; decide)]
              exact ty2'.tj
            go_wp2
            go_roundw
            case rel => exact ⟨k + 1, o1, n1, c1, (some ⟨g2, 0, none⟩), (n2 + 1), cp2, o3, n3, c3, by omega, by go_num, rfl, rfl, rfl, tjn⟩
            case measure => simp [intOf]; omega
        · rw [h2]
          clear u0 u1 s0 s1 s2 s3 s4 s5 s6 s7 s8
          go_upto_region 12 with fail
          obtain ⟨u0, u1, _, _⟩ := two_cells ty0.b
          obtain ⟨s0, s1, s2, s3, s4, s5, s6, s7, s8⟩ := nine_cells (below_block ty0.bel FSo)
          go_cut [59] from 48 to 59 (fun v wx => v = .bool C3 ∧ wx = W5)
          case first =>
            go_wp2_with fail
            all_goals
              go_meet
              refine ⟨?_, rfl⟩
              first | (rw [HC3.out]; done) | (rw [HC3.out]; refine congrArg Value.bool ?_; (rw [Bool.eq_iff_iff]) <;> simp <;> try omega)
          case rest =>
          obtain ⟨rfl, hwc⟩ := hcut
          rw [hwc]
          clear hwc
          rcases Bool.eq_false_or_eq_true C3 with h3 | h3
          · rw [h3]
            have hsz3 := ty0.bel.size
            have hq3 : n3 ≤ 1000001 := by have h1 := own_slen ty0.r3; have h2 := HB3.out; omega
            have tyA3 := ty0.call ((Below.refl W5.heap.size W5).alloc (Nat.le_refl _) (.cells #[.int .i64 T, .int .i64 U] 29))
            go_wp2_with (at_builtin; refine wpList_append_lies _ rfl _ _ 24 rfl W3.heap.size 29 i0 (.agg #[.int .i64 0, .int .i64 0]) 2 16 Try.underlying24 hi hz0 hz1 hz2 rfl (by decide) _ _ _ rfl tyA3.r3 ⟨W5.heap.size, 0, none⟩ 1 1 [.int .i64 T, .int .i64 U] rfl rfl (news_two rfl _ _ _) (by simp [Value.oneCell']) (by decide) (by unfold maxLen; omega) (by omega) (by simp; omega) (W5.heap.size + 1) (by simp) ?_)
            intro g3 cp3 v3 own3 gr3 hat3 hlt3
            have ty3' := tyA3.push3 own3 gr3 (by simpa using hat3)
            clear own3 gr3 hat3 hlt3 tyA3 u0 u1 s0 s1 s2 s3 s4 s5 s6 s7 s8
            have tjn : TJ W3 v3 o1 n1 c1 (f1 y (A.take (k + 1))) o2 n2 c2 (f2 y (A.take (k + 1))) (some ⟨g3, 0, none⟩) (n3 + 1) cp3 (f3 y (A.take (k + 1))) := by
              rw [HT1.out, if_neg (by rw [h1]; decide), HT2.out, if_neg (by rw [h2]; decide), HT3.out, if_pos h3]
              exact ty3'.tj
            go_wp2
            go_roundw
            case rel => exact ⟨k + 1, o1, n1, c1, o2, n2, c2, (some ⟨g3, 0, none⟩), (n3 + 1), cp3, by omega, by go_num, rfl, rfl, rfl, tjn⟩
            case measure => simp [intOf]; omega
          · rw [h3]
            clear u0 u1 s0 s1 s2 s3 s4 s5 s6 s7 s8
            have tjn : TJ W3 W5 o1 n1 c1 (f1 y (A.take (k + 1))) o2 n2 c2 (f2 y (A.take (k + 1))) o3 n3 c3 (f3 y (A.take (k + 1))) := by
              rw [HT1.out, if_neg (by rw [h1]; decide), HT2.out, if_neg (by rw [h2]; decide), HT3.out, if_neg (by rw [h3]; decide)]
              exact ty0.tj
            go_wp2
            go_roundw
            case rel => exact ⟨k + 1, o1, n1, c1, o2, n2, c2, o3, n3, c3, by omega, by go_num, rfl, rfl, rfl, tjn⟩
            case measure => simp [intOf]; omega
    · have he : k = N := by omega
      subst he
      have HTk : Hid (A.take k = A) := by show _ = _; exact List.take_of_length_le (by rw [← HNA.out]; omega)
      rw [HTk.out] at tj
      have kp := HK.out
      have hr1 : f1 y A = y.s.ra := kp.ra.symm
      have hr2 : Grain.up (f2 y A) 10 = y.s.fi := kp.fi.symm
      have hr3 : Grain.up (f3 y A) 60 = y.s.co := kp.co.symm
      rw [hr1] at tj
      obtain rfl : n1 = y.s.ra.length := own_slen tj.r1
      have w2l : n2 ≤ 1000000 := by
        have h := own_slen tj.r2
        rw [h]
        exact kp.took.win_len kp.sr.fsp.2.2.2.2 kp.sr.fsp.2.2.1 kp.sr.fsp.2.2.2.1
      have w3l : n3 ≤ 1000000 := by
        have h := own_slen tj.r3
        rw [h]
        exact kp.took.win_len kp.sr.csp.2.2.2.2 kp.sr.csp.2.2.1 kp.sr.csp.2.2.2.1
      have htmA : ∀ (f t : Int) (j : Nat), j < (Grain.win A f t).length → 0 ≤ Grain.tm (Grain.win A f t) j ∧ Grain.tm (Grain.win A f t) j ≤ 1000000 := by
        intro f t j hj
        rw [(Grain.tm_get hj).1]
        have hm := List.getElem_mem hj
        obtain ⟨q, hq⟩ : ∃ q, q = (Grain.win A f t)[j] := ⟨_, rfl⟩
        rw [← hq] at hm ⊢
        have h1 := kp.took.rin _ (List.mem_filter.1 hm).1
        simp only [Grain.inR, decide_eq_true_eq] at h1
        omega
      have inR := in3.below tj.bel
      have g1 := own_seg' tj.r1
      have g2 := own_seg' tj.r2
      have g3 := own_seg' tj.r3
      have e2 := own_slen tj.r2
      have e3 := own_slen tj.r3
      have bw : Below w.heap.size w wr := bel3.trans (tj.bel.mono bel3.size)
      have rl := kp.sr.rlen
      have fl := kp.sr.flen
      have cl := kp.sr.clen
      obtain ⟨J, hJ⟩ : ∃ J, J = Grain.of y.s.ra := ⟨_, rfl⟩
      have C1 : Hid (∀ W : World, Below wr.heap.size wr W → Calls Try.prog 12 #[.slice y.a1 y.s.ra.length y.c1, .slice o1 y.s.ra.length c1] W fun e w' => e = .returned (.bool true) ∧ Below wr.heap.size wr w') := by
        intro W hb
        refine (smsame_any y.s.ra y.a1 o1 y.s.ra.length y.c1 c1 W (inR.g1.below hb) (g1.below hb) rfl (by omega)).mono ?_
        rintro e w' ⟨h1, h2⟩
        exact ⟨h1, hb.trans (h2.mono hb.size)⟩
      have C2 : Hid (∀ W : World, Below wr.heap.size wr W → Calls Try.prog 14 #[.slice o2 n2 c2, .int .i64 1] W fun e w' => ∃ uo ud, e = .returned (.slice uo y.s.fi.length ud) ∧ Seg w' uo (kcells y.s.fi) ∧ Below wr.heap.size wr w') := by
        intro W hb
        refine (up_big (f2 y A) o2 n2 c2 1 10 W (g2.below hb) e2 w2l (htmA _ _) rfl (.inl rfl)).mono ?_
        rintro e w' ⟨uo, M, ud, rfl, ou, h2⟩
        rw [hr2] at ou
        obtain rfl : M = y.s.fi.length := own_klen ou
        exact ⟨uo, ud, rfl, own_seg' ou, hb.trans (h2.mono hb.size)⟩
      have C3 : Hid (∀ (W : World) (uo : Option Addr) (ud : Nat), Below wr.heap.size wr W → Seg W uo (kcells y.s.fi) → Calls Try.prog 13 #[.slice y.a2 y.s.fi.length y.c2, .slice uo y.s.fi.length ud] W fun e w' => e = .returned (.bool true) ∧ Below wr.heap.size wr w') := by
        intro W uo ud hb hu
        refine (ksame_any y.s.fi y.a2 uo y.s.fi.length y.c2 ud W (inR.g2.below hb) hu rfl (by omega)).mono ?_
        rintro e w' ⟨h1, h2⟩
        exact ⟨h1, hb.trans (h2.mono hb.size)⟩
      have C4 : Hid (∀ W : World, Below wr.heap.size wr W → Calls Try.prog 14 #[.slice o3 n3 c3, .int .i64 2] W fun e w' => ∃ uo ud, e = .returned (.slice uo y.s.co.length ud) ∧ Seg w' uo (kcells y.s.co) ∧ Below wr.heap.size wr w') := by
        intro W hb
        refine (up_big (f3 y A) o3 n3 c3 2 60 W (g3.below hb) e3 w3l (htmA _ _) rfl (.inr rfl)).mono ?_
        rintro e w' ⟨uo, M, ud, rfl, ou, h2⟩
        rw [hr3] at ou
        obtain rfl : M = y.s.co.length := own_klen ou
        exact ⟨uo, ud, rfl, own_seg' ou, hb.trans (h2.mono hb.size)⟩
      have C5 : Hid (∀ (W : World) (uo : Option Addr) (ud : Nat), Below wr.heap.size wr W → Seg W uo (kcells y.s.co) → Calls Try.prog 13 #[.slice y.a3 y.s.co.length y.c3, .slice uo y.s.co.length ud] W fun e w' => e = .returned (.bool true) ∧ Below wr.heap.size wr w') := by
        intro W uo ud hb hu
        refine (ksame_any y.s.co y.a3 uo y.s.co.length y.c3 ud W (inR.g3.below hb) hu rfl (by omega)).mono ?_
        rintro e w' ⟨h1, h2⟩
        exact ⟨h1, hb.trans (h2.mono hb.size)⟩
      have C6 : Hid (∀ (W : World) (ao' : Option Addr) (cc : Nat), (ao' = o1 ∨ ao' = y.a1) → Below wr.heap.size wr W → Calls Try.prog 15 #[.slice ao' y.s.ra.length cc] W fun e w' => e = .returned (.agg #[.int .i64 J.c, .int .i64 J.t, .int .i64 J.mn, .int .i64 J.mx, .int .i64 J.f, .int .i64 J.l, .int .i64 J.r]) ∧ Below wr.heap.size wr w') := by
        intro W ao' cc ho hb
        have sg : Seg W ao' (scells y.s.ra) := by rcases ho with rfl | rfl; exact g1.below hb; exact inR.g1.below hb
        refine (of_len y.s.ra ao' y.s.ra.length cc W sg rfl (by omega)).mono ?_
        rintro e w' ⟨J', hJ', h1, h2⟩
        rw [hJ'.out, ← hJ] at h1
        exact ⟨h1, hb.trans (h2.mono hb.size)⟩
      have HSB : Hid (∀ W : World, Below wr.heap.size wr W → W.cell? ⟨S, 1, none⟩ = some (.slice y.a1 y.s.ra.length y.c1) ∧ W.cell? ⟨S, 2, none⟩ = some (.slice y.a2 y.s.fi.length y.c2) ∧ W.cell? ⟨S, 3, none⟩ = some (.slice y.a3 y.s.co.length y.c3)) := by
        intro W hb
        have h := nine_cells (below_block hb (below_block tj.bel FSo))
        exact ⟨h.2.1, h.2.2.1, h.2.2.2.1⟩
      have R0 : Below wr.heap.size wr wr.drew := below_drewN (Below.refl _ wr) 1
      clear hr1 hr2 hr3 htmA e2 e3 g1 g2 g3 kp inR hJ tj w2l w3l
      obtain ⟨s1, s2, s3⟩ := HSB.out _ (Below.refl _ wr)
      go_upto_region 15 with fail
      go_region_held3 (fun W => W.cell? ⟨S, 1, none⟩ = some (.slice y.a1 y.s.ra.length y.c1) ∧ W.cell? ⟨S, 2, none⟩ = some (.slice y.a2 y.s.fi.length y.c2) ∧ W.cell? ⟨S, 3, none⟩ = some (.slice y.a3 y.s.co.length y.c3)) (first | exact HSB.out _ (by with_reducible assumption) | go_keep)
        (first
          | (go_at_call 12; refine (C1.out _ (by with_reducible assumption)).mono ?_; rintro e u1 ⟨rfl, hbu1⟩)
          | (go_at_call_of 14 (Value.int .i64 1); refine (C2.out _ (by with_reducible assumption)).mono ?_; rintro e u2 ⟨uo, ud, rfl, sgu, hbu2⟩)
          | (go_at_call_of 13 (Value.slice y.a2 y.s.fi.length y.c2); refine (C3.out _ uo ud (by with_reducible assumption) sgu).mono ?_; rintro e u3 ⟨rfl, hbu3⟩)
          | (go_at_call_of 14 (Value.int .i64 2); refine (C4.out _ (by with_reducible assumption)).mono ?_; rintro e u4 ⟨vo, vd, rfl, sgv, hbu4⟩)
          | (go_at_call_of 13 (Value.slice y.a3 y.s.co.length y.c3); refine (C5.out _ vo vd (by with_reducible assumption) sgv).mono ?_; rintro e u5 ⟨rfl, hbu5⟩)
          | (go_at_call 15; refine (C6.out _ _ _ (by first | exact .inl rfl | exact .inr rfl) (by with_reducible assumption)).mono ?_; rintro e u6 ⟨rfl, hbu6⟩))
      all_goals
        go_wp2
        go_ret
        exact ⟨rfl, bw.trans (hbu6.mono bw.size)⟩

end Go.Proofs.Ytcgcefnfelmmkaa
