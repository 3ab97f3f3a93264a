/-
  The walk of NamesTells.
-/
import Derived.Test.YtfbipefllabefacNCmp
import Derived.Test.YtfbipefllabefacNWrong
import Derived.Test.YtfbipefllabefacNMatch
import Derived.Test.YtfbipefllabefacNOnly
import Derived.Test.YtfbipefllabefacRefWrongS
import Derived.Test.YtfbipefllabefacRefSameS
import Derived.Test.YtfbipefllabefacRefMatch
namespace Go.Proofs.Ytfbipefllabefac
open Go.RowKit Go.GrainU

set_option maxHeartbeats 4000000 in
theorem ntells_any (a b : List (ByteArray × ByteArray)) (l : List Mt) (ks : List ByteArray) (key : ByteArray) (ao bo lo ko : Option Addr) (n m q r c1 c2 c3 c4 : Nat) (w : World)
    (ha : Seg w ao (lcells a)) (hb : Seg w bo (lcells b)) (hl : Seg w lo (mcells l)) (hk : Seg w ko (wcells ks))
    (hn : n = a.length) (hm : m = b.length) (hq : q = l.length) (hr : r = ks.length) (hf : Fits a) (hkey : key.size ≤ 9223372036854775807)
    (ln : n * 32 ≤ 140737488351232) (lq : q ≤ 9223372036854775806) (lr : r ≤ 9223372036854775806) :
    Calls Try.prog 4 #[.slice ao n c1, .slice bo m c2, .slice lo q c3, .slice ko r c4, .string key] w fun e w' => e = .returned (.bool true) ∧ Below w.heap.size w w' := by
  have HN := hide hn
  have HM := hide hm
  have HQ := hide hq
  have HR := hide hr
  clear hn hm hq hr
  have ln' : n ≤ 9223372036854775807 := by omega
  obtain ⟨x, hx⟩ : ∃ x, x = cmpS a b := ⟨_, rfl⟩
  obtain ⟨N, hN⟩ : ∃ x, x = Grain.named key := ⟨_, rfl⟩
  obtain ⟨S, hS⟩ : ∃ x, x = wrongS a := ⟨_, rfl⟩
  obtain ⟨M, hM⟩ : ∃ x, x = says a l := ⟨_, rfl⟩
  have Hx := hide hx
  have Hn := hide hN
  have Hs := hide hS
  have Hm := hide hM
  clear hx hN hS hM
  go_enter Try.func4, Try.ntmps4
  go_wp2_with fail
  refine (ncmp_any a b ao bo n m c1 c2 w ha hb HN.out HM.out ln').mono ?_
  rintro e w1 ⟨rfl, k1⟩
  rw [← Hx.out]
  have z1 := k1.size
  go_wp2_with fail
  refine (rcmp_any a b ao bo n m c1 c2 w1 (ha.below k1) (hb.below k1) HN.out HM.out ln').mono ?_
  rintro e w2 ⟨rfl, k2⟩
  rw [← Hx.out]
  have K2 : Below w.heap.size w w2 := k1.trans (k2.mono z1)
  have z2 := K2.size
  clear k1 k2 z1
  go_wp2_with fail
  refine (nnamed_any key w2 hkey).mono ?_
  rintro e w3 ⟨rfl, hw3⟩
  rw [← Hn.out, hw3]
  clear hw3
  go_wp2_with fail
  refine (rnamed_any key w2 hkey).mono ?_
  rintro e w4 ⟨rfl, k4⟩
  rw [← Hn.out]
  have K4 : Below w.heap.size w w4 := K2.trans (k4.mono z2)
  have z4 := K4.size
  clear k4 K2 z2
  have bN : (N != N) = false := by simp
  go_wp2_with fail
  refine (nwrong_any a ao n c1 w4 (ha.below K4) HN.out hf).mono ?_
  rintro e w5 ⟨rfl, k5⟩
  rw [← Hs.out]
  have K5 : Below w.heap.size w w5 := K4.trans (k5.mono z4)
  have z5 := K5.size
  clear k5 K4 z4
  go_wp2_with fail
  refine (rwrongs_any a ao n c1 w5 (ha.below K5) HN.out hf).mono ?_
  rintro e w6 ⟨rfl, k6⟩
  rw [← Hs.out]
  have K6 : Below w.heap.size w w6 := K5.trans (k6.mono z5)
  have z6 := K6.size
  clear k6 K5 z5
  go_wp2_with fail
  refine (nmatches_any a l ao lo n c1 q c3 w6 (ha.below K6) (hl.below K6) HN.out HQ.out ln' (by omega)).mono ?_
  rintro e w7 ⟨rfl, k7⟩
  rw [← Hm.out]
  have K7 : Below w.heap.size w w7 := K6.trans (k7.mono z6)
  have z7 := K7.size
  clear k7 K6 z6
  go_wp2_with fail
  refine (rmatch_any a l ao lo n q c1 c3 w7 (ha.below K7) (hl.below K7) HN.out HQ.out ln' lq).mono ?_
  rintro e w8 ⟨rfl, k8⟩
  rw [← Hm.out]
  have K8 : Below w.heap.size w w8 := K7.trans (k8.mono z7)
  have z8 := K8.size
  clear k8 K7 z7
  have bM : (M != M) = false := by simp
  go_wp2_with fail
  refine (nonly_any a ks ao ko n c1 r c4 w8 (ha.below K8) HN.out ln (hk.below K8) HR.out (by omega)).mono ?_
  rintro e w9 ⟨co, N9, d9, rfl, s9, h9, k9⟩
  have H9 := hide h9
  have K9 : Below w.heap.size w w9 := K8.trans (k9.mono z8)
  have z9 := K9.size
  clear k9 K8 z8 h9
  go_wp2_with fail
  refine (ronly_any a ks ao ko n c1 r c4 w9 (ha.below K9) HN.out ln (hk.below K9) HR.out lr).mono ?_
  rintro e w10 ⟨co', N10, d10, rfl, own, k10⟩
  have s9' := s9.below k10
  have K10 : Below w.heap.size w w10 := K9.trans (k10.mono z9)
  have z10 := K10.size
  obtain ⟨ao', c', hv, hseg, _⟩ := own_open own
  have H10 := hide (own_llen own)
  simp only [Value.slice.injEq] at hv
  obtain ⟨rfl, -, rfl⟩ := hv
  have l9 : N9 ≤ 9223372036854775807 := by
    have h1 := H9.out
    have h2 := only_len a ks
    have h3 := HN.out
    omega
  clear k10 K9 z9 s9 own
  go_wp2_with fail
  refine (sames_any (only a ks) (only a ks) co co' N9 N10 d9 d10 w10 s9' hseg H9.out H10.out l9).mono ?_
  rintro e w11 ⟨rfl, k11⟩
  rw [decide_eq_true (rfl : only a ks = only a ks)]
  have K11 : Below w.heap.size w w11 := K10.trans (k11.mono z10)
  have z11 := K11.size
  clear k11 K10 z10 s9' hseg H9 H10 l9
  go_wp2_with fail
  refine (nget_any a key ao n c1 w11 (ha.below K11) HN.out ln').mono ?_
  rintro e w12 ⟨rfl, k12⟩
  have K12 : Below w.heap.size w w12 := K11.trans (k12.mono z11)
  clear k12 K11 z11 Hx Hn Hs Hm bN bM
  obtain ⟨vv, hvv⟩ : ∃ v, v = (find a key).getD ⟨#[]⟩ := ⟨_, rfl⟩
  obtain ⟨ok, hok⟩ : ∃ v, v = (find a key).isSome := ⟨_, rfl⟩
  have HV := hide hvv
  have HO := hide hok
  rw [← hvv, ← hok]
  clear hvv hok
  go_wp2
  go_loopw [76] (fun i wr => ∃ k : Nat, k ≤ n ∧ i = .int .i64 k ∧ Hid (find a key = find (a.drop k) key) ∧ Below w.heap.size w wr) (fun i _ => n - (intOf i).toNat)
  case atStart => exact ⟨0, Nat.zero_le _, rfl, rfl, K12⟩
  case round =>
    clear K12
    obtain ⟨k, hkn, rfl, HW, bel⟩ := hrel
    have hsz := bel.size
    by_cases hlt : k < n
    · have hka : k < a.length := by rw [← HN.out]; exact hlt
      obtain ⟨p, off, rfl, hbl, hcell⟩ := seg_label ha hka
      obtain ⟨u, hu⟩ : ∃ x, x = lk a k := ⟨_, rfl⟩
      obtain ⟨y, hy⟩ : ∃ y, y = lv a k := ⟨_, rfl⟩
      have c0 : wr.cell? ⟨p, off + k * 2, none⟩ = some (.string u) := by rw [hu]; exact (bel.cell (by exact hbl)).trans (hcell k hka).1
      have c1 : wr.cell? ⟨p, off + k * 2 + 1, none⟩ = some (.string y) := by rw [hy]; exact (bel.cell (by exact hbl)).trans (hcell k hka).2
      have HS : Hid (find a key = if u = key then some y else find (a.drop (k + 1)) key) := by
        show _ = _
        rw [HW.out, find_drop hka, hu, hy]
      clear hu hy hcell hka HW
      by_cases e1 : u = key
      · have hw : find a key = some y := by rw [HS.out, if_pos e1]
        have hv1 : vv = y := by rw [HV.out, hw]; rfl
        have ho1 : ok = true := by rw [HO.out, hw]; rfl
        subst e1 hv1 ho1
        obtain ⟨v1, v2⟩ := word_self u
        obtain ⟨v3, v4⟩ := word_self vv
        clear HS hw HV HO
        go_wp2
        go_ret
        exact ⟨rfl, bel.alloc hsz _⟩
      · have hw : Hid (find a key = find (a.drop (k + 1)) key) := by show _ = _; rw [HS.out, if_neg e1]
        obtain ⟨v1, v2⟩ := word_ne e1
        clear HS e1
        go_wp2
        go_roundw
        case rel => exact ⟨k + 1, by omega, by go_num, hw, bel.alloc hsz _⟩
        case measure => simp [intOf]; omega
    · have he : k = n := by omega
      subst he
      have hw : find a key = none := by
        rw [HW.out, List.drop_eq_nil_of_le (by rw [← HN.out]; omega)]; rfl
      have hv1 : vv = ⟨#[]⟩ := by rw [HV.out, hw]; rfl
      have ho1 : ok = false := by rw [HO.out, hw]; rfl
      subst hv1 ho1
      clear HW hw HV HO
      go_wp2
      go_ret
      exact ⟨rfl, bel⟩

end Go.Proofs.Ytfbipefllabefac
