/-
  The walk of NamesOrder.
-/
import Derived.Test.YtfbipefllabefacNAlive
import Derived.Test.YtfbipefllabefacRefSameS
namespace Go.GrainU
open Go.RowKit

/-- what the order says of two -/
theorem ord_two (a b : List (ByteArray × ByteArray)) : (cmpS a b = -1 ∧ cmpS b a = 1 ∧ decide (a = b) = false) ∨ (cmpS a b = 0 ∧ cmpS b a = 0 ∧ decide (a = b) = true) ∨ (cmpS a b = 1 ∧ cmpS b a = -1 ∧ decide (a = b) = false) := by
  rw [cmpS_L, cmpS_L, cmpL_back a b]
  have hz := cmpL_zero a b
  rcases cmpL_cases a b with h | ⟨h, e⟩ | h
  · left
    rw [h] at hz ⊢
    refine ⟨rfl, rfl, ?_⟩
    simpa using fun e => absurd (hz.2 e) (by decide)
  · right; left
    rw [h]
    exact ⟨rfl, rfl, by simpa using e⟩
  · right; right
    rw [h] at hz ⊢
    refine ⟨rfl, rfl, ?_⟩
    simpa using fun e => absurd (hz.2 e) (by decide)

theorem ord_three {a b c : List (ByteArray × ByteArray)} (h : cmpS a b = -1) (h' : cmpS b c = -1) : cmpS a c = -1 := by
  rw [cmpS_L] at *
  exact cmpL_trans a b c h h'

theorem ord_sign (a b : List (ByteArray × ByteArray)) : cmpS a b = -1 ∨ cmpS a b = 0 ∨ cmpS a b = 1 := by
  rcases ord_two a b with h | h | h
  · exact .inl h.1
  · exact .inr (.inl h.1)
  · exact .inr (.inr h.1)

end Go.GrainU
namespace Go.Proofs.Ytfbipefllabefac
open Go.RowKit Go.GrainU

set_option maxHeartbeats 2000000 in
theorem norder_any (a b c : List (ByteArray × ByteArray)) (ao bo co : Option Addr) (n m o c1 c2 c3 : Nat) (w : World) (ha : Seg w ao (lcells a)) (hb : Seg w bo (lcells b)) (hc : Seg w co (lcells c))
    (hn : n = a.length) (hm : m = b.length) (ho : o = c.length) (ln : n ≤ 9223372036854775807) (lm : m ≤ 9223372036854775807) :
    Calls Try.prog 5 #[.slice ao n c1, .slice bo m c2, .slice co o c3] w fun e w' => e = .returned (.bool true) ∧ Below w.heap.size w w' := by
  have HN := hide hn
  have HM := hide hm
  have HO := hide ho
  clear hn hm ho
  have HT := hide (ord_two a b)
  go_enter Try.func5, Try.ntmps5
  go_wp2_with fail
  refine (alive_any w).mono ?_
  rintro e w1 ⟨rfl, k1⟩
  have z1 := k1.size
  go_wp2_with fail
  refine (ncmp_any a b ao bo n m c1 c2 w1 (ha.below k1) (hb.below k1) HN.out HM.out ln).mono ?_
  rintro e w2 ⟨rfl, k2⟩
  have K2 : Below w.heap.size w w2 := k1.trans (k2.mono z1)
  have z2 := K2.size
  clear k1 k2 z1
  obtain ⟨x, hx⟩ : ∃ x, x = cmpS a b := ⟨_, rfl⟩
  have HX := hide hx
  rw [← hx]
  clear hx
  go_wp2_with fail
  refine (ncmp_any b a bo ao m n c2 c1 w2 (hb.below K2) (ha.below K2) HM.out HN.out lm).mono ?_
  rintro e w3 ⟨rfl, k3⟩
  have K3 : Below w.heap.size w w3 := K2.trans (k3.mono z2)
  have z3 := K3.size
  clear k3 K2 z2
  obtain ⟨y, hy⟩ : ∃ y, y = cmpS b a := ⟨_, rfl⟩
  have HY := hide hy
  rw [← hy]
  clear hy
  have hT := HT.out
  rw [← HX.out, ← HY.out] at hT
  clear HT HY
  obtain ⟨q, hq⟩ : ∃ q, q = decide (a = b) := ⟨_, rfl⟩
  have HQ := hide hq
  rw [← hq] at hT
  clear hq
  rcases hT with ⟨hx, rfl, hq⟩ | ⟨hx, rfl, hq⟩ | ⟨hx, rfl, hq⟩
  · have HX' : Hid (cmpS a b = -1) := by show _ = _; rw [← HX.out]; exact hx
    subst hx
    clear HX
    go_wp2_with fail
    refine (sames_any a b ao bo n m c1 c2 w3 (ha.below K3) (hb.below K3) HN.out HM.out ln).mono ?_
    rintro e w4 ⟨rfl, k4⟩
    rw [← HQ.out, hq]
    have K4 : Below w.heap.size w w4 := K3.trans (k4.mono z3)
    have z4 := K4.size
    clear k4 K3 z3 hq HQ
    go_wp2_with fail
    refine (ncmp_any b c bo co m o c2 c3 w4 (hb.below K4) (hc.below K4) HM.out HO.out lm).mono ?_
    rintro e w5 ⟨rfl, k5⟩
    have K5 : Below w.heap.size w w5 := K4.trans (k5.mono z4)
    have z5 := K5.size
    clear k5 K4 z4
    rcases ord_sign b c with h | h | h
    · have H3 := hide (ord_three HX'.out h)
      rw [h]
      clear h HX'
      go_wp2_with fail
      refine (ncmp_any a c ao co n o c1 c3 w5 (ha.below K5) (hc.below K5) HN.out HO.out ln).mono ?_
      rintro e w6 ⟨rfl, k6⟩
      rw [H3.out]
      have K6 : Below w.heap.size w w6 := K5.trans (k6.mono z5)
      clear k6 K5
      go_wp2
      go_ret
      exact ⟨rfl, K6⟩
    · rw [h]
      clear h HX'
      go_wp2
      go_ret
      exact ⟨rfl, K5⟩
    · rw [h]
      clear h HX'
      go_wp2
      go_ret
      exact ⟨rfl, K5⟩
  · subst hx
    clear HX
    go_wp2_with fail
    refine (sames_any a b ao bo n m c1 c2 w3 (ha.below K3) (hb.below K3) HN.out HM.out ln).mono ?_
    rintro e w4 ⟨rfl, k4⟩
    rw [← HQ.out, hq]
    have K4 : Below w.heap.size w w4 := K3.trans (k4.mono z3)
    clear k4 K3 z3 hq HQ
    go_wp2
    go_ret
    exact ⟨rfl, K4⟩
  · subst hx
    clear HX
    go_wp2_with fail
    refine (sames_any a b ao bo n m c1 c2 w3 (ha.below K3) (hb.below K3) HN.out HM.out ln).mono ?_
    rintro e w4 ⟨rfl, k4⟩
    rw [← HQ.out, hq]
    have K4 : Below w.heap.size w w4 := K3.trans (k4.mono z3)
    clear k4 K3 z3 hq HQ
    go_wp2
    go_ret
    exact ⟨rfl, K4⟩

end Go.Proofs.Ytfbipefllabefac
