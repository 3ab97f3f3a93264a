/-
  The walks of the two binary searches, of ahead, Clone, Only.
-/
import Derived.Test.YthohkokhimdamaaMeC
import Derived.Test.YthohkokhimdamaaNOnly
import Derived.Lib.SlBuf
namespace Go.GrainU
open Go.RowKit

def cmpI (a b : Int) : Int := if a < b then -1 else if b < a then 1 else 0

end Go.GrainU
namespace Go.Proofs.Ythohkokhimdamaa
open Go.RowKit Go.GrainU

set_option maxHeartbeats 1000000 in
theorem isnan_any (a : Int) (w : World) : Calls Try.prog 41 #[.int .i64 a] w fun e w' => e = .returned (.bool false) ∧ w' = w := by
  have h : (a != a) = false := by simp
  go_enter Try.func41, Try.ntmps41
  go_wp2
  go_ret
  exact ⟨rfl, rfl⟩

set_option maxHeartbeats 1000000 in
theorem cmpint_any (a b : Int) (w : World) : Calls Try.prog 27 #[.int .i64 a, .int .i64 b] w fun e w' => e = .returned (.int .i64 (cmpI a b)) ∧ w' = w := by
  obtain ⟨R, hR⟩ : ∃ R, R = cmpI a b := ⟨_, rfl⟩
  rw [← hR]
  have HR : Hid (R = if a < b then -1 else if b < a then 1 else 0) := hR
  clear hR
  go_enter Try.func27, Try.ntmps27
  go_wp2_with fail
  refine (isnan_any _ _).mono ?_
  intro e w1 hh
  rw [hh.1, hh.2]
  clear hh
  go_wp2_with fail
  refine (isnan_any _ _).mono ?_
  intro e w1 hh
  rw [hh.1, hh.2]
  clear hh
  go_wp2
  all_goals
    go_ret
    exact ⟨ret_int (by rw [HR.out]; (repeat' split) <;> omega), rfl⟩

set_option maxHeartbeats 1000000 in
theorem mahead1_any (t v T : Int) (w : World) : Calls Try.prog 26 #[.agg #[.int .i64 t, .int .i64 v], .int .i64 T] w fun e w' => e = .returned (.int .i64 (cmpI t T)) ∧ Below w.heap.size w w' := by
  obtain ⟨R, hR⟩ : ∃ R, R = cmpI t T := ⟨_, rfl⟩
  rw [← hR]
  have HR := hide hR
  clear hR
  go_enter Try.func26, Try.ntmps26
  go_wp2_with fail
  refine (cmpint_any _ _ _).mono ?_
  intro e w1 hh
  rw [hh.1, hh.2, ← HR.out]
  clear hh
  go_wp2
  go_ret
  exact ⟨rfl, (Below.refl _ _).alloc (Nat.le_refl _) _⟩

set_option maxHeartbeats 4000000 in
set_option maxRecDepth 100000 in
theorem mbs_any (l : List (Int × Int)) (T : Int) (ao : Option Addr) (n c p : Nat) (w : World) (hs : Seg w ao (scells l)) (hn : n = l.length) (hn4 : n ≤ 1000000) (hp : p ≤ n) (hbd : ∀ k, k < n → (Grain.tm l k < T ↔ k < p)) :
    Calls Try.prog 25 #[.slice ao n c, .int .i64 T, .func (.func 26) #[] #[]] w fun e w' => (∃ b, e = .returned (.tuple #[.int .i64 p, .bool b])) ∧ Below w.heap.size w w' := by
  have HN := hide hn
  have HB := hide hbd
  clear hn hbd
  go_enter Try.func25, Try.ntmps25
  go_wp2
  go_loopw [9, 10] (fun s9 s10 wr => ∃ lo hi : Nat, s9 = .int .i64 lo ∧ s10 = .int .i64 hi ∧ lo ≤ p ∧ p ≤ hi ∧ hi ≤ n ∧ Below w.heap.size w wr) (fun s9 s10 _ => (intOf s10).toNat - (intOf s9).toNat)
  case atStart => exact ⟨0, n, rfl, rfl, Nat.zero_le _, hp, Nat.le_refl _, Below.refl _ _⟩
  case round =>
    obtain ⟨lo, hi, rfl, rfl, hlo, hhi, hin, bel⟩ := hrel
    have hsz := bel.size
    by_cases hlt : lo < hi
    · have hkl : (lo + hi) / 2 < l.length := by rw [← HN.out]; omega
      obtain ⟨b, off, rfl, hcell⟩ := hs.sample hkl
      have hb : b < w.heap.size := World.block_lt_of_cell? w _ (hcell _ hkl).1
      obtain ⟨t, ht⟩ : ∃ t, t = Grain.tm l ((lo + hi) / 2) := ⟨_, rfl⟩
      obtain ⟨v, hv⟩ : ∃ v, v = Grain.vl l ((lo + hi) / 2) := ⟨_, rfl⟩
      have c0 : wr.cell? ⟨b, off + (lo + hi) / 2 * 2, none⟩ = some (.int .i64 t) := by rw [ht]; exact (bel.cell (by exact hb)).trans (hcell _ hkl).1
      have c1 : wr.cell? ⟨b, off + (lo + hi) / 2 * 2 + 1, none⟩ = some (.int .i64 v) := by rw [hv]; exact (bel.cell (by exact hb)).trans (hcell _ hkl).2
      have HT := hide ht
      clear hcell ht hv hkl
      go_wp2_with fail
      refine (mahead1_any t v T wr).mono ?_
      rintro e w1 ⟨rfl, b1⟩
      have bel1 : Below w.heap.size w w1 := bel.trans (b1.mono hsz)
      have hkey := HB.out ((lo + hi) / 2) (by omega)
      rw [← HT.out] at hkey
      clear c0 c1 b1 bel HT
      by_cases hc : t < T
      · have hC : cmpI t T = -1 := by simp [cmpI, hc]
        have hp2 := hkey.1 hc
        rw [hC]
        clear hC hkey hc
        go_wp2
        go_roundw
        case rel => exact ⟨(lo + hi) / 2 + 1, hi, by rw [show ((lo : Int) + (hi : Int)) / 2 + 1 = (((lo + hi) / 2 + 1 : Nat) : Int) by omega], rfl, by omega, hhi, hin, bel1⟩
        case measure => simp [intOf]; omega
      · have hC : ∃ C, C = cmpI t T ∧ ¬ C < 0 := ⟨_, rfl, by unfold cmpI; rw [if_neg hc]; split <;> omega⟩
        obtain ⟨C, hC1, hC2⟩ := hC
        have hp2 : ¬ (lo + hi) / 2 < p := fun h => hc (hkey.2 h)
        rw [← hC1]
        clear hC1 hkey hc
        go_wp2
        go_roundw
        case rel => exact ⟨lo, (lo + hi) / 2, rfl, by rw [show ((lo : Int) + (hi : Int)) / 2 = (((lo + hi) / 2 : Nat) : Int) by omega], hlo, by omega, by omega, bel1⟩
        case measure => simp [intOf]; omega
    · have e1 : lo = p := by omega
      have e2 : hi = p := by omega
      subst e1
      subst e2
      by_cases hpn : hi < n
      · have hkl : hi < l.length := by rw [← HN.out]; omega
        obtain ⟨b, off, rfl, hcell⟩ := hs.sample hkl
        have hb : b < w.heap.size := World.block_lt_of_cell? w _ (hcell _ hkl).1
        obtain ⟨t, ht⟩ : ∃ t, t = Grain.tm l hi := ⟨_, rfl⟩
        obtain ⟨v, hv⟩ : ∃ v, v = Grain.vl l hi := ⟨_, rfl⟩
        have c0 : wr.cell? ⟨b, off + hi * 2, none⟩ = some (.int .i64 t) := by rw [ht]; exact (bel.cell (by exact hb)).trans (hcell _ hkl).1
        have c1 : wr.cell? ⟨b, off + hi * 2 + 1, none⟩ = some (.int .i64 v) := by rw [hv]; exact (bel.cell (by exact hb)).trans (hcell _ hkl).2
        clear hcell ht hv hkl
        go_wp2_with fail
        refine (mahead1_any t v T wr).mono ?_
        rintro e w1 ⟨rfl, b1⟩
        have bel1 : Below w.heap.size w w1 := bel.trans (b1.mono hsz)
        generalize cmpI t T = C
        clear c0 c1 b1 bel
        go_wp2
        all_goals
          go_ret2
          exact ⟨⟨_, rfl⟩, bel1⟩
      · go_wp2
        go_ret2
        exact ⟨⟨_, rfl⟩, bel⟩

theorem mahead_any (l : List (Int × Int)) (T : Int) (ao : Option Addr) (n c p : Nat) (w : World) (hs : Seg w ao (scells l)) (hn : n = l.length) (hn4 : n ≤ 1000000) (hp : p ≤ n) (hbd : ∀ k, k < n → (Grain.tm l k < T ↔ k < p)) :
    Calls Try.prog 14 #[.slice ao n c, .int .i64 T] w fun e w' => e = .returned (.int .i64 p) ∧ Below w.heap.size w w' := by
  have HN := hide hn
  have HB := hide hbd
  clear hn hbd
  go_enter Try.func14, Try.ntmps14
  go_wp2_with fail
  refine (mbs_any l T ao n c p w hs HN.out hn4 hp HB.out).mono ?_
  rintro e w1 ⟨⟨b, rfl⟩, b1⟩
  go_wp2
  go_ret
  exact ⟨rfl, b1⟩

set_option maxHeartbeats 1000000 in
theorem mallof1_any (x : CT) (s : Lb) (n m c' : Nat) (so : Option Addr) (w : World) (hx : Seg w x.sa (lcells x.ser)) (hs : Seg w so (lcells s)) (hn : n = x.ser.length) (hm : m = s.length) (hc : n ≤ 9223372036854775807) :
    Calls Try.prog 49 #[.agg #[.slice x.sa n x.sc, .int .i64 x.v], .slice so m c'] w fun e w' => e = .returned (.int .i64 (cmpS x.ser s)) ∧ Below w.heap.size w w' := by
  obtain ⟨V, hV⟩ : ∃ V, V = w.alloc (.cells #[.slice x.sa n x.sc, .int .i64 x.v] 44) := ⟨_, rfl⟩
  have bel : Below w.heap.size w V := by rw [hV]; exact (Below.refl _ _).alloc (Nat.le_refl _) _
  have HV := hide hV
  have HN := hide hn
  have HM := hide hm
  obtain ⟨C, hC⟩ : ∃ C, C = cmpS x.ser s := ⟨_, rfl⟩
  rw [← hC]
  have HC := hide hC
  clear hV hn hm hC
  go_enter Try.func49, Try.ntmps49
  go_wp2_with fail
  rw [← HV.out]
  refine (ncmp_any x.ser s x.sa so n m x.sc c' V (hx.below bel) (hs.below bel) HN.out HM.out hc).mono ?_
  rintro e w1 ⟨rfl, b1⟩
  rw [← HC.out]
  go_wp2
  go_ret
  exact ⟨rfl, bel.trans (b1.mono bel.size)⟩

set_option maxHeartbeats 4000000 in
set_option maxRecDepth 100000 in
theorem mbsc_any (l : List CT) (s : Lb) (co so : Option Addr) (n c m c' p : Nat) (F : Bool) (w : World) (hl : CsIn w co l) (hs : Seg w so (lcells s)) (hn : n = l.length) (hm : m = s.length) (hn4 : n ≤ 1000000) (hb8 : ∀ x ∈ l, x.ser.length ≤ 9223372036854775807) (hp : p ≤ n) (hbd : ∀ k, k < n → (cmpS (ct l k).ser s < 0 ↔ k < p)) (hF : F = (decide (p < n) && decide (cmpS (ct l p).ser s = 0))) :
    Calls Try.prog 48 #[.slice co n c, .slice so m c', .func (.func 49) #[] #[]] w fun e w' => e = .returned (.tuple #[.int .i64 p, .bool F]) ∧ Below w.heap.size w w' := by
  have HN := hide hn
  have HM := hide hm
  have HB := hide hbd
  have HF := hide hF
  have H8 := hide hb8
  clear hn hm hbd hF hb8
  go_enter Try.func48, Try.ntmps48
  go_wp2
  go_loopw [9, 10] (fun s9 s10 wr => ∃ lo hi : Nat, s9 = .int .i64 lo ∧ s10 = .int .i64 hi ∧ lo ≤ p ∧ p ≤ hi ∧ hi ≤ n ∧ Below w.heap.size w wr) (fun s9 s10 _ => (intOf s10).toNat - (intOf s9).toNat)
  case atStart => exact ⟨0, n, rfl, rfl, Nat.zero_le _, hp, Nat.le_refl _, Below.refl _ _⟩
  case round =>
    obtain ⟨lo, hi, rfl, rfl, hlo, hhi, hin, bel⟩ := hrel
    have hsz := bel.size
    by_cases hlt : lo < hi
    · have hkl : (lo + hi) / 2 < l.length := by rw [← HN.out]; omega
      obtain ⟨b, off, rfl, hb, hcell⟩ := seg_cell hl.seg hkl
      obtain ⟨x, hx⟩ : ∃ x, x = ct l ((lo + hi) / 2) := ⟨_, rfl⟩
      obtain ⟨xn, hxn⟩ : ∃ xn, xn = x.ser.length := ⟨_, rfl⟩
      have c0 : wr.cell? ⟨b, off + (lo + hi) / 2 * 2, none⟩ = some (.slice x.sa xn x.sc) := by rw [hxn, hx]; exact (bel.cell (by exact hb)).trans (hcell _ hkl).1
      have c1 : wr.cell? ⟨b, off + (lo + hi) / 2 * 2 + 1, none⟩ = some (.int .i64 x.v) := by rw [hx]; exact (bel.cell (by exact hb)).trans (hcell _ hkl).2
      have sx : Seg w x.sa (lcells x.ser) := by rw [hx]; exact hl.ser _ (ct_mem hkl)
      have x8 : xn ≤ 9223372036854775807 := by rw [hxn, hx]; exact H8.out _ (ct_mem hkl)
      have HX := hide hx
      have HXN := hide hxn
      clear hcell hx hxn hkl
      go_wp2_with fail
      refine (mallof1_any x s xn m c' so wr (sx.below bel) (hs.below bel) HXN.out HM.out x8).mono ?_
      rintro e w1 ⟨rfl, b1⟩
      have bel1 : Below w.heap.size w w1 := bel.trans (b1.mono hsz)
      have hkey := HB.out ((lo + hi) / 2) (by omega)
      rw [← HX.out] at hkey
      generalize cmpS x.ser s = C at hkey ⊢
      clear c0 c1 b1 bel HX
      by_cases hc : C < 0
      · have hp2 := hkey.1 hc
        clear hkey
        go_wp2
        go_roundw
        case rel => exact ⟨(lo + hi) / 2 + 1, hi, by rw [show ((lo : Int) + (hi : Int)) / 2 + 1 = (((lo + hi) / 2 + 1 : Nat) : Int) by omega], rfl, by omega, hhi, hin, bel1⟩
        case measure => simp [intOf]; omega
      · have hp2 : ¬ (lo + hi) / 2 < p := fun h => hc (hkey.2 h)
        clear hkey
        go_wp2
        go_roundw
        case rel => exact ⟨lo, (lo + hi) / 2, rfl, by rw [show ((lo : Int) + (hi : Int)) / 2 = (((lo + hi) / 2 : Nat) : Int) by omega], hlo, by omega, by omega, bel1⟩
        case measure => simp [intOf]; omega
    · have e1 : lo = p := by omega
      have e2 : hi = p := by omega
      subst e1
      subst e2
      by_cases hpn : hi < n
      · have hkl : hi < l.length := by rw [← HN.out]; omega
        obtain ⟨b, off, rfl, hb, hcell⟩ := seg_cell hl.seg hkl
        obtain ⟨x, hx⟩ : ∃ x, x = ct l hi := ⟨_, rfl⟩
        obtain ⟨xn, hxn⟩ : ∃ xn, xn = x.ser.length := ⟨_, rfl⟩
        have c0 : wr.cell? ⟨b, off + hi * 2, none⟩ = some (.slice x.sa xn x.sc) := by rw [hxn, hx]; exact (bel.cell (by exact hb)).trans (hcell _ hkl).1
        have c1 : wr.cell? ⟨b, off + hi * 2 + 1, none⟩ = some (.int .i64 x.v) := by rw [hx]; exact (bel.cell (by exact hb)).trans (hcell _ hkl).2
        have sx : Seg w x.sa (lcells x.ser) := by rw [hx]; exact hl.ser _ (ct_mem hkl)
        have x8 : xn ≤ 9223372036854775807 := by rw [hxn, hx]; exact H8.out _ (ct_mem hkl)
        have HX := hide hx
        have HXN := hide hxn
        clear hcell hx hxn hkl
        go_wp2_with fail
        refine (mallof1_any x s xn m c' so wr (sx.below bel) (hs.below bel) HXN.out HM.out x8).mono ?_
        rintro e w1 ⟨rfl, b1⟩
        have bel1 : Below w.heap.size w w1 := bel.trans (b1.mono hsz)
        have HF2 : Hid (F = decide (cmpS x.ser s = 0)) := by show _ = _; rw [HF.out, HX.out]; simp [hpn]
        generalize cmpS x.ser s = C at HF2 ⊢
        clear c0 c1 b1 bel HX HF
        by_cases hc : C = 0
        · have HF3 : Hid (F = true) := by show _ = _; rw [HF2.out]; simpa using hc
          subst hc
          go_wp2
          go_ret2
          exact ⟨by rw [HF3.out]; rfl, bel1⟩
        · have HF3 : Hid (F = false) := by show _ = _; rw [HF2.out]; simpa using hc
          have hd : (C == 0) = false := by simpa using hc
          clear hc
          go_wp2
          go_ret2
          exact ⟨by rw [HF3.out]; rfl, bel1⟩
      · have HF3 : Hid (F = false) := by show _ = _; rw [HF.out]; simp [hpn]
        clear HF
        go_wp2
        go_ret2
        exact ⟨by rw [HF3.out]; rfl, bel⟩

set_option maxHeartbeats 1000000 in
theorem nonly_own (l : List (ByteArray × ByteArray)) (ks : List ByteArray) (ao bo : Option Addr) (n cap m c : Nat) (w : World) (hs : Seg w ao (lcells l)) (hn : n = l.length) (hL : n * 32 ≤ 140737488351232) (hb : Seg w bo (wcells ks)) (hm : m = ks.length) (hM : m ≤ 9223372036854775807) :
    Calls Try.prog 47 #[.slice ao n cap, .slice bo m c] w fun e w' => ∃ co N d, e = .returned (.slice co N d) ∧ w'.ownsRow w.heap.size 40 2 (.slice co N d) N (lcells (only l ks)) ∧ N = (only l ks).length ∧ Below w.heap.size w w' := by
  obtain ⟨V, hV⟩ : ∃ V, V = w.alloc (.cells #[.slice bo m c] 24) := ⟨_, rfl⟩
  have bel : Below w.heap.size w V := by rw [hV]; exact (Below.refl _ _).alloc (Nat.le_refl _) _
  have cB : V.cell? ⟨w.heap.size, 0, none⟩ = some (.slice bo m c) := by rw [hV]; simp
  have hsz := bel.size
  have HV := hide hV
  have HN := hide hn
  have HM := hide hm
  clear hV hn hm
  have haV := hs.below bel
  have hbV := hb.below bel
  go_enter Try.func47, Try.ntmps47
  go_wp2_with fail
  rw [← HV.out]
  refine (nkept_any l ks w.heap.size ao bo n cap m c V haV HN.out hL hbV cB HM.out hM).mono ?_
  rintro e w1 ⟨co, N, d, rfl, own, hb1⟩
  have bel1 : Below w.heap.size w w1 := bel.trans (hb1.mono hsz)
  have own1 := own.mono hsz
  have HL := hide (own_llen own)
  clear hb1 own
  go_wp2
  go_ret
  exact ⟨co, N, d, rfl, own1, HL.out, bel1⟩

end Go.Proofs.Ythohkokhimdamaa
