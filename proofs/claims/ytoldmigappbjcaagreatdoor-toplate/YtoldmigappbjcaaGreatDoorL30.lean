import Derived.Deep.RegionHeld3
import Derived.Laws.Small
import Derived.Lib.Bytealg
import Derived.Test.YtoldmigappbjcaaGreatDoorL06
import Derived.Test.YtoldmigappbjcaaGreatDoorL19
import Derived.Test.YtoldmigappbjcaaGreatDoorL29
namespace Go.GrainU
open Go.RowKit
theorem cmpB : ∀ x y : List UInt8, Lib.compareBytes x y = if Op.bytesLess x y = true then -1 else if x = y then 0 else 1
 | [], [] => rfl
 | [], _ :: _ => by simp [Lib.compareBytes, Op.bytesLess]
 | _ :: _, [] => by simp [Lib.compareBytes, Op.bytesLess]
 | a :: x, b :: y => by
  have ih := cmpB x y
  unfold Lib.compareBytes Op.bytesLess
  rw [ih]
  by_cases h1 : a < b
  ·simp [h1]
  ·by_cases h2 : b < a
   ·have : a ≠ b := by intro e; subst e; exact h1 h2
    simp [h1, h2, this]
   ·have : a = b := UInt8.le_antisymm (UInt8.not_lt.1 h2) (UInt8.not_lt.1 h1)
    subst this
    simp [h1]
theorem cmpB_W (x y : ByteArray) : Lib.compareBytes x.data.toList y.data.toList = cmpW x y := by
 rw [cmpB]
 unfold cmpW
 rw [← ByteArray.toList_eq, ← ByteArray.toList_eq]
 by_cases h : x = y
 ·subst h; simp
 ·have : x.toList ≠ y.toList := fun e => h (toList_inj e)
  simp [h, this]
def cmpP (x y x' y' : ByteArray) : Int := if x = x' then cmpW y y' else cmpW x x'
theorem cmpP_step (x y x' y' : ByteArray) (r : Int) : (if cmpW x x' ≠ 0 then cmpW x x' else if cmpW y y' ≠ 0 then cmpW y y' else r) = if cmpP x y x' y' = 0 then r else cmpP x y x' y' := by
 unfold cmpP
 by_cases h : x = x'
 ·subst h
  rw [cmpW_self]
  by_cases h2 : cmpW y y' = 0 <;> simp [h2]
 ·have : cmpW x x' ≠ 0 := by
   rcases cmpW_cases x x' with ⟨e, _⟩ | ⟨_, e⟩ | ⟨e, _⟩
   ·rw [e]; decide
   ·exact absurd e h
   ·rw [e]; decide
  simp [h, this]
end Go.GrainU
namespace Go.Proofs.YtoldmigappbjcaaGreatDoor
open Go.RowKit Go.GrainU
set_option maxRecDepth 100000 in
theorem cmpstr_any (a b : ByteArray) (w : World) :
  Calls Tryz.prog 82 #[.string a, .string b] w fun e w' => e = .returned (.int .i64 (cmpW a b)) ∧ w' = w := by
 rw [← cmpB_W]
 go_enter Tryz.func82, Tryz.ntmps82
 go_wp2
 rw [run_callFunc_extern Tryz.func120 (by kernel_rfl) (by kernel_rfl) (by kernel_rfl) (e := Extern.BytealgCompare.compare) (by kernel_rfl), Lib.run_compareString]
 simp only [Result.andThen]
 rw [Oper.upon_value]
 go_wp2
 go_ret
 exact ⟨rfl, rfl⟩
theorem scmp_any (a b : ByteArray) (w : World) :
  Calls Tryz.prog 51 #[.string a, .string b] w fun e w' => e = .returned (.int .i64 (cmpW a b)) ∧ w' = w := by
 go_enter Tryz.func51, Tryz.ntmps51
 go_wp2_with fail
 refine (cmpstr_any _ _ _).mono ?_
 intro e w1 hh
 rw [hh.1, hh.2]
 clear hh
 go_wp2
 go_ret
 exact ⟨rfl, rfl⟩
set_option maxHeartbeats 1000000 in
theorem ncmp1_any (x y x' y' : ByteArray) (w : World) :
  Calls Tryz.prog 50 #[.agg #[.string x, .string y], .agg #[.string x', .string y']] w fun e w' => e = .returned (.int .i64 (cmpP x y x' y')) ∧ Below w.heap.size w w' := by
 have bel : Below w.heap.size w ((w.alloc (.cells #[.string x, .string y] 88)).alloc (.cells #[.string x', .string y'] 88)) := ((Below.refl _ _).alloc (Nat.le_refl _) _).alloc (by simp) _
 by_cases h : x = x'
 ·have hp : Hid (cmpP x y x' y' = cmpW y y') := by show _ = _; simp [cmpP, h]
  subst h
  obtain ⟨v1, v2⟩ := word_self x
  go_enter Tryz.func50, Tryz.ntmps50
  go_wp2_with fail
  refine (scmp_any _ _ _).mono ?_
  intro e w1 hh
  rw [hh.1, hh.2]
  clear hh
  go_wp2
  go_ret
  exact ⟨ret_int hp.out.symm, bel⟩
 ·have hp : Hid (cmpP x y x' y' = cmpW x x') := by show _ = _; simp [cmpP, h]
  obtain ⟨v1, v2⟩ := word_ne h
  clear h
  go_enter Tryz.func50, Tryz.ntmps50
  go_wp2_with fail
  refine (scmp_any _ _ _).mono ?_
  intro e w1 hh
  rw [hh.1, hh.2]
  clear hh
  go_wp2
  go_ret
  exact ⟨ret_int hp.out.symm, bel⟩
set_option maxHeartbeats 2000000 in
theorem ncmpf_any (a b : List (ByteArray × ByteArray)) (ao bo : Option Addr) (n m c c' : Nat) (w : World) (ha : Seg w ao (lcells a)) (hb : Seg w bo (lcells b)) (hn : n = a.length) (hm : m = b.length) (hc : n ≤ 9223372036854775807) :
  Calls Tryz.prog 49 #[.slice ao n c, .slice bo m c', .func (.func 50) #[] #[]] w fun e w' => e = .returned (.int .i64 (cmpS a b)) ∧ Below w.heap.size w w' := by
 have hS : cmpS a b = cmpF a b n 0 := by rw [hn]; rfl
 rw [hS]
 clear hS
 have HN := hide hn
 have HM := hide hm
 clear hn hm
 go_enter Tryz.func49, Tryz.ntmps49
 go_wp2
 go_loopw [13] (fun i wr => ∃ k : Nat, k ≤ n ∧ i = .int .i64 k ∧ Hid (cmpF a b n 0 = cmpF a b (n - k) k) ∧ Below w.heap.size w wr) (fun i _ => n - (intOf i).toNat)
 case atStart => exact ⟨0, Nat.zero_le _, rfl, rfl, Below.refl _ _⟩
 case round =>
  obtain ⟨k, hk, rfl, HW, bel⟩ := hrel
  have hsz := bel.size
  by_cases hlt : k < n
  ·have hka : k < a.length := by rw [← HN.out]; exact hlt
   obtain ⟨p, off, rfl, hbl, hcell⟩ := seg_label ha hka
   obtain ⟨x, hx⟩ : ∃ x, x = lk a k := ⟨_, rfl⟩
   obtain ⟨y, hy⟩ : ∃ y, y = lv a k := ⟨_, rfl⟩
   have c0 : wr.cell? ⟨p, off + k * 2, none⟩ = some (.string x) := by rw [hx]; exact (bel.cell (by exact hbl)).trans (hcell k hka).1
   have c1 : wr.cell? ⟨p, off + k * 2 + 1, none⟩ = some (.string y) := by rw [hy]; exact (bel.cell (by exact hbl)).trans (hcell k hka).2
   have HS : Hid (cmpF a b n 0 = if m ≤ k then 1 else if cmpP x y (lk b k) (lv b k) = 0 then cmpF a b (n - (k + 1)) (k + 1) else cmpP x y (lk b k) (lv b k)) := by
    show _ = _
    rw [HW.out, show n - k = (n - (k + 1)) + 1 from by omega, cmpF, HM.out, cmpP_step, hx, hy]
   by_cases hkm : k < m
   ·have hkb : k < b.length := by rw [← HM.out]; exact hkm
    obtain ⟨p', off', rfl, hbl', hcell'⟩ := seg_label hb hkb
    obtain ⟨x', hx'⟩ : ∃ x, x = lk b k := ⟨_, rfl⟩
    obtain ⟨y', hy'⟩ : ∃ y, y = lv b k := ⟨_, rfl⟩
    have d0 : wr.cell? ⟨p', off' + k * 2, none⟩ = some (.string x') := by rw [hx']; exact (bel.cell (by exact hbl')).trans (hcell' k hkb).1
    have d1 : wr.cell? ⟨p', off' + k * 2 + 1, none⟩ = some (.string y') := by rw [hy']; exact (bel.cell (by exact hbl')).trans (hcell' k hkb).2
    obtain ⟨C, hC⟩ : ∃ C, C = cmpP x y x' y' := ⟨_, rfl⟩
    have HS' : Hid (cmpF a b n 0 = if C = 0 then cmpF a b (n - (k + 1)) (k + 1) else C) := by
     show _ = _
     rw [HS.out, if_neg (by omega), ← hx', ← hy', hC]
    have HC := hide hC
    clear hx hy hx' hy' hcell hcell' hka hkb HS HW hC
    have hbp : p < wr.heap.size := World.block_lt_of_cell? wr _ c0
    have hbp' : p' < wr.heap.size := World.block_lt_of_cell? wr _ d0
    have kk : ¬ ((m : Int) ≤ (k : Int)) := by omega
    have bel2 : Below w.heap.size w ((wr.alloc (.cells #[.string x, .string y] 88)).alloc (.cells #[.string x', .string y'] 88)) := (bel.alloc hsz _).alloc (by simp; omega) _
    go_wp2_with fail
    refine (ncmp1_any x y x' y' _).mono ?_
    rintro e w1 ⟨rfl, hb1⟩
    rw [← HC.out]
    have bel1 : Below w.heap.size w w1 := bel2.trans (hb1.mono (by simp; omega))
    clear hb1 bel2 bel c0 c1 d0 d1 HC
    by_cases hc0 : C = 0
    ·have hw : Hid (cmpF a b n 0 = cmpF a b (n - (k + 1)) (k + 1)) := by
      show _ = _
      rw [HS'.out, if_pos hc0]
     subst hc0
     clear HS'
     go_wp2
     go_roundw
     case rel => exact ⟨k + 1, by omega, by go_num, hw, bel1⟩
     case measure => simp [intOf]; omega
    ·have hw : Hid (cmpF a b n 0 = C) := by
      show _ = _
      rw [HS'.out, if_neg hc0]
     have hd : (C != 0) = true := by simpa using hc0
     clear HS' hc0
     go_wp2
     go_ret
     exact ⟨ret_int hw.out.symm, bel1⟩
   ·have hw : Hid (cmpF a b n 0 = 1) := by
     show _ = _
     rw [HS.out, if_pos (by omega)]
    have kk : (m : Int) ≤ (k : Int) := by omega
    clear HS HW hka hx hy hcell
    go_wp2
    go_ret
    exact ⟨ret_int hw.out.symm, bel.alloc hsz _⟩
  ·have he : k = n := by omega
   subst he
   by_cases hl : k < m
   ·have hw : Hid (cmpF a b k 0 = -1) := by
     show _ = _
     rw [HW.out, Nat.sub_self, cmpF, if_pos (by rw [← HN.out, ← HM.out]; exact hl)]
    have hd : decide ((k : Int) < (m : Int)) = true := by simpa using hl
    clear HW
    go_wp2
    go_ret
    exact ⟨ret_int hw.out.symm, bel⟩
   ·have hw : Hid (cmpF a b k 0 = 0) := by
     show _ = _
     rw [HW.out, Nat.sub_self, cmpF, if_neg (by rw [← HN.out, ← HM.out]; exact hl)]
    have hd : decide ((k : Int) < (m : Int)) = false := by simp; omega
    clear HW
    go_wp2
    go_ret
    exact ⟨ret_int hw.out.symm, bel⟩
theorem ncmp_any (a b : List (ByteArray × ByteArray)) (ao bo : Option Addr) (n m c c' : Nat) (w : World) (ha : Seg w ao (lcells a)) (hb : Seg w bo (lcells b)) (hn : n = a.length) (hm : m = b.length) (hc : n ≤ 9223372036854775807) :
  Calls Tryz.prog 20 #[.slice ao n c, .slice bo m c'] w fun e w' => e = .returned (.int .i64 (cmpS a b)) ∧ Below w.heap.size w w' := by
 obtain ⟨N, hN⟩ : ∃ N, N = cmpS a b := ⟨_, rfl⟩
 have HR := hide hN
 rw [← hN]
 clear hN
 have HN := hide hn
 have HM := hide hm
 clear hn hm
 go_enter Tryz.func20, Tryz.ntmps20
 go_wp2_with fail
 refine (ncmpf_any a b ao bo n m c c' w ha hb HN.out HM.out hc).mono ?_
 rintro e w1 ⟨rfl, hb1⟩
 rw [← HR.out]
 go_wp2
 go_ret
 exact ⟨rfl, hb1⟩
end Go.Proofs.YtoldmigappbjcaaGreatDoor
namespace Go.GrainU
open Go.RowKit
theorem below_step {W w1 w2 : World} (h2 : Below w1.heap.size w1 w2) (h1 : Below W.heap.size W w1) : Below W.heap.size W w2 := h1.trans (h2.mono h1.size)
end Go.GrainU
namespace Go.Proofs.YtoldmigappbjcaaGreatDoor
open Go.RowKit Go.GrainU
end Go.Proofs.YtoldmigappbjcaaGreatDoor
namespace Go.GrainU
open Go.RowKit
theorem list_ne2 {x : ByteArray} {l : List UInt8} (h : ¬ x = lit l) : (x.toList == l) = false := by
 have := (word_ne h).2
 rw [show (lit l).toList = l from ByteArray.toList_mk l] at this
 exact this
def ov (o : Option Int) : Int := match o with | some v => v | none => 0
def oe (o : Option Int) : Int := match o with | some _ => 0 | none => 3
def bnd (v : Int) : Option Int := if big v = true then none else some v
theorem wkd_plus (a b : Int) : wkd (lit [43]) a b = bnd (a + b) := by simp [wkd, bnd]
theorem lit_43_45 : ¬ lit [45] = lit [43] := by decide
theorem wkd_minus (a b : Int) : wkd (lit [45]) a b = bnd (a - b) := by simp [wkd, bnd, lit_43_45]
theorem big_false {v : Int} (h : big v = false) : -MC ≤ v ∧ v ≤ MC := by
 unfold big at h
 have := of_decide_eq_false h
 omega
theorem wkd_times {s : ByteArray} {a b : Int} (h1 : ¬ s = lit [43]) (h2 : ¬ s = lit [45]) : wkd s a b = if a ≠ 0 ∧ MC / (max a (-a)) < max b (-b) then none else some (a * b) := by
 simp [wkd, h1, h2]
theorem mul_bd {a b : Int} (h : ¬ (a ≠ 0 ∧ MC / (max a (-a)) < max b (-b))) (hb : -MC ≤ b ∧ b ≤ MC) : -MC ≤ a * b ∧ a * b ≤ MC := by
 by_cases h0 : a = 0
 ·subst h0; simp [MC]
 ·have h1 : max b (-b) ≤ MC / (max a (-a)) := by
   rcases Int.lt_or_le (MC / (max a (-a))) (max b (-b)) with h2 | h2
   ·exact absurd ⟨h0, h2⟩ h
   ·exact h2
  have hp : 0 < max a (-a) := by omega
  have h3 : max b (-b) * max a (-a) ≤ MC := (Int.le_ediv_iff_mul_le hp).1 h1
  have h4 : (max b (-b)) * (max a (-a)) = max (a * b) (-(a * b)) := by
   rcases Int.le_total 0 a with ha | ha <;> rcases Int.le_total 0 b with hb' | hb'
   ·have := Int.mul_nonneg ha hb'
    rw [show max a (-a) = a by omega, show max b (-b) = b by omega, Int.mul_comm b a]; omega
   ·have := Int.mul_nonneg ha (show 0 ≤ -b by omega)
    rw [Int.mul_neg] at this
    rw [show max a (-a) = a by omega, show max b (-b) = -b by omega, Int.neg_mul, Int.mul_comm b a]; omega
   ·have := Int.mul_nonneg (show 0 ≤ -a by omega) hb'
    rw [Int.neg_mul] at this
    rw [show max a (-a) = -a by omega, show max b (-b) = b by omega, Int.mul_neg, Int.mul_comm b a]; omega
   ·have := Int.mul_nonneg (show 0 ≤ -a by omega) (show 0 ≤ -b by omega)
    rw [Int.neg_mul_neg] at this
    rw [show max a (-a) = -a by omega, show max b (-b) = -b by omega, Int.neg_mul_neg, Int.mul_comm b a]; omega
  omega
theorem bnd_bd {v x : Int} (h : bnd v = some x) : -MC ≤ x ∧ x ≤ MC := by
 unfold bnd at h
 cases hb : big v
 ·rw [hb] at h; simp at h; rw [← h]; exact big_false hb
 ·rw [hb] at h; simp at h
theorem wkd_bd {s : ByteArray} {a b v : Int} (hb : -MC ≤ b ∧ b ≤ MC) (h : wkd s a b = some v) : -MC ≤ v ∧ v ≤ MC := by
 by_cases h1 : s = lit [43]
 ·rw [h1, wkd_plus] at h; exact bnd_bd h
 by_cases h2 : s = lit [45]
 ·rw [h2, wkd_minus] at h; exact bnd_bd h
 rw [wkd_times h1 h2] at h
 split at h
 ·cases h
 ·simp at h; rw [← h]; exact mul_bd (by assumption) hb
end Go.GrainU
namespace Go.Proofs.YtoldmigappbjcaaGreatDoor
open Go.RowKit Go.GrainU
set_option maxHeartbeats 1000000 in
theorem mbounded_any (v : Int) (w : World) :
  Calls Tryz.prog 155 #[.int .i64 v] w fun e w' => e = .returned (.tuple #[.int .i64 (ov (bnd v)), .int .i64 (oe (bnd v))]) ∧ w' = w := by
 cases hb : big v
 ·have e : bnd v = some v := by simp [bnd, hb]
  have := big_false hb
  rw [e]
  simp only [ov, oe]
  have h1 : decide (1125899906842624 < v) = false := by simp; unfold MC at this; omega
  have h2 : decide (v < -1125899906842624) = false := by simp; unfold MC at this; omega
  clear this
  go_enter Tryz.func155, Tryz.ntmps155
  go_wp2
  go_ret2
  exact ⟨rfl, rfl⟩
 ·have e : bnd v = none := by simp [bnd, hb]
  have := of_decide_eq_true hb
  unfold MC at this
  rw [e]
  simp only [ov, oe]
  clear hb e
  by_cases hc : 1125899906842624 < v
  ·clear this
   go_enter Tryz.func155, Tryz.ntmps155
   go_wp2
   go_ret2
   exact ⟨rfl, rfl⟩
  ·have h2 : v < -1125899906842624 := by omega
   clear this
   go_enter Tryz.func155, Tryz.ntmps155
   go_wp2
   go_ret2
   exact ⟨rfl, rfl⟩
set_option maxHeartbeats 1000000 in
theorem mtogether_any (x : ByteArray) (a b : Int) (w : World) (ha : -MC ≤ a ∧ a ≤ MC) (hb : -MC ≤ b ∧ b ≤ MC) :
  Calls Tryz.prog 156 #[.string x, .int .i64 a, .int .i64 b] w fun e w' => e = .returned (.int .i64 (tog x a b)) ∧ w' = w := by
 unfold MC at ha hb
 by_cases h1 : x = lit [109, 97, 120]
 ·have e : tog x a b = max a b := by simp [tog, h1]
  obtain ⟨R, hR⟩ : ∃ R, R = max a b := ⟨_, rfl⟩
  rw [e, ← hR, h1]
  have HR := hide hR
  clear e hR h1
  show Calls Tryz.prog 156 #[.string ⟨#[109, 97, 120]⟩, .int .i64 a, .int .i64 b] w _
  go_enter Tryz.func156, Tryz.ntmps156
  go_wp2
  all_goals
   go_ret
   exact ⟨ret_int (by rw [HR.out]; omega), rfl⟩
 ·by_cases h2 : x = lit [109, 105, 110]
  ·have e : tog x a b = min a b := by rw [tog, if_neg h1, if_pos h2]
   obtain ⟨R, hR⟩ : ∃ R, R = min a b := ⟨_, rfl⟩
   rw [e, ← hR, h2]
   have HR := hide hR
   clear e hR h1 h2
   show Calls Tryz.prog 156 #[.string ⟨#[109, 105, 110]⟩, .int .i64 a, .int .i64 b] w _
   go_enter Tryz.func156, Tryz.ntmps156
   go_wp2
   all_goals
    go_ret
    exact ⟨ret_int (by rw [HR.out]; omega), rfl⟩
  ·have e : tog x a b = a + b := by rw [tog, if_neg h1, if_neg h2]
   have q1 := list_ne2 h1
   have q2 := list_ne2 h2
   have hw : IntKind.i64.wrap (a + b) = a + b := by rw [IntKind.wrap_i64]; omega
   rw [e]
   clear e h1 h2 ha hb
   go_enter Tryz.func156, Tryz.ntmps156
   go_wp2
   go_ret
   exact ⟨rfl, rfl⟩
set_option maxHeartbeats 1000000 in
theorem mworked_any (x : ByteArray) (a b : Int) (w : World) (ha : -MC ≤ a ∧ a ≤ MC) (hb : -MC ≤ b ∧ b ≤ MC) :
  Calls Tryz.prog 158 #[.string x, .int .i64 a, .int .i64 b] w fun e w' => e = .returned (.tuple #[.int .i64 (ov (wkd x a b)), .int .i64 (oe (wkd x a b))]) ∧ w' = w := by
 by_cases h1 : x = lit [43]
 ·rw [h1, wkd_plus]
  unfold MC at ha hb
  have hw : IntKind.i64.wrap (a + b) = a + b := by rw [IntKind.wrap_i64]; omega
  obtain ⟨V, hV⟩ : ∃ V, V = ov (bnd (a + b)) := ⟨_, rfl⟩
  obtain ⟨E, hE⟩ : ∃ E, E = oe (bnd (a + b)) := ⟨_, rfl⟩
  rw [← hV, ← hE]
  have HV := hide hV
  have HE := hide hE
  clear hV hE h1 ha hb
  show Calls Tryz.prog 158 #[.string ⟨#[43]⟩, .int .i64 a, .int .i64 b] w _
  go_enter Tryz.func158, Tryz.ntmps158
  go_wp2_with fail
  refine (mbounded_any _ w).mono ?_
  intro e w1 hh
  rw [hh.1, hh.2, ← HV.out, ← HE.out]
  clear hh
  go_wp2
  go_ret2
  exact ⟨rfl, rfl⟩
 by_cases h2 : x = lit [45]
 ·rw [h2, wkd_minus]
  unfold MC at ha hb
  have hw : IntKind.i64.wrap (a - b) = a - b := by rw [IntKind.wrap_i64]; omega
  obtain ⟨V, hV⟩ : ∃ V, V = ov (bnd (a - b)) := ⟨_, rfl⟩
  obtain ⟨E, hE⟩ : ∃ E, E = oe (bnd (a - b)) := ⟨_, rfl⟩
  rw [← hV, ← hE]
  have HV := hide hV
  have HE := hide hE
  clear hV hE h1 h2 ha hb
  show Calls Tryz.prog 158 #[.string ⟨#[45]⟩, .int .i64 a, .int .i64 b] w _
  go_enter Tryz.func158, Tryz.ntmps158
  go_wp2_with fail
  refine (mbounded_any _ w).mono ?_
  intro e w1 hh
  rw [hh.1, hh.2, ← HV.out, ← HE.out]
  clear hh
  go_wp2
  go_ret2
  exact ⟨rfl, rfl⟩
 ·rw [wkd_times h1 h2]
  have q1 := list_ne2 h1
  have q2 := list_ne2 h2
  clear h1 h2
  obtain ⟨R, hR⟩ : ∃ R, R = (if a ≠ 0 ∧ MC / (max a (-a)) < max b (-b) then none else some (a * b)) := ⟨_, rfl⟩
  rw [← hR]
  have mb : Hid (¬ (a ≠ 0 ∧ MC / (max a (-a)) < max b (-b)) → IntKind.i64.wrap (a * b) = a * b) := fun h => by
   have := mul_bd h hb
   unfold MC at this
   rw [IntKind.wrap_i64]; omega
  have HR := hide hR
  clear hR
  unfold MC at ha hb HR mb
  have n1 : IntKind.i64.wrap (-a) = -a := by rw [IntKind.wrap_i64]; omega
  have n2 : IntKind.i64.wrap (-b) = -b := by rw [IntKind.wrap_i64]; omega
  by_cases h0 : a = 0
  ·subst h0
   have HR2 : Hid (R = some 0) := by show _ = _; rw [HR.out]; simp
   clear HR mb n1 n2 ha hb
   go_enter Tryz.func158, Tryz.ntmps158
   go_wp2
   go_ret2
   exact ⟨by rw [HR2.out]; rfl, rfl⟩
  ·have g0 : (a != 0) = true := by simpa using h0
   have g1 : (a == 0) = false := by simpa using h0
   have g2 : (-a == 0) = false := by simp; omega
   obtain ⟨A, hA⟩ : ∃ A, A = max a (-a) := ⟨_, rfl⟩
   obtain ⟨B, hB⟩ : ∃ B, B = max b (-b) := ⟨_, rfl⟩
   obtain ⟨Q, hQ⟩ : ∃ Q, Q = 1125899906842624 / A := ⟨_, rfl⟩
   have e1 : (if a < -a then -a else a) = A := by rw [hA]; split <;> omega
   have e2 : (if b < -b then -b else b) = B := by rw [hB]; split <;> omega
   have hA0 : 0 < A := by omega
   have hAz : ¬ (A = 0) := by omega
   have hQ0 : 0 ≤ Q ∧ Q ≤ 1125899906842624 := by
    rw [hQ]
    exact ⟨Int.ediv_nonneg (by omega) (by omega), Int.ediv_le_self _ (by omega)⟩
   have e3 : IntKind.i64.wrap (1125899906842624 / A) = Q := by rw [← hQ, IntKind.wrap_i64]; omega
   have e4 : IntKind.i64.wrap (Int.tdiv 1125899906842624 A) = Q := by rw [Int.tdiv_eq_ediv_of_nonneg (by omega)]; exact e3
   have e7 : IntKind.i64.wrap Q = Q := by rw [IntKind.wrap_i64]; omega
   have e5 : (1125899906842624 : Int) / A = Q := hQ.symm
   have e6 : Int.tdiv 1125899906842624 A = Q := by rw [Int.tdiv_eq_ediv_of_nonneg (by omega)]; exact e5
   rw [← hA, ← hB, ← hQ] at HR mb
   have HQ0 := hide hQ0
   clear hA hB hQ hA0 hQ0 ha hb
   by_cases hc : Q < B
   ·have HR2 : Hid (R = none) := by show _ = _; rw [HR.out, if_pos ⟨h0, hc⟩]
    clear mb HR h0
    go_enter Tryz.func158, Tryz.ntmps158
    go_wp2
    go_ret2
    exact ⟨by rw [HR2.out]; rfl, rfl⟩
   ·have HR2 : Hid (R = some (a * b)) := by show _ = _; rw [HR.out, if_neg (fun h => hc h.2)]
    have hm := mb.out (fun h => hc h.2)
    clear mb HR h0
    go_enter Tryz.func158, Tryz.ntmps158
    go_wp2
    go_ret2
    exact ⟨by rw [HR2.out]; rfl, rfl⟩
set_option maxRecDepth 100000 in
set_option maxHeartbeats 1000000 in
theorem mcheck_any (t : ET) (time : Int) (w : World) (hin : t.In w) :
  Calls Tryz.prog 66 #[eval t, .int .i64 time] w fun e w' => e = .returned (.int .i64 (chk t.ex time)) ∧ Below w.heap.size w w' := by
 have P3 := hide (pwrong_any t)
 have P7 := hide (ptyped_any t)
 obtain ⟨R, hR⟩ : ∃ R, R = chk t.ex time := ⟨_, rfl⟩
 have HR0 : Hid (R = if (wr t.ex 1 0).1 = 0 then (if typ t.ex = 0 then (if time < 0 ∨ 1000000 < time then 3 else 0) else typ t.ex) else (wr t.ex 1 0).1) := hR
 rw [← hR]
 clear hR
 generalize (wr t.ex 1 0).1 = E at P3 HR0
 generalize typ t.ex = U at P7 HR0
 unfold eval at P3 P7 ⊢
 generalize t.hd.ms.length = ml at *
 generalize t.hd.bs.length = bl at *
 generalize t.kids.length = kl at *
 obtain ⟨W, hW⟩ : ∃ W, W = w.alloc (.cells #[.int .i64 t.hd.kind, .int .i64 t.hd.n, .int .i64 t.hd.range, .string t.hd.word, .slice t.sp.ma ml t.sp.mc, .slice t.sp.ba bl t.sp.bc, .slice t.sp.ka kl t.sp.kc] 41) := ⟨_, rfl⟩
 have bel0 : Below w.heap.size w W := by rw [hW]; exact (Below.refl _ _).alloc (Nat.le_refl _) _
 have F0 : W.heap[w.heap.size]? = some (.cells #[.int .i64 t.hd.kind, .int .i64 t.hd.n, .int .i64 t.hd.range, .string t.hd.word, .slice t.sp.ma ml t.sp.mc, .slice t.sp.ba bl t.sp.bc, .slice t.sp.ka kl t.sp.kc] 41 (0, 0)) := by rw [hW]; exact heap_alloc_new w _
 have HIN := hide (ET.In.below bel0 t hin)
 have HW := hide hW
 clear hW hin
 go_enter Tryz.func66, Tryz.ntmps66
 go_wp2_with fail
 rw [← HW.out]
 refine (P3.out W HIN.out).mono ?_
 rintro e w1 ⟨rfl, b1⟩
 by_cases h0 : E = 0
 ·have HR1 : Hid (R = if U = 0 then (if time < 0 ∨ 1000000 < time then 3 else 0) else U) := by show _ = _; rw [HR0.out, if_pos h0]
  subst h0
  clear HR0
  obtain ⟨p0, p1, p2, p3, p4, p5, p6⟩ := seven_cells (below_block b1 F0)
  go_wp2_with fail
  refine (P7.out w1 (ET.In.below b1 t HIN.out)).mono ?_
  rintro e w2 ⟨rfl, b2⟩
  have b3 : Below w.heap.size w w2 := bel0.trans ((below_step b2 b1).mono bel0.size)
  by_cases h1 : U = 0
  ·have HR2 : Hid (R = if time < 0 ∨ 1000000 < time then 3 else 0) := by show _ = _; rw [HR1.out, if_pos h1]
   subst h1
   clear HR1 p0 p1 p2 p3 p4 p5 p6 b1 b2
   go_wp2
   all_goals
    go_ret
    first
     | exact ⟨ret_int (by rw [HR2.out, if_pos (by omega)]), b3⟩
     | exact ⟨ret_int (by rw [HR2.out, if_neg (by omega)]), b3⟩
  ·have HR2 : Hid (R = U) := by show _ = _; rw [HR1.out, if_neg h1]
   have hd : (U != 0) = true := by simpa using h1
   clear h1 HR1 p0 p1 p2 p3 p4 p5 p6 b1 b2
   go_wp2
   go_ret
   exact ⟨ret_int HR2.out.symm, b3⟩
 ·have HR1 : Hid (R = E) := by show _ = _; rw [HR0.out, if_neg h0]
  have hd : (E != 0) = true := by simpa using h0
  clear h0 HR0
  go_wp2
  go_ret
  exact ⟨ret_int HR1.out.symm, bel0.trans (b1.mono bel0.size)⟩
end Go.Proofs.YtoldmigappbjcaaGreatDoor
