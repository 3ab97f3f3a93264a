import Derived.Deep.RegionHeld3
import Derived.Laws.Cover1
import Derived.Test.YtoldmigappbjcaaGreatDoorL01
import Derived.Test.YtoldmigappbjcaaGreatDoorL03
import Derived.Test.YtoldmigappbjcaaGreatDoorL16
import Derived.Test.YtoldmigappbjcaaGreatDoorL18
import Derived.Test.YtoldmigappbjcaaGreatDoorRows
namespace Go.Proofs.YtoldmigappbjcaaGreatDoor
open Go.RowKit Go.GrainU
set_option maxHeartbeats 400000 in
theorem inRange_any (t v : Int) (w : World) :
  Calls Tryz.prog 75 #[.agg #[.int .i64 t, .int .i64 v]] w fun e w' => e = .returned (.bool (Grain.inR t v)) ∧ Below w.heap.size w w' := by
 go_enter Tryz.func75, Tryz.ntmps75
 go_wp2
 all_goals
  go_ret
  refine ⟨ret_bool ?_, (Below.refl _ _).alloc (Nat.le_refl _) _⟩
  rw [Bool.eq_iff_iff]
  simp [Grain.inR]
  omega
set_option maxHeartbeats 400000 in
theorem wrong_any (l : List (Int × Int)) (ao : Option Addr) (cap : Nat) (w : World) (hs : Seg w ao (scells l)) :
  Calls Tryz.prog 45 #[.slice ao l.length cap] w fun e w' => e = .returned (.agg #[.int .i64 (Grain.wrong l).1, .int .i64 (Grain.wrong l).2]) ∧ Below w.heap.size w w' := by
 by_cases h5 : 500 < l.length
 ·have hw : Grain.wrong l = (5, 0) := by simp [Grain.wrong, h5]
  rw [hw]; clear hw
  go_enter Tryz.func45, Tryz.ntmps45
  go_wp2
  exact bodyPost_ret (v := .agg #[.int .i64 5, .int .i64 0]) (by simp [results, Tryz.results45, go_sem]) rfl ⟨rfl, by go_grown⟩
 ·have hw : Grain.wrong l = Grain.wrongF l l.length 0 := by simp [Grain.wrong, h5]
  rw [hw]; clear hw
  have hd : decide ((500 : Int) < (l.length : Int)) = false := by simp; omega
  go_enter Tryz.func45, Tryz.ntmps45
  go_wp2
  go_loopw [11] (fun i wr => ∃ k : Nat, k ≤ l.length ∧ i = .int .i64 k ∧ Hid (Grain.wrongF l l.length 0 = Grain.wrongF l (l.length - k) k) ∧ wr.heap[w.heap.size]? = some (.cells #[.int .i64 0, .int .i64 0] 43 (0, 0)) ∧ Below w.heap.size w wr) (fun i _ => l.length - (intOf i).toNat)
  case atStart => exact ⟨0, Nat.zero_le _, rfl, rfl, heap_alloc_new w _, by go_grown⟩
  case round =>
   obtain ⟨k, hk, rfl, HW, hres, hbel⟩ := hrel
   by_cases hlt : k < l.length
   ·obtain ⟨b, off, rfl, hcell⟩ := hs.sample hlt
    have hb : b < w.heap.size := World.block_lt_of_cell? w ⟨b, off + k * 2, none⟩ (hcell k hlt).1
    have c0 : wr.cell? ⟨b, off + k * 2, none⟩ = some (.int .i64 (Grain.tm l k)) := (hbel.cell (by exact hb)).trans (hcell k hlt).1
    have c1 : wr.cell? ⟨b, off + k * 2 + 1, none⟩ = some (.int .i64 (Grain.vl l k)) := (hbel.cell (by exact hb)).trans (hcell k hlt).2
    have hB : w.heap.size < wr.heap.size := lt_of_block hres
    go_wp2_with fail
    refine (inRange_any _ _ _).mono ?_
    rintro e w1 ⟨rfl, hb1⟩
    obtain ⟨hc1, hf1⟩ := bcell hb1
    have hsz : wr.heap.size + 1 ≤ w1.heap.size := by have := hb1.size; simpa using this
    have hres1 : w1.heap[w.heap.size]? = some (.cells #[.int .i64 0, .int .i64 0] 43 (0, 0)) := by
     rw [hb1.block _ (by simp; omega), Below.heap_alloc _ _ _ hB]; exact hres
    have hbel1 : Below w.heap.size w w1 := (hbel.alloc (by omega) _).trans (hb1.mono (by simp; omega))
    obtain ⟨r0, r1, r2, r3⟩ := two_cells hres1
    have x0 : w1.cell? ⟨wr.heap.size, 0, none⟩ = some (.int .i64 (Grain.tm l k)) := by
     rw [hc1 _ _ (by simp)]; exact (two_cells (heap_alloc_new wr _)).1
    clear hc1 hf1 hb1 c0 c1 hres hbel
    cases hin : Grain.inR (Grain.tm l k) (Grain.vl l k)
    ·have hw : Hid (Grain.wrongF l l.length 0 = (3, (k : Int))) := by
      show Grain.wrongF l l.length 0 = (3, (k : Int))
      rw [HW.out, show l.length - k = (l.length - k - 1) + 1 from by omega, Grain.wrongF_no (by simp [Grain.bad, hin])]; simp [Grain.bad, hin]
     clear HW hin
     go_wp2
     exact bodyPost_ret (v := .agg #[.int .i64 3, .int .i64 k]) (by simp [results, Tryz.results45, go_sem, r0, r1]) rfl ⟨by rw [hw.out], (hbel1.setCell (Nat.le_refl _) _).setCell (Nat.le_refl _) _⟩
    ·rcases Nat.eq_zero_or_pos k with hk0 | hk0
     ·subst hk0
      have hg : decide ((0 : Int) < ((0 : Nat) : Int)) = false := by decide
      have hg' : decide ((0 : Int) < 0) = false := by decide
      have hw : Hid (Grain.wrongF l l.length 0 = Grain.wrongF l (l.length - (0 + 1)) (0 + 1)) := by
       show Grain.wrongF l l.length 0 = Grain.wrongF l (l.length - (0 + 1)) (0 + 1)
       rw [HW.out, show l.length - 0 = (l.length - (0 + 1)) + 1 from by omega, Grain.wrongF_ok (by simp [Grain.bad, hin])]
      clear HW hin
      go_wp2
      go_quiet (fail)
      go_wp2
      go_roundw
      case rel => exact ⟨0 + 1, by omega, by go_num, hw, hres1, below_drewN hbel1 _⟩
      case measure => simp [intOf]; omega
     ·obtain ⟨m, rfl⟩ : ∃ m, k = m + 1 := ⟨k - 1, by omega⟩
      have hg : decide ((0 : Int) < ((m + 1 : Nat) : Int)) = true := by simp
      have hg' : decide ((0 : Int) < (m : Int) + 1) = true := by simp
      have hw2 : Hid (Grain.tm l (m + 1) ≤ Grain.tm l m → Grain.wrongF l l.length 0 = (2, ((m : Int) + 1))) := by
       intro hle
       rw [HW.out, show l.length - (m + 1) = (l.length - (m + 1) - 1) + 1 from by omega, Grain.wrongF_no (by simp [Grain.bad, hin, hle])]; simp [Grain.bad, hin, hle]
      have hw : Hid (Grain.tm l m < Grain.tm l (m + 1) → Grain.wrongF l l.length 0 = Grain.wrongF l (l.length - (m + 1 + 1)) (m + 1 + 1)) := by
       intro hle
       rw [HW.out, show l.length - (m + 1) = (l.length - (m + 1 + 1)) + 1 from by omega, Grain.wrongF_ok (by simp [Grain.bad, hin]; omega)]
      clear HW hin
      have p0 : w1.cell? ⟨b, off + m * 2, none⟩ = some (.int .i64 (Grain.tm l m)) := (hbel1.cell (by exact hb)).trans (hcell m (by omega)).1
      go_wp2
      go_quiet (fail)
      go_wp2
      ·exact bodyPost_ret (v := .agg #[.int .i64 2, .int .i64 ((m : Int) + 1)]) (by simp [results, Tryz.results45, go_sem, r0, r1]) rfl ⟨by rw [hw2.out (by assumption)], ((below_drewN hbel1 _).setCell (Nat.le_refl _) _).setCell (Nat.le_refl _) _⟩
      ·go_roundw
       case rel => exact ⟨m + 1 + 1, by omega, by go_num, hw.out (by assumption), hres1, below_drewN hbel1 _⟩
       case measure => simp [intOf]; omega
   ·obtain ⟨r0, r1, r2, r3⟩ := two_cells hres
    have he : k = l.length := by omega
    subst he
    have hw : Hid (Grain.wrongF l l.length 0 = (0, 0)) := by
     show Grain.wrongF l l.length 0 = (0, 0)
     rw [HW.out]; simp [Grain.wrongF]
    clear HW
    go_wp2
    exact bodyPost_ret (v := .agg #[.int .i64 0, .int .i64 0]) (by simp [results, Tryz.results45, go_sem, r0, r1]) rfl ⟨by rw [hw.out], (hbel.setCell (Nat.le_refl _) _).setCell (Nat.le_refl _) _⟩
theorem wrong_len (l : List (Int × Int)) (ao : Option Addr) (N cap : Nat) (w : World) (hs : Seg w ao (scells l)) (hN : N = l.length) :
  Calls Tryz.prog 45 #[.slice ao N cap] w fun e w' => e = .returned (.agg #[.int .i64 (Grain.wrong l).1, .int .i64 (Grain.wrong l).2]) ∧ Below w.heap.size w w' := by
 subst hN; exact wrong_any l ao cap w hs
end Go.Proofs.YtoldmigappbjcaaGreatDoor
namespace Go.GrainU
open Go.RowKit
def cmpW (x y : ByteArray) : Int := if Op.bytesLess x.toList y.toList = true then -1 else if x = y then 0 else 1
def cmpF (a b : List (ByteArray × ByteArray)) : Nat → Nat → Int
 | 0, _ => if a.length < b.length then -1 else 0
 | n + 1, k => if b.length ≤ k then 1 else if cmpW (lk a k) (lk b k) ≠ 0 then cmpW (lk a k) (lk b k) else if cmpW (lv a k) (lv b k) ≠ 0 then cmpW (lv a k) (lv b k) else cmpF a b n (k + 1)
def cmpS (a b : List (ByteArray × ByteArray)) : Int := cmpF a b a.length 0
theorem cmpW_lt {x y : ByteArray} (h : Op.bytesLess x.toList y.toList = true) : cmpW x y = -1 := by simp [cmpW, h]
theorem cmpW_eq {x y : ByteArray} (h : Op.bytesLess x.toList y.toList = false) (e : x = y) : cmpW x y = 0 := by simp only [cmpW, h, if_pos e]; rfl
theorem cmpW_gt {x y : ByteArray} (h : Op.bytesLess x.toList y.toList = false) (e : x ≠ y) : cmpW x y = 1 := by simp only [cmpW, h, if_neg e]; rfl
end Go.GrainU
namespace Go.Proofs.YtoldmigappbjcaaGreatDoor
open Go.RowKit Go.GrainU
end Go.Proofs.YtoldmigappbjcaaGreatDoor
namespace Go.GrainU
open Go.RowKit
theorem less_irrefl : ∀ x : List UInt8, Op.bytesLess x x = false
 | [] => rfl
 | a :: x => by
  have h := less_irrefl x
  simp [Op.bytesLess, h, UInt8.lt_irrefl]
theorem less_asymm : ∀ x y : List UInt8, Op.bytesLess x y = true → Op.bytesLess y x = false
 | _, [], h => by simp [Op.bytesLess] at h
 | [], _ :: _, _ => rfl
 | a :: x, b :: y, h => by
  have ih := less_asymm x y
  simp only [Op.bytesLess, Bool.or_eq_true, Bool.and_eq_true, decide_eq_true_eq, beq_iff_eq, Bool.or_eq_false_iff, decide_eq_false_iff_not, Bool.and_eq_false_imp] at h ⊢
  rcases h with h | ⟨rfl, h⟩
  ·refine ⟨fun h' => ?_, fun e => ?_⟩
   ·rw [UInt8.lt_iff_toNat_lt] at h h'; omega
   ·subst e; exact absurd h (UInt8.lt_irrefl _)
  ·exact ⟨UInt8.lt_irrefl _, fun _ => ih h⟩
theorem less_total : ∀ x y : List UInt8, Op.bytesLess x y = false → x ≠ y → Op.bytesLess y x = true
 | [], [], _, h => absurd rfl h
 | [], _ :: _, h, _ => by simp [Op.bytesLess] at h
 | _ :: _, [], _, _ => rfl
 | a :: x, b :: y, h, hne => by
  have ih := less_total x y
  simp only [Op.bytesLess, Bool.or_eq_true, Bool.and_eq_true, decide_eq_true_eq, beq_iff_eq, Bool.or_eq_false_iff, decide_eq_false_iff_not, Bool.and_eq_false_imp] at h ⊢
  by_cases e : a = b
  ·subst e
   exact .inr ⟨rfl, ih (h.2 rfl) (fun e => hne (by rw [e]))⟩
  ·left
   have h1 := h.1
   rw [UInt8.lt_iff_toNat_lt] at h1 ⊢
   have : a.toNat ≠ b.toNat := fun e' => e (UInt8.toNat_inj.1 e')
   omega
theorem less_trans : ∀ x y z : List UInt8, Op.bytesLess x y = true → Op.bytesLess y z = true → Op.bytesLess x z = true
 | _, [], _, h, _ => by simp [Op.bytesLess] at h
 | _, _ :: _, [], _, h => by simp [Op.bytesLess] at h
 | [], _ :: _, _ :: _, _, _ => rfl
 | a :: x, b :: y, c :: z, h, h' => by
  have ih := less_trans x y z
  simp only [Op.bytesLess, Bool.or_eq_true, Bool.and_eq_true, decide_eq_true_eq, beq_iff_eq] at h h' ⊢
  rcases h with h | ⟨rfl, h⟩
  ·rcases h' with h' | ⟨rfl, _⟩
   ·left; rw [UInt8.lt_iff_toNat_lt] at *; omega
   ·exact .inl h
  ·rcases h' with h' | ⟨rfl, h'⟩
   ·exact .inl h'
   ·exact .inr ⟨rfl, ih h h'⟩
theorem cmpW_cases (x y : ByteArray) : (cmpW x y = -1 ∧ Op.bytesLess x.toList y.toList = true) ∨ (cmpW x y = 0 ∧ x = y) ∨ (cmpW x y = 1 ∧ Op.bytesLess y.toList x.toList = true) := by
 cases h : Op.bytesLess x.toList y.toList
 ·by_cases e : x = y
  ·exact .inr (.inl ⟨cmpW_eq h e, e⟩)
  ·exact .inr (.inr ⟨cmpW_gt h e, less_total _ _ h (fun e' => e (toList_inj e'))⟩)
 ·exact .inl ⟨cmpW_lt h, rfl⟩
theorem cmpW_self (x : ByteArray) : cmpW x x = 0 := cmpW_eq (less_irrefl _) rfl
theorem cmpW_back (x y : ByteArray) : cmpW y x = - cmpW x y := by
 rcases cmpW_cases x y with ⟨h, h'⟩ | ⟨h, rfl⟩ | ⟨h, h'⟩
 ·have := less_asymm _ _ h'
  rw [h, cmpW_gt this (fun e => by subst e; rw [less_irrefl] at h'; cases h')]; rfl
 ·rw [h]; rfl
 ·rw [h, cmpW_lt h']
theorem cmpW_trans {x y z : ByteArray} (h : cmpW x y = -1) (h' : cmpW y z = -1) : cmpW x z = -1 := by
 rcases cmpW_cases x y with ⟨_, a⟩ | ⟨e, _⟩ | ⟨e, _⟩
 ·rcases cmpW_cases y z with ⟨_, b⟩ | ⟨e, _⟩ | ⟨e, _⟩
  ·exact cmpW_lt (less_trans _ _ _ a b)
  ·omega
  ·omega
 ·omega
 ·omega
def cmpL : List (ByteArray × ByteArray) → List (ByteArray × ByteArray) → Int
 | [], [] => 0
 | [], _ :: _ => -1
 | _ :: _, [] => 1
 | x :: r, y :: t => if cmpW x.1 y.1 ≠ 0 then cmpW x.1 y.1 else if cmpW x.2 y.2 ≠ 0 then cmpW x.2 y.2 else cmpL r t
theorem drop_lab {l : List (ByteArray × ByteArray)} {k : Nat} (h : k < l.length) : l.drop k = (lk l k, lv l k) :: l.drop (k + 1) := by
 rw [List.drop_eq_getElem_cons h]
 simp only [lk, lv, List.getD, List.getElem?_eq_getElem h, Option.getD_some]
theorem cmpF_L (a b : List (ByteArray × ByteArray)) : ∀ n k, k ≤ b.length → k + n = a.length → cmpF a b n k = cmpL (a.drop k) (b.drop k) := by
 intro n
 induction n with
 | zero =>
  intro k hk h
  rw [cmpF, List.drop_of_length_le (show a.length ≤ k from by omega)]
  by_cases e : a.length < b.length
  ·rw [if_pos e, drop_lab (show k < b.length from by omega)]; rfl
  ·rw [if_neg e, List.drop_of_length_le (show b.length ≤ k from by omega)]; rfl
 | succ n ih =>
  intro k hk h
  rw [cmpF, drop_lab (show k < a.length from by omega)]
  by_cases e : b.length ≤ k
  ·rw [if_pos e, List.drop_of_length_le e]; rfl
  ·rw [if_neg e, drop_lab (show k < b.length from by omega), cmpL, ih (k + 1) (by omega) (by omega)]
theorem cmpS_L (a b : List (ByteArray × ByteArray)) : cmpS a b = cmpL a b := by
 unfold cmpS
 rw [cmpF_L a b a.length 0 (by omega) (by omega)]
 simp
theorem cmpL_cases : ∀ a b : List (ByteArray × ByteArray), cmpL a b = -1 ∨ (cmpL a b = 0 ∧ a = b) ∨ cmpL a b = 1
 | [], [] => .inr (.inl ⟨rfl, rfl⟩)
 | [], _ :: _ => .inl rfl
 | _ :: _, [] => .inr (.inr rfl)
 | (x, y) :: r, (x', y') :: t => by
  have ih := cmpL_cases r t
  simp only [cmpL]
  rcases cmpW_cases x x' with ⟨h, _⟩ | ⟨h, rfl⟩ | ⟨h, _⟩
  ·left; rw [h]; rfl
  ·rw [h, if_neg (by simp)]
   rcases cmpW_cases y y' with ⟨h, _⟩ | ⟨h, rfl⟩ | ⟨h, _⟩
   ·left; rw [h]; rfl
   ·rw [h, if_neg (by simp)]
    rcases ih with ih | ⟨ih, rfl⟩ | ih
    ·exact .inl ih
    ·exact .inr (.inl ⟨ih, rfl⟩)
    ·exact .inr (.inr ih)
   ·right; right; rw [h]; rfl
  ·right; right; rw [h]; rfl
theorem cmpL_self : ∀ a : List (ByteArray × ByteArray), cmpL a a = 0
 | [] => rfl
 | x :: r => by simp [cmpL, cmpW_self, cmpL_self r]
theorem cmpL_zero (a b : List (ByteArray × ByteArray)) : cmpL a b = 0 ↔ a = b := by
 refine ⟨fun h => ?_, fun h => by rw [h]; exact cmpL_self b⟩
 rcases cmpL_cases a b with e | ⟨_, e⟩ | e
 ·omega
 ·exact e
 ·omega
theorem cmpL_back : ∀ a b : List (ByteArray × ByteArray), cmpL b a = - cmpL a b
 | [], [] => rfl
 | [], _ :: _ => rfl
 | _ :: _, [] => rfl
 | x :: r, y :: t => by
  have ih := cmpL_back r t
  simp only [cmpL]
  rw [cmpW_back x.1 y.1, cmpW_back x.2 y.2, ih]
  by_cases h : cmpW x.1 y.1 = 0
  ·by_cases h' : cmpW x.2 y.2 = 0
   ·simp [h, h']
   ·simp [h, h']
  ·simp [h]
theorem cmpL_trans : ∀ a b c : List (ByteArray × ByteArray), cmpL a b = -1 → cmpL b c = -1 → cmpL a c = -1
 | [], _, [], h, h' => by
  rename_i b
  cases b with
  | nil => simp [cmpL] at h
  | cons y t => simp [cmpL] at h'
 | [], _, _ :: _, _, _ => rfl
 | _ :: _, [], _, h, _ => by simp [cmpL] at h
 | _ :: _, _ :: _, [], _, h => by simp [cmpL] at h
 | (x, y) :: r, (x', y') :: t, (x'', y'') :: u, h, h' => by
  have ih := cmpL_trans r t u
  simp only [cmpL] at h h' ⊢
  rcases cmpW_cases x x' with ⟨e, _⟩ | ⟨e, rfl⟩ | ⟨e, _⟩
  ·rcases cmpW_cases x' x'' with ⟨f, _⟩ | ⟨f, rfl⟩ | ⟨f, _⟩
   ·rw [cmpW_trans e f]; rfl
   ·rw [e]; rfl
   ·rw [f] at h'; simp at h'
  ·rw [e, if_neg (by simp)] at h
   rcases cmpW_cases x x'' with ⟨f, _⟩ | ⟨f, rfl⟩ | ⟨f, _⟩
   ·rw [f]; rfl
   ·rw [f, if_neg (by simp)] at h' ⊢
    rcases cmpW_cases y y' with ⟨e, _⟩ | ⟨e, rfl⟩ | ⟨e, _⟩
    ·rcases cmpW_cases y' y'' with ⟨f, _⟩ | ⟨f, rfl⟩ | ⟨f, _⟩
     ·rw [cmpW_trans e f]; rfl
     ·rw [e]; rfl
     ·rw [f] at h'; simp at h'
    ·rw [e, if_neg (by simp)] at h
     rcases cmpW_cases y y'' with ⟨f, _⟩ | ⟨f, rfl⟩ | ⟨f, _⟩
     ·rw [f]; rfl
     ·rw [f, if_neg (by simp)] at h' ⊢
      exact ih h h'
     ·rw [f] at h'; simp at h'
    ·rw [e] at h; simp at h
   ·rw [f] at h'; simp at h'
  ·rw [e] at h; simp at h
theorem wle_less (x z : ByteArray) : Op.bytesLess z.toList x.toList = !wle x z := by
 unfold wle
 cases h : Op.bytesLess z.toList x.toList with
 | true =>
  have h1 := less_asymm _ _ h
  have h2 : (x.toList == z.toList) = false := by
   rw [beq_eq_false_iff_ne]
   intro e
   rw [e, less_irrefl] at h
   cases h
  rw [h1, h2]; rfl
 | false =>
  by_cases e : x.toList = z.toList
  ·rw [e]; simp
  ·rw [less_total _ _ h (Ne.symm e)]; rfl
end Go.GrainU
namespace Go.Proofs.YtoldmigappbjcaaGreatDoor
open Go.RowKit Go.GrainU
set_option maxHeartbeats 2000000 in
theorem nwrong_any (l : List (ByteArray × ByteArray)) (ao : Option Addr) (n cap : Nat) (w : World) (hs : Seg w ao (lcells l)) (hn : n = l.length) (hf : Fits l) :
  Calls Tryz.prog 44 #[.slice ao n cap] w fun e w' => e = .returned (.int .i64 (wrongS l)) ∧ Below w.heap.size w w' := by
 by_cases h5 : 4 < n
 ·have hw : wrongS l = 5 := by simp [wrongS, ← hn, h5]
  rw [hw]; clear hw hn
  have hd : decide ((4 : Int) < (n : Int)) = true := by simp; omega
  go_enter Tryz.func44, Tryz.ntmps44
  go_wp2
  go_ret
  exact ⟨rfl, Below.refl _ _⟩
 ·have hw : wrongS l = wrongSF l n 0 := by simp [wrongS, ← hn, h5]
  rw [hw]; clear hw
  have HN := hide hn
  have HF := hide hf
  clear hn hf
  have hd : decide ((4 : Int) < (n : Int)) = false := by simp; omega
  go_enter Tryz.func44, Tryz.ntmps44
  go_wp2
  go_loopw [10] (fun i wr => ∃ k : Nat, k ≤ n ∧ i = .int .i64 k ∧ Hid (wrongSF l n 0 = wrongSF l (n - k) k) ∧ Below w.heap.size w wr) (fun i _ => n - (intOf i).toNat)
  case atStart => exact ⟨0, Nat.zero_le _, rfl, rfl, Below.refl _ _⟩
  case round =>
   obtain ⟨k, hk, rfl, HW, bel⟩ := hrel
   have hsz := bel.size
   by_cases hlt : k < n
   ·have hkl : k < l.length := by rw [← HN.out]; exact hlt
    obtain ⟨b, off, rfl, hb, hcell⟩ := seg_label hs hkl
    obtain ⟨x, hx⟩ : ∃ x, x = lk l k := ⟨_, rfl⟩
    obtain ⟨y, hy⟩ : ∃ y, y = lv l k := ⟨_, rfl⟩
    have c0 : wr.cell? ⟨b, off + k * 2, none⟩ = some (.string x) := by rw [hx]; exact (bel.cell (by exact hb)).trans (hcell k hkl).1
    have c1 : wr.cell? ⟨b, off + k * 2 + 1, none⟩ = some (.string y) := by rw [hy]; exact (bel.cell (by exact hb)).trans (hcell k hkl).2
    have fx : x.size ≤ 9223372036854775807 := by rw [hx]; exact (HF.out k hkl).1
    have fy : y.size ≤ 9223372036854775807 := by rw [hy]; exact (HF.out k hkl).2
    have HX := hide hx
    have HY := hide hy
    have NO : Hid ((Grain.named x && Grain.named y) = false → wrongSF l n 0 = 7) := by
     intro h
     have hbad : badS l k = 7 := by unfold badS; rw [← HX.out, ← HY.out, h]; simp
     rw [HW.out, show n - k = (n - k - 1) + 1 from by omega, wrongSF_no (by rw [hbad]; decide), hbad]
    obtain ⟨N1, hN1⟩ : ∃ N1, N1 = Grain.named x := ⟨_, rfl⟩
    obtain ⟨N2, hN2⟩ : ∃ N2, N2 = Grain.named y := ⟨_, rfl⟩
    have H1 := hide hN1
    have H2 := hide hN2
    have HC := hide hcell
    clear hx hy hkl hN1 hN2 hcell
    go_wp2_with fail
    refine (nnamed_any x _ fx).mono ?_
    rintro e w1 ⟨rfl, hb1⟩
    rw [← H1.out]
    have F1 : w1.heap[wr.heap.size]? = some (.cells #[.string x, .string y] 88 (0, 0)) := by rw [hb1]; exact heap_alloc_new wr _
    obtain ⟨p0, p1, _, _⟩ := two_cells F1
    have bel1 : Below w.heap.size w w1 := by rw [hb1]; exact bel.alloc hsz _
    have hs1 := bel1.size
    clear hb1 bel c0 c1
    cases N1 with
    | false =>
     have hw := hide (NO.out (by rw [← H1.out]; rfl))
     clear NO HW
     go_wp2
     go_ret
     exact ⟨ret_int hw.out.symm, bel1⟩
    | true =>
     go_wp2_with fail
     refine (nnamed_any y _ fy).mono ?_
     rintro e w2 ⟨rfl, hb2⟩
     rw [← H2.out]
     have F2 : w2.heap[wr.heap.size]? = some (.cells #[.string x, .string y] 88 (0, 0)) := by rw [hb2]; exact F1
     obtain ⟨p0, p1, _, _⟩ := two_cells F2
     have bel2 : Below w.heap.size w w2 := by rw [hb2]; exact bel1
     clear hb2 bel1
     cases N2 with
     | false =>
      have hw := hide (NO.out (by rw [← H2.out]; simp))
      clear NO HW
      go_wp2
      go_ret
      exact ⟨ret_int hw.out.symm, bel2⟩
     | true =>
      have hgood : Hid ((Grain.named (lk l k) && Grain.named (lv l k)) = true) := by
       show (Grain.named (lk l k) && Grain.named (lv l k)) = true
       rw [← HX.out, ← HY.out, ← H1.out, ← H2.out]; rfl
      clear NO
      rcases Nat.eq_zero_or_pos k with hk0 | hk0
      ·subst hk0
       have hg : decide ((0 : Int) < ((0 : Nat) : Int)) = false := by decide
       have hg' : decide ((0 : Int) < 0) = false := by decide
       have hw : Hid (wrongSF l n 0 = wrongSF l (n - (0 + 1)) (0 + 1)) := by
        show wrongSF l n 0 = wrongSF l (n - (0 + 1)) (0 + 1)
        have hbad : badS l 0 = 0 := by unfold badS; rw [hgood.out]; simp
        rw [HW.out, show n - 0 = (n - (0 + 1)) + 1 from by omega, wrongSF_ok hbad]
       clear HW hgood
       go_wp2
       go_quiet (fail)
       go_wp2
       go_roundw
       case rel => exact ⟨0 + 1, by omega, by go_num, hw, below_drewN bel2 _⟩
       case measure => simp [intOf]; omega
      ·obtain ⟨m, rfl⟩ : ∃ m, k = m + 1 := ⟨k - 1, by omega⟩
       have hg : decide ((0 : Int) < ((m + 1 : Nat) : Int)) = true := by simp
       have hg' : decide ((0 : Int) < (m : Int) + 1) = true := by simp
       obtain ⟨z, hz⟩ : ∃ z, z = lk l m := ⟨_, rfl⟩
       have q0 : w2.cell? ⟨b, off + m * 2, none⟩ = some (.string z) := by rw [hz]; exact (bel2.cell (by exact hb)).trans (HC.out m (by rw [← HN.out]; omega)).1
       cases hle : wle x z with
       | true =>
        have hle' : Op.bytesLess z.toList x.toList = false := by rw [wle_less, hle]; rfl
        have hw : Hid (wrongSF l n 0 = 2) := by
         show wrongSF l n 0 = 2
         have hbad : badS l (m + 1) = 2 := by
          unfold badS
          rw [hgood.out, if_neg (by simp), if_pos ⟨by omega, by rw [← HX.out]; simpa [← hz] using hle⟩]
         rw [HW.out, show n - (m + 1) = (n - (m + 1) - 1) + 1 from by omega, wrongSF_no (by rw [hbad]; decide), hbad]
        clear HW hgood hz hle
        go_wp2
        go_quiet (fail)
        go_wp2
        go_ret
        exact ⟨ret_int hw.out.symm, below_drewN bel2 _⟩
       | false =>
        have hle' : Op.bytesLess z.toList x.toList = true := by rw [wle_less, hle]; rfl
        have hw : Hid (wrongSF l n 0 = wrongSF l (n - (m + 1 + 1)) (m + 1 + 1)) := by
         show wrongSF l n 0 = wrongSF l (n - (m + 1 + 1)) (m + 1 + 1)
         have hbad : badS l (m + 1) = 0 := by
          unfold badS
          rw [hgood.out, if_neg (by simp), if_neg (by rw [← HX.out]; simp [← hz, hle])]
         rw [HW.out, show n - (m + 1) = (n - (m + 1 + 1)) + 1 from by omega, wrongSF_ok hbad]
        clear HW hgood hz hle
        go_wp2
        go_quiet (fail)
        go_wp2
        go_roundw
        case rel => exact ⟨m + 1 + 1, by omega, by go_num, hw, below_drewN bel2 _⟩
        case measure => simp [intOf]; omega
   ·have he : k = n := by omega
    subst he
    have hw : Hid (wrongSF l k 0 = 0) := by
     show wrongSF l k 0 = 0
     rw [HW.out]; simp [wrongSF]
    clear HW
    go_wp2
    go_ret
    exact ⟨ret_int hw.out.symm, bel⟩
end Go.Proofs.YtoldmigappbjcaaGreatDoor
namespace Go.GrainU
open Go.RowKit
theorem within_any (B : List Grain.Bk) (f t : Int) : (!B.any fun b => (decide (b.a < f) || decide (t ≤ b.a))) = Grain.within B f t := by
 unfold Grain.within
 induction B with
 | nil => rfl
 | cons b r ih =>
  rw [List.any_cons, List.all_cons, Bool.not_or, ih]
  congr 1
  rw [Bool.eq_iff_iff]
  simp
theorem raw_any (l : List (Int × Int)) (f : Int) : (!l.any fun x => decide (x.1 < f)) = l.all fun x => decide (f ≤ x.1) := by
 induction l with
 | nil => rfl
 | cons b r ih =>
  rw [List.any_cons, List.all_cons, Bool.not_or, ih]
  congr 1
  rw [Bool.eq_iff_iff]
  simp
end Go.GrainU
namespace Go.Proofs.YtoldmigappbjcaaGreatDoor
open Go.RowKit Go.GrainU
def so (x : ShT) : Obj := .cells #[.slice x.a0 x.s.se.length x.c0, .slice x.a1 x.s.ra.length x.c1, .slice x.a2 x.s.fi.length x.c2, .slice x.a3 x.s.co.length x.c3, .int .i64 x.s.rf, .int .i64 x.s.ff, .int .i64 x.s.ft, .int .i64 x.s.cf, .int .i64 x.s.ct] 59
def At9 (w : World) (B : Nat) (x : ShT) : Prop :=
 w.cell? ⟨B, 0, none⟩ = some (.slice x.a0 x.s.se.length x.c0) ∧ w.cell? ⟨B, 1, none⟩ = some (.slice x.a1 x.s.ra.length x.c1) ∧ w.cell? ⟨B, 2, none⟩ = some (.slice x.a2 x.s.fi.length x.c2) ∧ w.cell? ⟨B, 3, none⟩ = some (.slice x.a3 x.s.co.length x.c3) ∧
 w.cell? ⟨B, 4, none⟩ = some (.int .i64 x.s.rf) ∧ w.cell? ⟨B, 5, none⟩ = some (.int .i64 x.s.ff) ∧ w.cell? ⟨B, 6, none⟩ = some (.int .i64 x.s.ft) ∧ w.cell? ⟨B, 7, none⟩ = some (.int .i64 x.s.cf) ∧ w.cell? ⟨B, 8, none⟩ = some (.int .i64 x.s.ct)
theorem nine_cells {w : World} {B : Nat} {x : ShT} (h : w.heap[B]? = some (so x)) : At9 w B x := by
 unfold so at h
 simp [At9, World.cell?, h]
set_option maxHeartbeats 1000000 in
theorem bfit_any (x : ShT) (w : World) :
  Calls Tryz.prog 47 #[x.v] w fun e w' => e = .returned (.bool (Grain.bfit x.s)) ∧ Below w.heap.size w w' := by
 obtain ⟨⟨se, ra, fi, co, rf, ff, ft, cf, ct⟩, a0, c0, a1, c1, a2, c2, a3, c3⟩ := x
 have HB : Hid (Grain.bfit ⟨se, ra, fi, co, rf, ff, ft, cf, ct⟩ = (Grain.span ff ft 10 && (Grain.span cf ct 60 && decide (0 ≤ rf ∧ rf ≤ ft ∧ ff ≤ ct ∧ ct ≤ ft)))) := rfl
 have bel : ∀ o, Below w.heap.size w (w.alloc o) := fun o => (Below.refl _ _).alloc (Nat.le_refl _) _
 have BE := hide bel
 clear bel
 simp only [ShT.v]
 cases h1 : Grain.span ff ft 10
 ·rw [h1] at HB
  have H1 := hide h1
  clear h1
  go_enter Tryz.func47, Tryz.ntmps47
  go_wp2_with fail
  refine (span_any ff ft 10 _ (.inl rfl)).mono ?_
  intro e w1 hh
  rw [hh.1, hh.2, H1.out]
  clear hh
  go_wp2
  go_ret
  exact ⟨by rw [HB.out]; rfl, BE.out _⟩
 ·cases h2 : Grain.span cf ct 60
  ·rw [h1, h2] at HB
   have H1 := hide h1
   have H2 := hide h2
   clear h1 h2
   go_enter Tryz.func47, Tryz.ntmps47
   go_wp2_with fail
   refine (span_any ff ft 10 _ (.inl rfl)).mono ?_
   intro e w1 hh
   rw [hh.1, hh.2, H1.out]
   clear hh
   go_wp2_with fail
   refine (span_any cf ct 60 _ (.inr rfl)).mono ?_
   intro e w1 hh
   rw [hh.1, hh.2, H2.out]
   clear hh
   go_wp2
   go_ret
   exact ⟨by rw [HB.out]; rfl, BE.out _⟩
  ·rw [h1, h2] at HB
   have H1 := hide h1
   have H2 := hide h2
   clear h1 h2
   go_enter Tryz.func47, Tryz.ntmps47
   go_wp2_with fail
   refine (span_any ff ft 10 _ (.inl rfl)).mono ?_
   intro e w1 hh
   rw [hh.1, hh.2, H1.out]
   clear hh
   go_wp2_with fail
   refine (span_any cf ct 60 _ (.inr rfl)).mono ?_
   intro e w1 hh
   rw [hh.1, hh.2, H2.out]
   clear hh
   go_wp2
   all_goals
    go_ret
    refine ⟨?_, BE.out _⟩
    rw [HB.out]
    refine ret_bool ?_
    rw [Bool.eq_iff_iff]
    simp
    try omega
theorem ef1_any (t v rf : Int) (B : Nat) (w : World) (hB : w.cell? ⟨B, 4, none⟩ = some (.int .i64 rf)) :
  Calls Tryz.prog 79 #[.agg #[.int .i64 t, .int .i64 v], .pointer (some ⟨B, 0, none⟩)] w fun e w' => e = .returned (.bool (decide (t < rf))) ∧ Below w.heap.size w w' := by
 have hl : B < w.heap.size := World.block_lt_of_cell? w _ hB
 have bel : Below w.heap.size w (w.alloc (.cells #[.int .i64 t, .int .i64 v] 34)) := (Below.refl _ _).alloc (Nat.le_refl _) _
 go_enter Tryz.func79, Tryz.ntmps79
 go_wp2
 go_ret
 exact ⟨rfl, bel⟩
theorem aw1_any (K : Grain.Bk) (f t : Int) (B1 B2 : Nat) (w : World) (h1 : w.cell? ⟨B1, 0, none⟩ = some (.int .i64 f)) (h2 : w.cell? ⟨B2, 0, none⟩ = some (.int .i64 t)) :
  Calls Tryz.prog 119 #[kv K, .pointer (some ⟨B1, 0, none⟩), .pointer (some ⟨B2, 0, none⟩)] w fun e w' => e = .returned (.bool (decide (K.a < f) || decide (t ≤ K.a))) ∧ Below w.heap.size w w' := by
 have hl1 : B1 < w.heap.size := World.block_lt_of_cell? w _ h1
 have hl2 : B2 < w.heap.size := World.block_lt_of_cell? w _ h2
 have bel : Below w.heap.size w (w.alloc (ko K)) := (Below.refl _ _).alloc (Nat.le_refl _) _
 unfold ko at bel
 unfold kv
 go_enter Tryz.func119, Tryz.ntmps119
 go_wp2
 all_goals
  go_ret
  refine ⟨ret_bool ?_, bel⟩
  (rw [Bool.eq_iff_iff]) <;> simp <;> try omega
set_option maxHeartbeats 1000000 in
theorem aw_any (l : List Grain.Bk) (f t : Int) (ao : Option Addr) (n c : Nat) (w : World) (ha : Seg w ao (kcells l)) (hn : n = l.length) (hc : n ≤ 9223372036854775807) :
  Calls Tryz.prog 81 #[.slice ao n c, .int .i64 f, .int .i64 t] w fun e w' => e = .returned (.bool (Grain.within l f t)) ∧ Below w.heap.size w w' := by
 obtain ⟨V, hV⟩ : ∃ V, V = (w.alloc (.cells #[.int .i64 f] 3)).alloc (.cells #[.int .i64 t] 3) := ⟨_, rfl⟩
 have bel : Below w.heap.size w V := by rw [hV]; exact ((Below.refl _ _).alloc (Nat.le_refl _) _).alloc (by simp) _
 have hVs : V.heap.size = w.heap.size + 2 := by rw [hV]; simp
 have q1 : V.cell? ⟨w.heap.size, 0, none⟩ = some (.int .i64 f) := by rw [hV]; simp
 have q2 : V.cell? ⟨w.heap.size + 1, 0, none⟩ = some (.int .i64 t) := by rw [hV]; simp
 have HV := hide hV
 have HN := hide hn
 have haV := ha.below bel
 have hE := hide (enters (P := Tryz.prog) Tryz.func119 (by kernel_rfl) (by kernel_rfl))
 have hF : ∀ W K, Below V.heap.size V W → Calls Tryz.prog 119 (#[kv K] ++ #[.pointer (some ⟨w.heap.size, 0, none⟩), .pointer (some ⟨w.heap.size + 1, 0, none⟩)]) W fun e W' => e = .returned (.bool (decide (K.a < f) || decide (t ≤ K.a))) ∧ Below W.heap.size W W' := by
  intro W K hb
  have := aw1_any K f t w.heap.size (w.heap.size + 1) W ((hb.cell (p := ⟨w.heap.size, 0, none⟩) (by show w.heap.size < V.heap.size; omega)).trans q1) ((hb.cell (p := ⟨w.heap.size + 1, 0, none⟩) (by show w.heap.size + 1 < V.heap.size; omega)).trans q2)
  simpa using this
 have HF := hide hF
 clear hV hn hF q1 q2
 go_enter Tryz.func81, Tryz.ntmps81
 go_wp2_with fail
 rw [← HV.out]
 refine (kcont_any l (fun K => decide (K.a < f) || decide (t ≤ K.a)) 119 _ ao n c V haV HN.out hc hE HF.out).mono ?_
 rintro e w1 ⟨rfl, hb1⟩
 have bel1 : Below w.heap.size w w1 := bel.trans (hb1.mono bel.size)
 have HW := hide (within_any l f t)
 generalize (l.any fun x => (decide (x.a < f) || decide (t ≤ x.a))) = A at HW ⊢
 clear hb1 HV
 go_wp2
 go_ret
 exact ⟨by rw [← HW.out]; rfl, bel1⟩
end Go.Proofs.YtoldmigappbjcaaGreatDoor
