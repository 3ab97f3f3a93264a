import Derived.Test.YtoldmigappbjcaaGreatDoorL01
import Derived.Test.YtoldmigappbjcaaGreatDoorL02
import Derived.Test.YtoldmigappbjcaaGreatDoorRows
namespace Go.Proofs.YtoldmigappbjcaaGreatDoor
open Go.RowKit Go.GrainU
theorem nletter_any (c : Int) (w : World) : Calls Tryz.prog 115 #[.int .u8 c] w fun e w' => e = .returned (.bool (Grain.low c)) ∧ w' = w := by
 rcases (show c < 97 ∨ 97 ≤ c from by omega) with h | h
 ·have hd : Grain.low c = false := by simp [Grain.low]; omega
  rw [hd]; clear hd
  go_enter Tryz.func115, Tryz.ntmps115
  go_wp2
  go_ret
  exact ⟨rfl, rfl⟩
 ·rcases (show c ≤ 122 ∨ 122 < c from by omega) with h' | h'
  ·have hd : Grain.low c = true := by simp [Grain.low]; omega
   rw [hd]; clear hd
   go_enter Tryz.func115, Tryz.ntmps115
   go_wp2
   go_ret
   exact ⟨ret_bool (by simp), rfl⟩
  ·have hd : Grain.low c = false := by simp [Grain.low]; omega
   rw [hd]; clear hd
   go_enter Tryz.func115, Tryz.ntmps115
   go_wp2
   go_ret
   exact ⟨ret_bool (by simpa using h'), rfl⟩
theorem ndigit_any (c : Int) (w : World) : Calls Tryz.prog 116 #[.int .u8 c] w fun e w' => e = .returned (.bool (decide (48 ≤ c) && decide (c ≤ 57))) ∧ w' = w := by
 rcases (show c < 48 ∨ 48 ≤ c from by omega) with h | h
 ·have hd : (decide (48 ≤ c) && decide (c ≤ 57)) = false := by simp; omega
  rw [hd]; clear hd
  go_enter Tryz.func116, Tryz.ntmps116
  go_wp2
  go_ret
  exact ⟨rfl, rfl⟩
 ·rcases (show c ≤ 57 ∨ 57 < c from by omega) with h' | h'
  ·have hd : (decide (48 ≤ c) && decide (c ≤ 57)) = true := by simp; omega
   rw [hd]; clear hd
   go_enter Tryz.func116, Tryz.ntmps116
   go_wp2
   go_ret
   exact ⟨ret_bool (by simp), rfl⟩
  ·have hd : (decide (48 ≤ c) && decide (c ≤ 57)) = false := by simp; omega
   rw [hd]; clear hd
   go_enter Tryz.func116, Tryz.ntmps116
   go_wp2
   go_ret
   exact ⟨ret_bool (by simpa using h'), rfl⟩
theorem byt_at (s : ByteArray) (k : Nat) (h : k < s.size) : (((s[k]'h).toNat : Nat) : Int) = Grain.byt s k := by
 unfold Grain.byt
 have h' : k < s.data.size := h
 simp only [List.getD, Array.getElem?_toList, Array.getElem?_eq_getElem h', Option.getD_some]
 rfl
set_option maxHeartbeats 2000000 in
theorem nnamed_any (s : ByteArray) (w : World) (hm : s.size ≤ 9223372036854775807) :
  Calls Tryz.prog 74 #[.string s] w fun e w' => e = .returned (.bool (Grain.named s)) ∧ w' = w := by
 by_cases h0 : 0 < s.size
 ·have e0 : ((s.size : Int) == 0) = false := by rw [beq_eq_false_iff_ne]; omega
  by_cases h12 : s.size ≤ 12
  ·have e1 : decide ((12 : Int) < (s.size : Int)) = false := by simp; omega
   obtain ⟨c, hc⟩ : ∃ c, c = Grain.byt s 0 := ⟨_, rfl⟩
   have hb := byt_at s 0 h0
   rw [← hc] at hb
   cases hl : Grain.low c with
   | false =>
    have HF : Hid (Grain.named s = false) := by
     show _ = _
     unfold Grain.named
     rw [Grain.fineN_no (k := 0) (by rw [← hc]; simp [Grain.badN, hl]) s.size h0]
     rfl
    clear hc
    go_enter Tryz.func74, Tryz.ntmps74
    go_wp2_with fail
    refine (nletter_any c w).mono ?_
    intro e w1 hh
    rw [hh.1, hh.2, hl]
    clear hh
    go_wp2
    go_ret
    exact ⟨ret_bool HF.out.symm, rfl⟩
   | true =>
    have HF : Hid (Grain.fineN s 1 = true) := by
     show _ = _
     simp [Grain.fineN, Grain.badN, ← hc, hl]
    clear hc
    go_enter Tryz.func74, Tryz.ntmps74
    go_wp2_with fail
    refine (nletter_any c w).mono ?_
    intro e w1 hh
    rw [hh.1, hh.2, hl]
    clear hh
    go_wp2
    clear hl hb
    go_loopw [3] (fun i wr => ∃ k : Nat, 1 ≤ k ∧ k ≤ s.size ∧ i = .int .i64 k ∧ Hid (Grain.fineN s k = true) ∧ wr = w) (fun i _ => s.size - (intOf i).toNat)
    case atStart => exact ⟨1, Nat.le_refl _, h0, rfl, HF, rfl⟩
    case round =>
     clear HF
     obtain ⟨k, hk1, hk, rfl, HF, rfl⟩ := hrel
     by_cases hlt : k < s.size
     ·obtain ⟨c, hc⟩ : ∃ c, c = Grain.byt s k := ⟨_, rfl⟩
      have hb := byt_at s k hlt
      rw [← hc] at hb
      have HB : Hid (Grain.badN k c = true → Grain.named s = false) := by
       intro h
       rw [hc] at h
       unfold Grain.named
       rw [Grain.fineN_no h s.size hlt]
       rfl
      have HN : Hid (Grain.badN k c = false → Grain.fineN s (k + 1) = true) := by
       intro h
       show (Grain.fineN s k && !Grain.badN k (Grain.byt s k)) = true
       rw [← hc, h, HF.out]
       rfl
      clear hc HF
      cases hl : Grain.low c with
      | true =>
       go_wp2_with fail
       refine (nletter_any c wr).mono ?_
       intro e w1 hh
       rw [hh.1, hh.2, hl]
       clear hh
       go_wp2
       go_roundw
       case rel => exact ⟨k + 1, by omega, by omega, by go_num, HN.out (by simp [Grain.badN, hl]), by first | rfl | trivial⟩
       case measure => simp [intOf]; omega
      | false =>
       cases hd : (decide (48 ≤ c) && decide (c ≤ 57)) with
       | true =>
        go_wp2_with fail
        refine (nletter_any c wr).mono ?_
        intro e w1 hh
        rw [hh.1, hh.2, hl]
        clear hh
        go_wp2_with fail
        refine (ndigit_any c wr).mono ?_
        intro e w1 hh
        rw [hh.1, hh.2, hd]
        clear hh
        go_wp2
        go_roundw
        case rel => exact ⟨k + 1, by omega, by omega, by go_num, HN.out (by simp at hd; simp [Grain.badN, hl]; omega), by first | rfl | trivial⟩
        case measure => simp [intOf]; omega
       | false =>
        by_cases g : c = 95
        ·subst g
         go_wp2_with fail
         refine (nletter_any 95 wr).mono ?_
         intro e w1 hh
         rw [hh.1, hh.2, hl]
         clear hh
         go_wp2_with fail
         refine (ndigit_any 95 wr).mono ?_
         intro e w1 hh
         rw [hh.1, hh.2, hd]
         clear hh
         go_wp2
         go_roundw
         case rel => exact ⟨k + 1, by omega, by omega, by go_num, HN.out (by simp [Grain.badN]; omega), by first | rfl | trivial⟩
         case measure => simp [intOf]; omega
        ·have g' : (c != 95) = true := by simpa using g
         go_wp2_with fail
         refine (nletter_any c wr).mono ?_
         intro e w1 hh
         rw [hh.1, hh.2, hl]
         clear hh
         go_wp2_with fail
         refine (ndigit_any c wr).mono ?_
         intro e w1 hh
         rw [hh.1, hh.2, hd]
         clear hh
         go_wp2
         go_ret
         exact ⟨ret_bool (HB.out (by simp at hd; simp [Grain.badN, hl]; omega)).symm, rfl⟩
     ·have he : k = s.size := by omega
      subst he
      have HE : Hid (Grain.named s = true) := by
       show Grain.named s = _
       unfold Grain.named
       rw [HF.out]
       simp; omega
      clear HF
      go_wp2
      go_ret
      exact ⟨ret_bool HE.out.symm, rfl⟩
  ·have e1 : decide ((12 : Int) < (s.size : Int)) = true := by simp; omega
   have HF : Hid (Grain.named s = false) := by
    show _ = _
    unfold Grain.named
    simp; omega
   go_enter Tryz.func74, Tryz.ntmps74
   go_wp2
   go_ret
   exact ⟨ret_bool HF.out.symm, rfl⟩
 ·have e0 : ((s.size : Int) == 0) = true := by rw [beq_iff_eq]; omega
  have HF : Hid (Grain.named s = false) := by
   show _ = _
   unfold Grain.named
   rw [decide_eq_false h0]; simp
  go_enter Tryz.func74, Tryz.ntmps74
  go_wp2
  go_ret
  exact ⟨ret_bool HF.out.symm, rfl⟩
end Go.Proofs.YtoldmigappbjcaaGreatDoor
namespace Go.GrainU
open Go.RowKit
theorem seg_words {w : World} {cs : Array Value} {t : TypeId} {l : List ByteArray} (h : cs.toList = wcells l) : Seg (w.alloc (.cells cs t)) (some ⟨w.heap.size, 0, none⟩) (wcells l) := by
 rw [← h]; exact seg_new w cs t
end Go.GrainU
namespace Go.Proofs.YtoldmigappbjcaaGreatDoor
open Go.RowKit Go.GrainU
theorem pwords_any (w : World) : Calls Tryz.prog 26 #[] w fun e w' => ∃ g, e = .returned (.slice (some ⟨g, 0, none⟩) 8 8) ∧ Seg w' (some ⟨g, 0, none⟩) (wcells words8) ∧ Below w.heap.size w w' := by
 go_enter Tryz.func26, Tryz.ntmps26
 go_wp2
 go_ret
 exact ⟨_, rfl, seg_words rfl, (Below.refl _ _).alloc (Nat.le_refl _) _⟩
theorem ptotals_any (w : World) : Calls Tryz.prog 202 #[] w fun e w' => ∃ g, e = .returned (.slice (some ⟨g, 0, none⟩) 4 4) ∧ Seg w' (some ⟨g, 0, none⟩) (wcells totals4) ∧ Below w.heap.size w w' := by
 go_enter Tryz.func202, Tryz.ntmps202
 go_wp2
 go_ret
 exact ⟨_, rfl, seg_words rfl, (Below.refl _ _).alloc (Nat.le_refl _) _⟩
theorem poutside_any (n a b : Int) (w : World) : Calls Tryz.prog 164 #[.int .i64 n, .int .i64 a, .int .i64 b] w fun e w' => e = .returned (.int .i64 (if n < a ∨ b < n then 3 else 0)) ∧ w' = w := by
 obtain ⟨R, hR⟩ : ∃ R, R = if n < a ∨ b < n then (3 : Int) else 0 := ⟨_, rfl⟩
 rw [← hR]
 have HR := hide hR
 clear hR
 by_cases h1 : n < a
 ·go_enter Tryz.func164, Tryz.ntmps164
  go_wp2
  go_ret
  exact ⟨ret_int (a := 3) (by rw [HR.out, if_pos (.inl (by first | exact h1 | trivial))]), rfl⟩
 ·by_cases h2 : b < n
  ·go_enter Tryz.func164, Tryz.ntmps164
   go_wp2
   go_ret
   exact ⟨ret_int (a := 3) (by rw [HR.out, if_pos (.inr (by first | exact h2 | trivial))]), rfl⟩
  ·go_enter Tryz.func164, Tryz.ntmps164
   go_wp2
   go_ret
   exact ⟨ret_int (a := 0) (by rw [HR.out, if_neg (by omega)]), rfl⟩
def kidsK (k : Int) : Int × Bool := if k = 1 ∨ k = 2 then (0, true) else if k = 3 then (1, true) else if k = 4 then (2, true) else (0, false)
theorem pkidsOf_any (k : Int) (w : World) : Calls Tryz.prog 163 #[.int .i64 k] w fun e w' => e = .returned (.tuple #[.int .i64 (kidsK k).1, .bool (kidsK k).2]) ∧ w' = w := by
 obtain ⟨a, ha⟩ : ∃ a, a = (kidsK k).1 := ⟨_, rfl⟩
 obtain ⟨b, hb⟩ : ∃ b, b = (kidsK k).2 := ⟨_, rfl⟩
 rw [← ha, ← hb]
 have HA := hide ha
 have HB := hide hb
 clear ha hb
 unfold kidsK at HA HB
 by_cases h1 : k = 1
 ·subst h1
  go_enter Tryz.func163, Tryz.ntmps163
  go_wp2
  go_ret2
  exact ⟨by rw [HA.out, HB.out]; rfl, rfl⟩
 by_cases h2 : k = 2
 ·subst h2
  go_enter Tryz.func163, Tryz.ntmps163
  go_wp2
  go_ret2
  exact ⟨by rw [HA.out, HB.out]; rfl, rfl⟩
 by_cases h3 : k = 3
 ·subst h3
  go_enter Tryz.func163, Tryz.ntmps163
  go_wp2
  go_ret2
  exact ⟨by rw [HA.out, HB.out]; rfl, rfl⟩
 by_cases h4 : k = 4
 ·subst h4
  go_enter Tryz.func163, Tryz.ntmps163
  go_wp2
  go_ret2
  exact ⟨by rw [HA.out, HB.out]; rfl, rfl⟩
 have e1 : (k == 1) = false := by simp [h1]
 have e2 : (k == 2) = false := by simp [h2]
 have e3 : (k == 3) = false := by simp [h3]
 have e4 : (k == 4) = false := by simp [h4]
 have HC : Hid (a = 0 ∧ b = false) := ⟨by rw [HA.out]; simp [h1, h2, h3, h4], by rw [HB.out]; simp [h1, h2, h3, h4]⟩
 clear HA HB
 go_enter Tryz.func163, Tryz.ntmps163
 go_wp2
 go_ret2
 exact ⟨by rw [HC.out.1, HC.out.2]; rfl, rfl⟩
end Go.Proofs.YtoldmigappbjcaaGreatDoor
namespace Go.GrainU
open Go.RowKit
theorem vecL_take {l : List ET} {k : Nat} (h : k < l.length) : vecL (exL (l.take (k + 1))) = (vecL (exL (l.take k)) || vec (l[k]).ex) := by
 rw [List.take_add_one, List.getElem?_eq_getElem h]
 simp only [Option.toList_some]
 generalize l.take k = a
 induction a with
 | nil => simp [exL, vecL]
 | cons x r ih => simp [exL, vecL, ih, Bool.or_assoc]
theorem vecL_at {l : List ET} {k : Nat} (h : k < l.length) (h' : vec (l[k]).ex = true) : vecL (exL l) = true := by
 induction l generalizing k with
 | nil => simp at h
 | cons x r ih =>
  match k, h with
  | 0, _ => simp at h'; simp [exL, vecL, h']
  | k + 1, h => simp only [exL, vecL]; rw [ih (k := k) (by simpa using h) (by simpa using h')]; simp
theorem vecL_end {l : List ET} {k : Nat} (hk : k = l.length) (h : vecL (exL (l.take k)) = false) : vecL (exL l) = false := by
 rw [hk, List.take_length] at h; exact h
theorem typL_at {l : List ET} {k : Nat} (h : k < l.length) (h0 : typL (exL (l.take k)) = 0) (h' : typ (l[k]).ex ≠ 0) : typL (exL l) = typ (l[k]).ex := by
 induction l generalizing k with
 | nil => simp at h
 | cons x r ih =>
  match k, h with
  | 0, _ => simp at h'; simp [exL, typL, h']
  | k + 1, h =>
   simp only [List.take_succ_cons, exL, typL] at h0
   by_cases e : typ x.ex = 0
   ·rw [if_pos e] at h0
    simp only [exL, typL, if_pos e, List.getElem_cons_succ]
    exact ih (by simpa using h) h0 (by simpa using h')
   ·rw [if_neg e] at h0; exact absurd h0 e
theorem typL_take {l : List ET} {k : Nat} (h : k < l.length) (h0 : typL (exL (l.take k)) = 0) (h' : typ (l[k]).ex = 0) : typL (exL (l.take (k + 1))) = 0 := by
 induction l generalizing k with
 | nil => simp at h
 | cons x r ih =>
  match k, h with
  | 0, _ => simp at h'; simp [exL, typL, h']
  | k + 1, h =>
   simp only [List.take_succ_cons, exL, typL] at h0 ⊢
   by_cases e : typ x.ex = 0
   ·rw [if_pos e] at h0 ⊢
    exact ih (by simpa using h) h0 (by simpa using h')
   ·rw [if_neg e] at h0; exact absurd h0 e
theorem Cells7.below {w w' : World} {b o : Nat} {t : ET} (h : Cells7 w b o t) (hb : Below w.heap.size w w') : Cells7 w' b o t := by
 have hl : b < w.heap.size := World.block_lt_of_cell? w ⟨b, o, none⟩ h.1
 unfold Cells7 at h ⊢
 simp only [(bcell hb).1 b _ hl]
 exact h
theorem vec_of {h : Hd} {s : Sp} {kids : List ET} : vec (ET.ex (.node h s kids)) = (decide (h.kind = 2) || decide (h.kind = 3) || vecL (exL kids)) := by simp [ET.ex, vec]
theorem typ_of {h : Hd} {s : Sp} {kids : List ET} : typ (ET.ex (.node h s kids)) = if h.kind = 3 ∧ kids.length = 1 ∧ vecL (exL kids) = false then 8 else typL (exL kids) := by simp [ET.ex, typ, exL_length]
end Go.GrainU
namespace Go.Proofs.YtoldmigappbjcaaGreatDoor
open Go.RowKit Go.GrainU
set_option maxHeartbeats 1000000 in
theorem vindex_any (kids : List ET) (ih : ∀ t ∈ kids, ∀ w : World, t.In w → Calls Tryz.prog 150 #[eval t] w fun e w' => e = .returned (.bool (vec t.ex)) ∧ Below w.heap.size w w')
  (ka : Option Addr) (kl kc : Nat) (w : World) (hK : Seg w ka (ecells kids)) (hkl : kl = kids.length) (lK : kl ≤ 9223372036854775806) (hL : InL w kids) :
  Calls Tryz.prog 149 #[.slice ka kl kc, .func (.func 150) #[] #[]] w fun e w' => (∃ i : Int, e = .returned (.int .i64 i) ∧ decide (0 ≤ i) = vecL (exL kids)) ∧ Below w.heap.size w w' := by
 have HK := hide hkl
 clear hkl
 go_enter Tryz.func149, Tryz.ntmps149
 go_wp2
 go_loopw [8] (fun i wr => ∃ k : Nat, k ≤ kl ∧ i = .int .i64 k ∧ Hid (vecL (exL (kids.take k)) = false) ∧ Below w.heap.size w wr) (fun i _ => kl - (intOf i).toNat)
 case atStart => exact ⟨0, Nat.zero_le _, rfl, by show _ = _; simp [exL, vecL], Below.refl _ _⟩
 case round =>
  obtain ⟨k, hk, rfl, HJ, bel⟩ := hrel
  by_cases hlt : k < kl
  ·have hkl : k < kids.length := by rw [← HK.out]; exact hlt
   obtain ⟨b, off, rfl, hbl, hcell⟩ := seg_expr hK hkl
   obtain ⟨t, ht⟩ : ∃ t, t = kids[k] := ⟨_, rfl⟩
   have hc := (hcell k hkl).below bel
   rw [← ht] at hc
   have hmem : t ∈ kids := by rw [ht]; exact List.getElem_mem hkl
   have HT := hide (inL_mem hL t hmem)
   have Ht := hide ht
   clear ht hcell hK
   obtain ⟨c0, c1, c2, c3, c4, c5, c6⟩ := hc
   go_wp2_with fail
   refine (ih t hmem _ (ET.In.below bel t HT.out)).mono ?_
   rintro e w1 ⟨rfl, b1⟩
   have bel1 : Below w.heap.size w w1 := bel.trans (b1.mono bel.size)
   obtain ⟨D, hD⟩ : ∃ D, D = vec t.ex := ⟨_, rfl⟩
   rw [← hD]
   have HD := hide hD
   clear hD
   cases D with
   | true =>
    go_wp2
    go_ret
    exact ⟨⟨k, rfl, by rw [vecL_at hkl (by rw [← Ht.out]; exact HD.out.symm)]; simp⟩, bel1⟩
   | false =>
    have HJ' : Hid (vecL (exL (kids.take (k + 1))) = false) := by show _ = _; rw [vecL_take hkl, HJ.out, ← Ht.out, ← HD.out]; rfl
    go_wp2
    go_roundw
    case rel => exact ⟨k + 1, by omega, by go_num, HJ', bel1⟩
    case measure => simp [intOf]; omega
  ·go_wp2
   go_ret
   exact ⟨⟨-1, rfl, by rw [vecL_end (by have := HK.out; omega) HJ.out]; decide⟩, bel⟩
theorem vcont_any (kids : List ET) (ih : ∀ t ∈ kids, ∀ w : World, t.In w → Calls Tryz.prog 150 #[eval t] w fun e w' => e = .returned (.bool (vec t.ex)) ∧ Below w.heap.size w w')
  (ka : Option Addr) (kl kc : Nat) (w : World) (hK : Seg w ka (ecells kids)) (hkl : kl = kids.length) (lK : kl ≤ 9223372036854775806) (hL : InL w kids) :
  Calls Tryz.prog 107 #[.slice ka kl kc, .func (.func 150) #[] #[]] w fun e w' => e = .returned (.bool (vecL (exL kids))) ∧ Below w.heap.size w w' := by
 have HK := hide hkl
 clear hkl
 obtain ⟨D, hD⟩ : ∃ D, D = vecL (exL kids) := ⟨_, rfl⟩
 rw [← hD]
 have HD := hide hD
 clear hD
 go_enter Tryz.func107, Tryz.ntmps107
 go_wp2_with fail
 refine (vindex_any kids ih ka kl kc w hK HK.out lK hL).mono ?_
 rintro e w1 ⟨⟨i, rfl, hi⟩, b1⟩
 rw [← HD.out] at hi
 go_wp2
 go_ret
 exact ⟨rfl, b1⟩
set_option maxHeartbeats 1000000 in
theorem pvector_any : ∀ t : ET, ∀ w : World, t.In w →
  Calls Tryz.prog 150 #[eval t] w fun e w' => e = .returned (.bool (vec t.ex)) ∧ Below w.heap.size w w' := by
 refine ET.ind ?_
 intro h s kids ih w hin
 obtain ⟨kd, n, rg, wd, ms, bs⟩ := h
 obtain ⟨ma, mc, ba, bc, ka, kc⟩ := s
 simp only [ET.In] at hin
 obtain ⟨⟨_, _, hK⟩, ⟨_, _, lK, _⟩, hL⟩ := hin
 rw [vec_of]
 show Calls Tryz.prog _ #[.agg #[.int .i64 kd, .int .i64 n, .int .i64 rg, .string wd, .slice ma ms.length mc, .slice ba bs.length bc, .slice ka kids.length kc]] w _
 generalize ms.length = ml
 generalize bs.length = bl
 obtain ⟨kl, hkl⟩ : ∃ x, x = kids.length := ⟨_, rfl⟩
 rw [← hkl] at lK ⊢
 have HK := hide hkl
 clear hkl
 by_cases h2 : kd = 2
 ·subst h2
  go_enter Tryz.func150, Tryz.ntmps150
  go_wp2_with fail
  go_ret
  exact ⟨by simp, (Below.refl _ _).alloc (Nat.le_refl _) _⟩
 by_cases h3 : kd = 3
 ·subst h3
  go_enter Tryz.func150, Tryz.ntmps150
  go_wp2_with fail
  go_ret
  exact ⟨by simp, (Below.refl _ _).alloc (Nat.le_refl _) _⟩
 have HV : Hid ((decide (kd = 2) || decide (kd = 3) || vecL (exL kids)) = vecL (exL kids)) := by show _ = _; simp [h2, h3]
 have e2 : (kd == 2) = false := by simp [h2]
 have e3 : (kd == 3) = false := by simp [h3]
 go_enter Tryz.func150, Tryz.ntmps150
 go_wp2_with fail
 have bel : Below w.heap.size w (w.alloc (.cells #[.int .i64 kd, .int .i64 n, .int .i64 rg, .string wd, .slice ma ml mc, .slice ba bl bc, .slice ka kl kc] 41)) := (Below.refl _ _).alloc (Nat.le_refl _) _
 refine (vcont_any kids ih ka kl kc _ (hK.below bel) HK.out lK (hL.below bel)).mono ?_
 rintro e w1 ⟨rfl, b1⟩
 go_wp2
 go_ret
 exact ⟨ret_bool (a := vecL (exL kids)) HV.out.symm, bel.trans (b1.mono bel.size)⟩
end Go.Proofs.YtoldmigappbjcaaGreatDoor
namespace Go.GrainU
open Go.RowKit
theorem vecL_one {l : List ET} (h : l.length = 1) (h0 : 0 < l.length) : vecL (exL l) = vec (l[0]).ex := by
 match l, h with
 | [x], _ => simp [exL, vecL]
theorem typL_end {l : List ET} {k : Nat} (hk : k = l.length) (h : typL (exL (l.take k)) = 0) : typL (exL l) = 0 := by
 rw [hk, List.take_length] at h; exact h
theorem seven_cells {w : World} {B : Nat} {x0 x1 x2 x3 x4 x5 x6 : Value} {t : TypeId} (h : w.heap[B]? = some (.cells #[x0, x1, x2, x3, x4, x5, x6] t (0, 0))) :
  w.cell? ⟨B, 0, none⟩ = some x0 ∧ w.cell? ⟨B, 1, none⟩ = some x1 ∧ w.cell? ⟨B, 2, none⟩ = some x2 ∧ w.cell? ⟨B, 3, none⟩ = some x3 ∧ w.cell? ⟨B, 4, none⟩ = some x4 ∧ w.cell? ⟨B, 5, none⟩ = some x5 ∧ w.cell? ⟨B, 6, none⟩ = some x6 := by
 simp [World.cell?, h]
end Go.GrainU
namespace Go.Proofs.YtoldmigappbjcaaGreatDoor
open Go.RowKit Go.GrainU
set_option maxHeartbeats 2000000 in
theorem ptyped_any : ∀ t : ET, ∀ w : World, t.In w →
  Calls Tryz.prog 109 #[eval t] w fun e w' => e = .returned (.int .i64 (typ t.ex)) ∧ Below w.heap.size w w' := by
 refine ET.ind ?_
 intro h s kids ih w hin
 obtain ⟨kd, n, rg, wd, ms, bs⟩ := h
 obtain ⟨ma, mc, ba, bc, ka, kc⟩ := s
 simp only [ET.In] at hin
 obtain ⟨⟨_, _, hK⟩, ⟨_, _, lK, _⟩, hL⟩ := hin
 rw [typ_of]
 show Calls Tryz.prog _ #[.agg #[.int .i64 kd, .int .i64 n, .int .i64 rg, .string wd, .slice ma ms.length mc, .slice ba bs.length bc, .slice ka kids.length kc]] w _
 generalize ms.length = ml
 generalize bs.length = bl
 obtain ⟨kl, hkl⟩ : ∃ x, x = kids.length := ⟨_, rfl⟩
 rw [← hkl] at lK ⊢
 have HK := hide hkl
 clear hkl
 have bel0 : Below w.heap.size w (w.alloc (.cells #[.int .i64 kd, .int .i64 n, .int .i64 rg, .string wd, .slice ma ml mc, .slice ba bl bc, .slice ka kl kc] 41)) := (Below.refl _ _).alloc (Nat.le_refl _) _
 have F0 : (w.alloc (.cells #[.int .i64 kd, .int .i64 n, .int .i64 rg, .string wd, .slice ma ml mc, .slice ba bl bc, .slice ka kl kc] 41)).heap[w.heap.size]? = some (.cells #[.int .i64 kd, .int .i64 n, .int .i64 rg, .string wd, .slice ma ml mc, .slice ba bl bc, .slice ka kl kc] 41 (0, 0)) := heap_alloc_new w _
 have HF0 := hide F0
 have HB0 := hide bel0
 clear F0 bel0
 obtain ⟨R, hR⟩ : ∃ R, R = if kd = 3 ∧ kl = 1 ∧ vecL (exL kids) = false then (8 : Int) else typL (exL kids) := ⟨_, rfl⟩
 rw [← hR]
 have HR := hide hR
 clear hR
 by_cases hA : kd = 3 ∧ kl = 1
 ·obtain ⟨rfl, rfl⟩ := hA
  have h0 : 0 < kids.length := by have := HK.out; omega
  have HO : Hid (vecL (exL kids) = vec (kids[0]).ex) := vecL_one HK.out.symm h0
  obtain ⟨b0, off0, rfl, hbl0, hcell0⟩ := seg_expr hK h0
  obtain ⟨t0, ht0⟩ : ∃ t, t = kids[0] := ⟨_, rfl⟩
  have hc := (hcell0 0 h0).below HB0.out
  rw [← ht0] at hc
  simp only [Nat.zero_mul, Nat.add_zero] at hc
  have hmem0 : t0 ∈ kids := by rw [ht0]; exact List.getElem_mem h0
  have HT0 := hide (inL_mem hL t0 hmem0)
  have Ht0 := hide ht0
  clear ht0 hcell0
  obtain ⟨c0, c1, c2, c3, c4, c5, c6⟩ := hc
  go_enter Tryz.func109, Tryz.ntmps109
  go_wp2_with fail
  refine (pvector_any t0 _ (ET.In.below HB0.out t0 HT0.out)).mono ?_
  rintro e w2 ⟨rfl, b2⟩
  have belA : Below w.heap.size w w2 := HB0.out.trans (b2.mono HB0.out.size)
  have F2 : w2.heap[w.heap.size]? = _ := below_block b2 HF0.out
  obtain ⟨p0, p1, p2, p3, p4, p5, p6⟩ := seven_cells F2
  clear F2 b2 c0 c1 c2 c3 c4 c5 c6
  obtain ⟨V, hV⟩ : ∃ V, V = vec t0.ex := ⟨_, rfl⟩
  rw [← hV]
  have HVe := hide hV
  clear hV
  cases V with
  | false =>
   go_wp2
   go_ret
   exact ⟨ret_int (a := 8) (by rw [HR.out, if_pos ⟨by trivial, by trivial, by rw [HO.out, ← Ht0.out, ← HVe.out]⟩]), belA⟩
  | true =>
   have HV : Hid (R = typL (exL kids)) := by
    show _ = _
    rw [HR.out, if_neg]
    intro hh
    rw [HO.out, ← Ht0.out, ← HVe.out] at hh
    simp at hh
   go_wp2
   go_loopw [26] (fun i wr => ∃ k : Nat, k ≤ 1 ∧ i = .int .i64 k ∧ Hid (typL (exL (kids.take k)) = 0) ∧ Below w.heap.size w wr) (fun i _ => 1 - (intOf i).toNat)
   case atStart => exact ⟨0, Nat.zero_le _, rfl, by show _ = _; simp [exL, typL], belA⟩
   case round =>
    obtain ⟨k, hk, rfl, HJ, bel⟩ := hrel
    by_cases hlt : k < 1
    ·have hkl : k < kids.length := by rw [← HK.out]; exact hlt
     obtain ⟨b, off, hao, hbl, hcell⟩ := seg_expr hK hkl
     obtain ⟨rfl, rfl⟩ : b = b0 ∧ off = off0 := by simpa [eq_comm] using hao
     obtain ⟨t, ht⟩ : ∃ t, t = kids[k] := ⟨_, rfl⟩
     have hc := (hcell k hkl).below bel
     rw [← ht] at hc
     have hmem : t ∈ kids := by rw [ht]; exact List.getElem_mem hkl
     have HT := hide (inL_mem hL t hmem)
     have Ht := hide ht
     clear ht hcell hK
     obtain ⟨c0, c1, c2, c3, c4, c5, c6⟩ := hc
     go_wp2_with fail
     have belW : Below w.heap.size w (wr.alloc (.cells #[.int .i64 t.hd.kind, .int .i64 t.hd.n, .int .i64 t.hd.range, .string t.hd.word, .slice t.sp.ma t.hd.ms.length t.sp.mc, .slice t.sp.ba t.hd.bs.length t.sp.bc, .slice t.sp.ka t.kids.length t.sp.kc] 41)) := bel.alloc bel.size _
     refine (ih t hmem _ (ET.In.below belW t HT.out)).mono ?_
     rintro e w1 ⟨rfl, b1⟩
     have bel1 : Below w.heap.size w w1 := belW.trans (b1.mono belW.size)
     obtain ⟨D, hD⟩ : ∃ D, D = typ t.ex := ⟨_, rfl⟩
     rw [← hD]
     have HD := hide hD
     clear hD
     by_cases hD0 : D = 0
     ·have HJ' : Hid (typL (exL (kids.take (k + 1))) = 0) := typL_take hkl HJ.out (by rw [← Ht.out, ← HD.out]; exact hD0)
      have eD : (D == 0) = true := by simp [hD0]
      clear hD0
      go_wp2
      go_roundw
      case rel => exact ⟨k + 1, by omega, by go_num, HJ', bel1⟩
      case measure => simp [intOf]; omega
     ·have eD : (D == 0) = false := by simp [hD0]
      go_wp2
      go_ret
      exact ⟨ret_int (a := D) (by rw [HV.out, typL_at hkl HJ.out (by rw [← Ht.out, ← HD.out]; exact hD0), ← Ht.out]; exact HD.out), bel1⟩
    ·go_wp2
     go_ret
     exact ⟨ret_int (a := 0) (by rw [HV.out, typL_end (by have := HK.out; omega) HJ.out]), bel⟩
 ·have HV : Hid (R = typL (exL kids)) := by
   show _ = _
   rw [HR.out, if_neg]
   intro hh
   exact hA ⟨hh.1, hh.2.1⟩
  have bel0 := HB0.out
  by_cases h3 : kd = 3
  ·subst h3
   have e1 : ((kl : Int) == 1) = false := by rw [beq_eq_false_iff_ne]; intro h; exact hA ⟨rfl, by omega⟩
   clear hA
   go_enter Tryz.func109, Tryz.ntmps109
   go_wp2
   go_loopw [26] (fun i wr => ∃ k : Nat, k ≤ kl ∧ i = .int .i64 k ∧ Hid (typL (exL (kids.take k)) = 0) ∧ Below w.heap.size w wr) (fun i _ => kl - (intOf i).toNat)
   case atStart => exact ⟨0, Nat.zero_le _, rfl, by show _ = _; simp [exL, typL], bel0⟩
   case round =>
    obtain ⟨k, hk, rfl, HJ, bel⟩ := hrel
    by_cases hlt : k < kl
    ·have hkl : k < kids.length := by rw [← HK.out]; exact hlt
     obtain ⟨b, off, rfl, hbl, hcell⟩ := seg_expr hK hkl
     obtain ⟨t, ht⟩ : ∃ t, t = kids[k] := ⟨_, rfl⟩
     have hc := (hcell k hkl).below bel
     rw [← ht] at hc
     have hmem : t ∈ kids := by rw [ht]; exact List.getElem_mem hkl
     have HT := hide (inL_mem hL t hmem)
     have Ht := hide ht
     clear ht hcell hK
     obtain ⟨c0, c1, c2, c3, c4, c5, c6⟩ := hc
     go_wp2_with fail
     have belW : Below w.heap.size w (wr.alloc (.cells #[.int .i64 t.hd.kind, .int .i64 t.hd.n, .int .i64 t.hd.range, .string t.hd.word, .slice t.sp.ma t.hd.ms.length t.sp.mc, .slice t.sp.ba t.hd.bs.length t.sp.bc, .slice t.sp.ka t.kids.length t.sp.kc] 41)) := bel.alloc bel.size _
     refine (ih t hmem _ (ET.In.below belW t HT.out)).mono ?_
     rintro e w1 ⟨rfl, b1⟩
     have bel1 : Below w.heap.size w w1 := belW.trans (b1.mono belW.size)
     obtain ⟨D, hD⟩ : ∃ D, D = typ t.ex := ⟨_, rfl⟩
     rw [← hD]
     have HD := hide hD
     clear hD
     by_cases hD0 : D = 0
     ·have HJ' : Hid (typL (exL (kids.take (k + 1))) = 0) := typL_take hkl HJ.out (by rw [← Ht.out, ← HD.out]; exact hD0)
      have eD : (D == 0) = true := by simp [hD0]
      clear hD0
      go_wp2
      go_roundw
      case rel => exact ⟨k + 1, by omega, by go_num, HJ', bel1⟩
      case measure => simp [intOf]; omega
     ·have eD : (D == 0) = false := by simp [hD0]
      go_wp2
      go_ret
      exact ⟨ret_int (a := D) (by rw [HV.out, typL_at hkl HJ.out (by rw [← Ht.out, ← HD.out]; exact hD0), ← Ht.out]; exact HD.out), bel1⟩
    ·go_wp2
     go_ret
     exact ⟨ret_int (a := 0) (by rw [HV.out, typL_end (by have := HK.out; omega) HJ.out]), bel⟩
  ·have e3 : (kd == 3) = false := by simp [h3]
   clear hA
   go_enter Tryz.func109, Tryz.ntmps109
   go_wp2
   go_loopw [26] (fun i wr => ∃ k : Nat, k ≤ kl ∧ i = .int .i64 k ∧ Hid (typL (exL (kids.take k)) = 0) ∧ Below w.heap.size w wr) (fun i _ => kl - (intOf i).toNat)
   case atStart => exact ⟨0, Nat.zero_le _, rfl, by show _ = _; simp [exL, typL], bel0⟩
   case round =>
    obtain ⟨k, hk, rfl, HJ, bel⟩ := hrel
    by_cases hlt : k < kl
    ·have hkl : k < kids.length := by rw [← HK.out]; exact hlt
     obtain ⟨b, off, rfl, hbl, hcell⟩ := seg_expr hK hkl
     obtain ⟨t, ht⟩ : ∃ t, t = kids[k] := ⟨_, rfl⟩
     have hc := (hcell k hkl).below bel
     rw [← ht] at hc
     have hmem : t ∈ kids := by rw [ht]; exact List.getElem_mem hkl
     have HT := hide (inL_mem hL t hmem)
     have Ht := hide ht
     clear ht hcell hK
     obtain ⟨c0, c1, c2, c3, c4, c5, c6⟩ := hc
     go_wp2_with fail
     have belW : Below w.heap.size w (wr.alloc (.cells #[.int .i64 t.hd.kind, .int .i64 t.hd.n, .int .i64 t.hd.range, .string t.hd.word, .slice t.sp.ma t.hd.ms.length t.sp.mc, .slice t.sp.ba t.hd.bs.length t.sp.bc, .slice t.sp.ka t.kids.length t.sp.kc] 41)) := bel.alloc bel.size _
     refine (ih t hmem _ (ET.In.below belW t HT.out)).mono ?_
     rintro e w1 ⟨rfl, b1⟩
     have bel1 : Below w.heap.size w w1 := belW.trans (b1.mono belW.size)
     obtain ⟨D, hD⟩ : ∃ D, D = typ t.ex := ⟨_, rfl⟩
     rw [← hD]
     have HD := hide hD
     clear hD
     by_cases hD0 : D = 0
     ·have HJ' : Hid (typL (exL (kids.take (k + 1))) = 0) := typL_take hkl HJ.out (by rw [← Ht.out, ← HD.out]; exact hD0)
      have eD : (D == 0) = true := by simp [hD0]
      clear hD0
      go_wp2
      go_roundw
      case rel => exact ⟨k + 1, by omega, by go_num, HJ', bel1⟩
      case measure => simp [intOf]; omega
     ·have eD : (D == 0) = false := by simp [hD0]
      go_wp2
      go_ret
      exact ⟨ret_int (a := D) (by rw [HV.out, typL_at hkl HJ.out (by rw [← Ht.out, ← HD.out]; exact hD0), ← Ht.out]; exact HD.out), bel1⟩
    ·go_wp2
     go_ret
     exact ⟨ret_int (a := 0) (by rw [HV.out, typL_end (by have := HK.out; omega) HJ.out]), bel⟩
end Go.Proofs.YtoldmigappbjcaaGreatDoor
