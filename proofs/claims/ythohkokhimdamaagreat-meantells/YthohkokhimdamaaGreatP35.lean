/-
  The walk of SameSeries.
-/
import Derived.Test.YthohkokhimdamaaGreatP33
import Derived.Test.YthohkokhimdamaaGreatP34
import Derived.Test.YthohkokhimdamaaGreatRows
import Derived.Test.YthohkokhimdamaaGreatP03
/-
  The walks of the document's Check, Big, Op.
-/
namespace Go.GrainU
open Go.RowKit

theorem opR_plus (a b : Int) : opR (lit [43]) a b = (a + b, !big (a + b)) := by rw [opR, if_pos rfl]
theorem opR_minus (a b : Int) : opR (lit [45]) a b = (a - b, !big (a - b)) := by rw [opR, if_neg (by decide), if_pos rfl]
theorem opR_times {x : ByteArray} (h1 : x ≠ lit [43]) (h2 : x ≠ lit [45]) (a b : Int) : opR x a b = if 0 < max b (-b) ∧ MC / max b (-b) < max a (-a) then (0, false) else (a * b, true) := by rw [opR, if_neg h1, if_neg h2]

theorem opR_in {a b : Int} (hb : -MC ≤ b ∧ b ≤ MC) (h : ¬ (0 < max b (-b) ∧ MC / max b (-b) < max a (-a))) : -MC ≤ a * b ∧ a * b ≤ MC := by
  refine mul_bd (fun h3 => h ?_) hb
  have h0 : max a (-a) ≠ 0 := by omega
  exact (times_alike (X := max a (-a)) (Y := max b (-b)) (by omega) (by omega)).1 ⟨h0, h3.2⟩

end Go.GrainU
namespace Go.Proofs.YthohkokhimdamaaGreat
open Go.RowKit Go.GrainU

set_option maxRecDepth 100000 in
set_option maxHeartbeats 1000000 in
theorem rcheck_any (t : ET) (time : Int) (w : World) (hin : t.In w) :
    Calls Tryz.prog 10 #[eval t, .int .i64 time] w fun e w' => e = .returned (.int .i64 (chk t.ex time)) ∧ Below w.heap.size w w' := by
  have P3 := hide (rwrong_any t)
  have P7 := hide (rtyped_any t)
  obtain ⟨R, hR⟩ : ∃ R, R = chk t.ex time := ⟨_, rfl⟩
  have HR0 : Hid (R = if (wr t.ex 1 0).1 = 0 then (if typ t.ex = 0 then (if time < 0 ∨ 1000000 < time then 3 else 0) else typ t.ex) else (wr t.ex 1 0).1) := hR
  rw [← hR]
  clear hR
  generalize (wr t.ex 1 0).1 = E at P3 HR0
  generalize typ t.ex = U at P7 HR0
  unfold eval at P3 P7 ⊢
  generalize t.hd.ms.length = ml at *
  generalize t.hd.bs.length = bl at *
  generalize t.kids.length = kl at *
  obtain ⟨W, hW⟩ : ∃ W, W = w.alloc (.cells #[.int .i64 t.hd.kind, .int .i64 t.hd.n, .int .i64 t.hd.range, .string t.hd.word, .slice t.sp.ma ml t.sp.mc, .slice t.sp.ba bl t.sp.bc, .slice t.sp.ka kl t.sp.kc] 27) := ⟨_, rfl⟩
  have bel0 : Below w.heap.size w W := by rw [hW]; exact (Below.refl _ _).alloc (Nat.le_refl _) _
  have F0 : W.heap[w.heap.size]? = some (.cells #[.int .i64 t.hd.kind, .int .i64 t.hd.n, .int .i64 t.hd.range, .string t.hd.word, .slice t.sp.ma ml t.sp.mc, .slice t.sp.ba bl t.sp.bc, .slice t.sp.ka kl t.sp.kc] 27 (0, 0)) := by rw [hW]; exact heap_alloc_new w _
  have HIN := hide (ET.In.below bel0 t hin)
  have HW := hide hW
  clear hW hin
  go_enter Tryz.func10, Tryz.ntmps10
  go_wp2_with fail
  rw [← HW.out]
  refine (P3.out W HIN.out).mono ?_
  rintro e w1 ⟨rfl, b1⟩
  by_cases h0 : E = 0
  · have HR1 : Hid (R = if U = 0 then (if time < 0 ∨ 1000000 < time then 3 else 0) else U) := by show _ = _; rw [HR0.out, if_pos h0]
    subst h0
    clear HR0
    obtain ⟨p0, p1, p2, p3, p4, p5, p6⟩ := seven_cells (below_block b1 F0)
    go_wp2_with fail
    refine (P7.out w1 (ET.In.below b1 t HIN.out)).mono ?_
    rintro e w2 ⟨rfl, b2⟩
    have b3 : Below w.heap.size w w2 := bel0.trans ((below_step b2 b1).mono bel0.size)
    by_cases h1 : U = 0
    · have HR2 : Hid (R = if time < 0 ∨ 1000000 < time then 3 else 0) := by show _ = _; rw [HR1.out, if_pos h1]
      subst h1
      clear HR1 p0 p1 p2 p3 p4 p5 p6 b1 b2
      go_wp2
      all_goals
        go_ret
        first
          | exact ⟨ret_int (by rw [HR2.out, if_pos (by omega)]), b3⟩
          | exact ⟨ret_int (by rw [HR2.out, if_neg (by omega)]), b3⟩
    · have HR2 : Hid (R = U) := by show _ = _; rw [HR1.out, if_neg h1]
      have hd : (U != 0) = true := by simpa using h1
      clear h1 HR1 p0 p1 p2 p3 p4 p5 p6 b1 b2
      go_wp2
      go_ret
      exact ⟨ret_int HR2.out.symm, b3⟩
  · have HR1 : Hid (R = E) := by show _ = _; rw [HR0.out, if_neg h0]
    have hd : (E != 0) = true := by simpa using h0
    clear h0 HR0
    go_wp2
    go_ret
    exact ⟨ret_int HR1.out.symm, bel0.trans (b1.mono bel0.size)⟩


theorem rbig_any (v : Int) (w : World) :
    Calls Tryz.prog 61 #[.int .i64 v] w fun e w' => e = .returned (.bool (big v)) ∧ w' = w := by
  cases hb : big v
  · have := big_false hb
    have h1 : decide (1125899906842624 < v) = false := by simp; unfold MC at this; omega
    have h2 : decide (v < -1125899906842624) = false := by simp; unfold MC at this; omega
    clear this hb
    go_enter Tryz.func61, Tryz.ntmps61
    go_wp2
    go_ret
    exact ⟨rfl, rfl⟩
  · have := of_decide_eq_true hb
    unfold MC at this
    clear hb
    by_cases hc : 1125899906842624 < v
    · clear this
      go_enter Tryz.func61, Tryz.ntmps61
      go_wp2
      go_ret
      exact ⟨rfl, rfl⟩
    · have h2 : v < -1125899906842624 := by omega
      clear this
      go_enter Tryz.func61, Tryz.ntmps61
      go_wp2
      go_ret
      exact ⟨rfl, rfl⟩

set_option maxHeartbeats 1000000 in
theorem rop_any (x : ByteArray) (a b : Int) (w : World) (ha : -MC ≤ a ∧ a ≤ MC) (hb : -MC ≤ b ∧ b ≤ MC) :
    Calls Tryz.prog 41 #[.string x, .int .i64 a, .int .i64 b] w fun e w' => e = .returned (.tuple #[.int .i64 (opR x a b).1, .bool (opR x a b).2]) ∧ w' = w := by
  by_cases h1 : x = lit [43]
  · rw [h1, opR_plus]
    unfold MC at ha hb
    have hw : IntKind.i64.wrap (a + b) = a + b := by rw [IntKind.wrap_i64]; omega
    obtain ⟨B, hB⟩ : ∃ B, B = big (a + b) := ⟨_, rfl⟩
    rw [← hB]
    have HB := hide hB
    clear hB h1 ha hb
    show Calls Tryz.prog 41 #[.string ⟨#[43]⟩, .int .i64 a, .int .i64 b] w _
    go_enter Tryz.func41, Tryz.ntmps41
    go_wp2_with fail
    refine (rbig_any _ w).mono ?_
    intro e w1 hh
    rw [hh.1, hh.2, ← HB.out]
    clear hh
    go_wp2
    go_ret2
    exact ⟨rfl, rfl⟩
  by_cases h2 : x = lit [45]
  · rw [h2, opR_minus]
    unfold MC at ha hb
    have hw : IntKind.i64.wrap (a - b) = a - b := by rw [IntKind.wrap_i64]; omega
    obtain ⟨B, hB⟩ : ∃ B, B = big (a - b) := ⟨_, rfl⟩
    rw [← hB]
    have HB := hide hB
    clear hB h1 h2 ha hb
    show Calls Tryz.prog 41 #[.string ⟨#[45]⟩, .int .i64 a, .int .i64 b] w _
    go_enter Tryz.func41, Tryz.ntmps41
    go_wp2_with fail
    refine (rbig_any _ w).mono ?_
    intro e w1 hh
    rw [hh.1, hh.2, ← HB.out]
    clear hh
    go_wp2
    go_ret2
    exact ⟨rfl, rfl⟩
  have q1 := list_ne2 h1
  have q2 := list_ne2 h2
  have mb : Hid (¬ (0 < max b (-b) ∧ MC / max b (-b) < max a (-a)) → IntKind.i64.wrap (a * b) = a * b) := fun h => by
    have := opR_in hb h
    unfold MC at this
    rw [IntKind.wrap_i64]; omega
  obtain ⟨R, hR⟩ : ∃ R, R = opR x a b := ⟨_, rfl⟩
  rw [← hR]
  rw [opR_times h1 h2] at hR
  have HR := hide hR
  clear hR h1 h2
  unfold MC at ha hb HR mb
  have n1 : IntKind.i64.wrap (-a) = -a := by rw [IntKind.wrap_i64]; omega
  have n2 : IntKind.i64.wrap (-b) = -b := by rw [IntKind.wrap_i64]; omega
  by_cases sx : a < 0 ∧ b < 0
  · obtain ⟨sa, sb⟩ := sx
    have eA : max a (-a) = -a := by omega
    have eB : max b (-b) = -b := by omega
    rw [eA, eB] at HR mb
    by_cases h0 : 0 < -b
    · have hz : ¬ (-b = 0) := by omega
      have hz2 : (-b == 0) = false := by simp; omega
      have hz3 : (b == 0) = false := by simp; omega
      obtain ⟨Q, hQ⟩ : ∃ Q : Int, Q = 1125899906842624 / (-b) := ⟨_, rfl⟩
      have hQ0 : 0 ≤ Q ∧ Q ≤ 1125899906842624 := by
        rw [hQ]
        exact ⟨Int.ediv_nonneg (by omega) (by omega), Int.ediv_le_self _ (by omega)⟩
      have e3 : IntKind.i64.wrap (1125899906842624 / (-b)) = Q := by rw [← hQ, IntKind.wrap_i64]; omega
      have e4 : IntKind.i64.wrap (Int.tdiv 1125899906842624 (-b)) = Q := by rw [Int.tdiv_eq_ediv_of_nonneg (by omega)]; exact e3
      have e7 : IntKind.i64.wrap Q = Q := by rw [IntKind.wrap_i64]; omega
      have e5 : (1125899906842624 : Int) / (-b) = Q := hQ.symm
      have e6 : Int.tdiv 1125899906842624 (-b) = Q := by rw [Int.tdiv_eq_ediv_of_nonneg (by omega)]; exact e5
      rw [← hQ] at HR mb
      have HQ0 := hide hQ0
      clear hQ hQ0 eA eB ha hb
      by_cases hc : Q < -a
      · have HR2 : Hid (R = (0, false)) := by show _ = _; rw [HR.out, if_pos ⟨h0, hc⟩]
        clear mb HR
        go_enter Tryz.func41, Tryz.ntmps41
        go_wp2
        go_ret2
        exact ⟨by rw [HR2.out]; rfl, rfl⟩
      · have HR2 : Hid (R = (a * b, true)) := by show _ = _; rw [HR.out, if_neg (fun h => hc h.2)]
        have hm := mb.out (fun h => hc h.2)
        clear mb HR
        go_enter Tryz.func41, Tryz.ntmps41
        go_wp2
        go_ret2
        exact ⟨by rw [HR2.out]; rfl, rfl⟩
    · exfalso
      omega
  by_cases sy : a < 0 ∧ ¬ b < 0
  · obtain ⟨sa, sb⟩ := sy
    have eA : max a (-a) = -a := by omega
    have eB : max b (-b) = b := by omega
    rw [eA, eB] at HR mb
    by_cases h0 : 0 < b
    · have hz : ¬ (b = 0) := by omega
      have hz2 : (b == 0) = false := by simp; omega
      have hz3 : (b == 0) = false := by simp; omega
      obtain ⟨Q, hQ⟩ : ∃ Q : Int, Q = 1125899906842624 / (b) := ⟨_, rfl⟩
      have hQ0 : 0 ≤ Q ∧ Q ≤ 1125899906842624 := by
        rw [hQ]
        exact ⟨Int.ediv_nonneg (by omega) (by omega), Int.ediv_le_self _ (by omega)⟩
      have e3 : IntKind.i64.wrap (1125899906842624 / (b)) = Q := by rw [← hQ, IntKind.wrap_i64]; omega
      have e4 : IntKind.i64.wrap (Int.tdiv 1125899906842624 (b)) = Q := by rw [Int.tdiv_eq_ediv_of_nonneg (by omega)]; exact e3
      have e7 : IntKind.i64.wrap Q = Q := by rw [IntKind.wrap_i64]; omega
      have e5 : (1125899906842624 : Int) / (b) = Q := hQ.symm
      have e6 : Int.tdiv 1125899906842624 (b) = Q := by rw [Int.tdiv_eq_ediv_of_nonneg (by omega)]; exact e5
      rw [← hQ] at HR mb
      have HQ0 := hide hQ0
      clear hQ hQ0 eA eB ha hb
      by_cases hc : Q < -a
      · have HR2 : Hid (R = (0, false)) := by show _ = _; rw [HR.out, if_pos ⟨h0, hc⟩]
        clear mb HR
        go_enter Tryz.func41, Tryz.ntmps41
        go_wp2
        go_ret2
        exact ⟨by rw [HR2.out]; rfl, rfl⟩
      · have HR2 : Hid (R = (a * b, true)) := by show _ = _; rw [HR.out, if_neg (fun h => hc h.2)]
        have hm := mb.out (fun h => hc h.2)
        clear mb HR
        go_enter Tryz.func41, Tryz.ntmps41
        go_wp2
        go_ret2
        exact ⟨by rw [HR2.out]; rfl, rfl⟩
    · have HR2 : Hid (R = (a * b, true)) := by show _ = _; rw [HR.out, if_neg (fun h => h0 h.1)]
      have hm := mb.out (fun h => h0 h.1)
      clear mb HR eA eB ha hb
      go_enter Tryz.func41, Tryz.ntmps41
      go_wp2
      go_ret2
      exact ⟨by rw [HR2.out]; rfl, rfl⟩
  by_cases sz : ¬ a < 0 ∧ b < 0
  · obtain ⟨sa, sb⟩ := sz
    have eA : max a (-a) = a := by omega
    have eB : max b (-b) = -b := by omega
    rw [eA, eB] at HR mb
    by_cases h0 : 0 < -b
    · have hz : ¬ (-b = 0) := by omega
      have hz2 : (-b == 0) = false := by simp; omega
      have hz3 : (b == 0) = false := by simp; omega
      obtain ⟨Q, hQ⟩ : ∃ Q : Int, Q = 1125899906842624 / (-b) := ⟨_, rfl⟩
      have hQ0 : 0 ≤ Q ∧ Q ≤ 1125899906842624 := by
        rw [hQ]
        exact ⟨Int.ediv_nonneg (by omega) (by omega), Int.ediv_le_self _ (by omega)⟩
      have e3 : IntKind.i64.wrap (1125899906842624 / (-b)) = Q := by rw [← hQ, IntKind.wrap_i64]; omega
      have e4 : IntKind.i64.wrap (Int.tdiv 1125899906842624 (-b)) = Q := by rw [Int.tdiv_eq_ediv_of_nonneg (by omega)]; exact e3
      have e7 : IntKind.i64.wrap Q = Q := by rw [IntKind.wrap_i64]; omega
      have e5 : (1125899906842624 : Int) / (-b) = Q := hQ.symm
      have e6 : Int.tdiv 1125899906842624 (-b) = Q := by rw [Int.tdiv_eq_ediv_of_nonneg (by omega)]; exact e5
      rw [← hQ] at HR mb
      have HQ0 := hide hQ0
      clear hQ hQ0 eA eB ha hb
      by_cases hc : Q < a
      · have HR2 : Hid (R = (0, false)) := by show _ = _; rw [HR.out, if_pos ⟨h0, hc⟩]
        clear mb HR
        go_enter Tryz.func41, Tryz.ntmps41
        go_wp2
        go_ret2
        exact ⟨by rw [HR2.out]; rfl, rfl⟩
      · have HR2 : Hid (R = (a * b, true)) := by show _ = _; rw [HR.out, if_neg (fun h => hc h.2)]
        have hm := mb.out (fun h => hc h.2)
        clear mb HR
        go_enter Tryz.func41, Tryz.ntmps41
        go_wp2
        go_ret2
        exact ⟨by rw [HR2.out]; rfl, rfl⟩
    · exfalso
      omega
  by_cases su : ¬ a < 0 ∧ ¬ b < 0
  · obtain ⟨sa, sb⟩ := su
    have eA : max a (-a) = a := by omega
    have eB : max b (-b) = b := by omega
    rw [eA, eB] at HR mb
    by_cases h0 : 0 < b
    · have hz : ¬ (b = 0) := by omega
      have hz2 : (b == 0) = false := by simp; omega
      have hz3 : (b == 0) = false := by simp; omega
      obtain ⟨Q, hQ⟩ : ∃ Q : Int, Q = 1125899906842624 / (b) := ⟨_, rfl⟩
      have hQ0 : 0 ≤ Q ∧ Q ≤ 1125899906842624 := by
        rw [hQ]
        exact ⟨Int.ediv_nonneg (by omega) (by omega), Int.ediv_le_self _ (by omega)⟩
      have e3 : IntKind.i64.wrap (1125899906842624 / (b)) = Q := by rw [← hQ, IntKind.wrap_i64]; omega
      have e4 : IntKind.i64.wrap (Int.tdiv 1125899906842624 (b)) = Q := by rw [Int.tdiv_eq_ediv_of_nonneg (by omega)]; exact e3
      have e7 : IntKind.i64.wrap Q = Q := by rw [IntKind.wrap_i64]; omega
      have e5 : (1125899906842624 : Int) / (b) = Q := hQ.symm
      have e6 : Int.tdiv 1125899906842624 (b) = Q := by rw [Int.tdiv_eq_ediv_of_nonneg (by omega)]; exact e5
      rw [← hQ] at HR mb
      have HQ0 := hide hQ0
      clear hQ hQ0 eA eB ha hb
      by_cases hc : Q < a
      · have HR2 : Hid (R = (0, false)) := by show _ = _; rw [HR.out, if_pos ⟨h0, hc⟩]
        clear mb HR
        go_enter Tryz.func41, Tryz.ntmps41
        go_wp2
        go_ret2
        exact ⟨by rw [HR2.out]; rfl, rfl⟩
      · have HR2 : Hid (R = (a * b, true)) := by show _ = _; rw [HR.out, if_neg (fun h => hc h.2)]
        have hm := mb.out (fun h => hc h.2)
        clear mb HR
        go_enter Tryz.func41, Tryz.ntmps41
        go_wp2
        go_ret2
        exact ⟨by rw [HR2.out]; rfl, rfl⟩
    · have HR2 : Hid (R = (a * b, true)) := by show _ = _; rw [HR.out, if_neg (fun h => h0 h.1)]
      have hm := mb.out (fun h => h0 h.1)
      clear mb HR eA eB ha hb
      go_enter Tryz.func41, Tryz.ntmps41
      go_wp2
      go_ret2
      exact ⟨by rw [HR2.out]; rfl, rfl⟩
  exfalso
  omega

end Go.Proofs.YthohkokhimdamaaGreat

/-
  The walk of SameSeries.
-/
namespace Go.Proofs.YthohkokhimdamaaGreat
open Go.RowKit Go.GrainU

set_option maxHeartbeats 1000000 in
theorem sames_any (a b : List (ByteArray × ByteArray)) (ao bo : Option Addr) (n m c c' : Nat) (w : World) (ha : Seg w ao (lcells a)) (hb : Seg w bo (lcells b)) (hn : n = a.length) (hm : m = b.length) (hc : n ≤ 9223372036854775807) :
    Calls Tryz.prog 19 #[.slice ao n c, .slice bo m c'] w fun e w' => e = .returned (.bool (decide (a = b))) ∧ Below w.heap.size w w' := by
  have HN := hide hn
  have HM := hide hm
  clear hn hm
  by_cases hl : n = m
  · subst hl
    have hz : ((n : Int) != (n : Int)) = false := by simp
    go_enter Tryz.func19, Tryz.ntmps19
    go_wp2
    go_loopw [13] (fun i wr => ∃ (k : Nat), k ≤ n ∧ i = .int .i64 k ∧ Hid (a.take k = b.take k) ∧ Below w.heap.size w wr) (fun i _ => n - (intOf i).toNat)
    case atStart => exact ⟨0, Nat.zero_le _, rfl, rfl, Below.refl _ _⟩
    case round =>
      obtain ⟨k, hk, rfl, HT, bel⟩ := hrel
      by_cases hlt : k < n
      · have h1 : k < a.length := by rw [← HN.out]; exact hlt
        have h2 : k < b.length := by rw [← HM.out]; exact hlt
        obtain ⟨p, off, rfl, hbl, hcell⟩ := seg_label ha h1
        obtain ⟨p', off', rfl, hbl', hcell'⟩ := seg_label hb h2
        obtain ⟨x, hx⟩ : ∃ x, x = lk a k := ⟨_, rfl⟩
        obtain ⟨y, hy⟩ : ∃ y, y = lv a k := ⟨_, rfl⟩
        obtain ⟨x', hx'⟩ : ∃ x, x = lk b k := ⟨_, rfl⟩
        obtain ⟨y', hy'⟩ : ∃ y, y = lv b k := ⟨_, rfl⟩
        have c0 : wr.cell? ⟨p, off + k * 2, none⟩ = some (.string x) := by rw [hx]; exact (bel.cell (by exact hbl)).trans (hcell k h1).1
        have c1 : wr.cell? ⟨p, off + k * 2 + 1, none⟩ = some (.string y) := by rw [hy]; exact (bel.cell (by exact hbl)).trans (hcell k h1).2
        have d0 : wr.cell? ⟨p', off' + k * 2, none⟩ = some (.string x') := by rw [hx']; exact (bel.cell (by exact hbl')).trans (hcell' k h2).1
        have d1 : wr.cell? ⟨p', off' + k * 2 + 1, none⟩ = some (.string y') := by rw [hy']; exact (bel.cell (by exact hbl')).trans (hcell' k h2).2
        clear hcell hcell'
        have HA := take_lab h1
        have HB := take_lab h2
        rw [← hx, ← hy] at HA
        rw [← hx', ← hy'] at HB
        have HA' := hide HA
        have HB' := hide HB
        have NO : Hid ((x, y) ≠ (x', y') → decide (a = b) = false) := by
          intro hne
          have : a ≠ b := by
            intro e
            have e2 := congrArg (List.take (k + 1)) e
            rw [HA'.out, HB'.out] at e2
            have e3 := (List.append_inj' e2 rfl).2
            simp at e3
            exact hne (by rw [e3.1, e3.2])
          simpa using this
        clear HA HB h1 h2 hx hy hx' hy'
        by_cases e1 : x = x'
        · subst e1
          obtain ⟨v1, v2⟩ := word_self x
          by_cases e2 : y = y'
          · subst e2
            obtain ⟨v3, v4⟩ := word_self y
            have HT' : Hid (a.take (k + 1) = b.take (k + 1)) := by
              show a.take (k + 1) = b.take (k + 1)
              rw [HA'.out, HB'.out, HT.out]
            clear HA' HB' HT NO
            go_wp2
            go_quiet (fail)
            go_wp2
            go_roundw
            case rel => exact ⟨k + 1, by omega, by go_num, HT', below_drewN bel _⟩
            case measure => simp [intOf]; omega
          · obtain ⟨v3, v4⟩ := word_ne e2
            have NN := hide (NO.out (by intro h; simp at h; exact e2 h))
            clear HA' HB' HT NO e2
            go_wp2
            go_quiet (fail)
            go_wp2
            go_ret
            exact ⟨ret_bool NN.out.symm, below_drewN bel _⟩
        · obtain ⟨v1, v2⟩ := word_ne e1
          have NN := hide (NO.out (by intro h; simp at h; exact e1 h.1))
          clear HA' HB' HT NO e1
          go_wp2
          go_quiet (fail)
          go_wp2
          go_ret
          exact ⟨ret_bool NN.out.symm, below_drewN bel _⟩
      · have he : k = n := by omega
        subst he
        have hab : a = b := by
          have := HT.out
          rwa [List.take_of_length_le (by rw [← HN.out]; omega), List.take_of_length_le (by rw [← HM.out]; omega)] at this
        clear HT
        go_wp2
        go_ret
        exact ⟨ret_bool (by simp [hab]), bel⟩
  · have hz : ((n : Int) != (m : Int)) = true := by simp; omega
    have hab : Hid (decide (a = b) = false) := by
      show decide (a = b) = false
      have : a ≠ b := by
        intro e
        apply hl
        rw [HN.out, HM.out, e]
      simpa using this
    clear hl
    go_enter Tryz.func19, Tryz.ntmps19
    go_wp2
    go_ret
    exact ⟨ret_bool hab.out.symm, Below.refl _ _⟩

end Go.Proofs.YthohkokhimdamaaGreat
