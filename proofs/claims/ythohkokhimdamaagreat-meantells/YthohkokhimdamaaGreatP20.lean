/-
  The walks of meaning's at.
-/
import Derived.Test.YthohkokhimdamaaGreatP13
import Derived.Test.YthohkokhimdamaaGreatP19
import Derived.Laws.Small
/-
  The walks of mean's bounded, together, worked, Check.
-/
namespace Go.GrainU
open Go.RowKit

theorem list_ne2 {x : ByteArray} {l : List UInt8} (h : ¬ x = lit l) : (x.toList == l) = false := by
  have := (word_ne h).2
  rw [show (lit l).toList = l from ByteArray.toList_mk l] at this
  exact this

/-- the value, and the error, of what may be too great -/
def ov (o : Option Int) : Int := match o with | some v => v | none => 0
def oe (o : Option Int) : Int := match o with | some _ => 0 | none => 3

def bnd (v : Int) : Option Int := if big v = true then none else some v

theorem wkd_plus (a b : Int) : wkd (lit [43]) a b = bnd (a + b) := by simp [wkd, bnd]
theorem lit_43_45 : ¬ lit [45] = lit [43] := by decide
theorem wkd_minus (a b : Int) : wkd (lit [45]) a b = bnd (a - b) := by simp [wkd, bnd, lit_43_45]

theorem big_false {v : Int} (h : big v = false) : -MC ≤ v ∧ v ≤ MC := by
  unfold big at h
  have := of_decide_eq_false h
  omega

theorem wkd_times {s : ByteArray} {a b : Int} (h1 : ¬ s = lit [43]) (h2 : ¬ s = lit [45]) : wkd s a b = if a ≠ 0 ∧ MC / (max a (-a)) < max b (-b) then none else some (a * b) := by
  simp [wkd, h1, h2]

/-- a product that isn't too great is a cell's value -/
theorem mul_bd {a b : Int} (h : ¬ (a ≠ 0 ∧ MC / (max a (-a)) < max b (-b))) (hb : -MC ≤ b ∧ b ≤ MC) : -MC ≤ a * b ∧ a * b ≤ MC := by
  by_cases h0 : a = 0
  · subst h0; simp [MC]
  · have h1 : max b (-b) ≤ MC / (max a (-a)) := by
      rcases Int.lt_or_le (MC / (max a (-a))) (max b (-b)) with h2 | h2
      · exact absurd ⟨h0, h2⟩ h
      · exact h2
    have hp : 0 < max a (-a) := by omega
    have h3 : max b (-b) * max a (-a) ≤ MC := (Int.le_ediv_iff_mul_le hp).1 h1
    have h4 : (max b (-b)) * (max a (-a)) = max (a * b) (-(a * b)) := by
      rcases Int.le_total 0 a with ha | ha <;> rcases Int.le_total 0 b with hb' | hb'
      · have := Int.mul_nonneg ha hb'
        rw [show max a (-a) = a by omega, show max b (-b) = b by omega, Int.mul_comm b a]; omega
      · have := Int.mul_nonneg ha (show 0 ≤ -b by omega)
        rw [Int.mul_neg] at this
        rw [show max a (-a) = a by omega, show max b (-b) = -b by omega, Int.neg_mul, Int.mul_comm b a]; omega
      · have := Int.mul_nonneg (show 0 ≤ -a by omega) hb'
        rw [Int.neg_mul] at this
        rw [show max a (-a) = -a by omega, show max b (-b) = b by omega, Int.mul_neg, Int.mul_comm b a]; omega
      · have := Int.mul_nonneg (show 0 ≤ -a by omega) (show 0 ≤ -b by omega)
        rw [Int.neg_mul_neg] at this
        rw [show max a (-a) = -a by omega, show max b (-b) = -b by omega, Int.neg_mul_neg, Int.mul_comm b a]; omega
    omega

theorem bnd_bd {v x : Int} (h : bnd v = some x) : -MC ≤ x ∧ x ≤ MC := by
  unfold bnd at h
  cases hb : big v
  · rw [hb] at h; simp at h; rw [← h]; exact big_false hb
  · rw [hb] at h; simp at h

theorem wkd_bd {s : ByteArray} {a b v : Int} (hb : -MC ≤ b ∧ b ≤ MC) (h : wkd s a b = some v) : -MC ≤ v ∧ v ≤ MC := by
  by_cases h1 : s = lit [43]
  · rw [h1, wkd_plus] at h; exact bnd_bd h
  by_cases h2 : s = lit [45]
  · rw [h2, wkd_minus] at h; exact bnd_bd h
  rw [wkd_times h1 h2] at h
  split at h
  · cases h
  · simp at h; rw [← h]; exact mul_bd (by assumption) hb

end Go.GrainU
namespace Go.Proofs.YthohkokhimdamaaGreat
open Go.RowKit Go.GrainU

set_option maxHeartbeats 1000000 in
theorem mbounded_any (v : Int) (w : World) :
    Calls Tryz.prog 74 #[.int .i64 v] w fun e w' => e = .returned (.tuple #[.int .i64 (ov (bnd v)), .int .i64 (oe (bnd v))]) ∧ w' = w := by
  cases hb : big v
  · have e : bnd v = some v := by simp [bnd, hb]
    have := big_false hb
    rw [e]
    simp only [ov, oe]
    have h1 : decide (1125899906842624 < v) = false := by simp; unfold MC at this; omega
    have h2 : decide (v < -1125899906842624) = false := by simp; unfold MC at this; omega
    clear this
    go_enter Tryz.func74, Tryz.ntmps74
    go_wp2
    go_ret2
    exact ⟨rfl, rfl⟩
  · have e : bnd v = none := by simp [bnd, hb]
    have := of_decide_eq_true hb
    unfold MC at this
    rw [e]
    simp only [ov, oe]
    clear hb e
    by_cases hc : 1125899906842624 < v
    · clear this
      go_enter Tryz.func74, Tryz.ntmps74
      go_wp2
      go_ret2
      exact ⟨rfl, rfl⟩
    · have h2 : v < -1125899906842624 := by omega
      clear this
      go_enter Tryz.func74, Tryz.ntmps74
      go_wp2
      go_ret2
      exact ⟨rfl, rfl⟩

set_option maxHeartbeats 1000000 in
theorem mtogether_any (x : ByteArray) (a b : Int) (w : World) (ha : -MC ≤ a ∧ a ≤ MC) (hb : -MC ≤ b ∧ b ≤ MC) :
    Calls Tryz.prog 75 #[.string x, .int .i64 a, .int .i64 b] w fun e w' => e = .returned (.int .i64 (tog x a b)) ∧ w' = w := by
  unfold MC at ha hb
  by_cases h1 : x = lit [109, 97, 120]
  · have e : tog x a b = max a b := by simp [tog, h1]
    obtain ⟨R, hR⟩ : ∃ R, R = max a b := ⟨_, rfl⟩
    rw [e, ← hR, h1]
    have HR := hide hR
    clear e hR h1
    show Calls Tryz.prog 75 #[.string ⟨#[109, 97, 120]⟩, .int .i64 a, .int .i64 b] w _
    go_enter Tryz.func75, Tryz.ntmps75
    go_wp2
    all_goals
      go_ret
      exact ⟨ret_int (by rw [HR.out]; omega), rfl⟩
  · by_cases h2 : x = lit [109, 105, 110]
    · have e : tog x a b = min a b := by rw [tog, if_neg h1, if_pos h2]
      obtain ⟨R, hR⟩ : ∃ R, R = min a b := ⟨_, rfl⟩
      rw [e, ← hR, h2]
      have HR := hide hR
      clear e hR h1 h2
      show Calls Tryz.prog 75 #[.string ⟨#[109, 105, 110]⟩, .int .i64 a, .int .i64 b] w _
      go_enter Tryz.func75, Tryz.ntmps75
      go_wp2
      all_goals
        go_ret
        exact ⟨ret_int (by rw [HR.out]; omega), rfl⟩
    · have e : tog x a b = a + b := by rw [tog, if_neg h1, if_neg h2]
      have q1 := list_ne2 h1
      have q2 := list_ne2 h2
      have hw : IntKind.i64.wrap (a + b) = a + b := by rw [IntKind.wrap_i64]; omega
      rw [e]
      clear e h1 h2 ha hb
      go_enter Tryz.func75, Tryz.ntmps75
      go_wp2
      go_ret
      exact ⟨rfl, rfl⟩

set_option maxHeartbeats 1000000 in
theorem mworked_any (x : ByteArray) (a b : Int) (w : World) (ha : -MC ≤ a ∧ a ≤ MC) (hb : -MC ≤ b ∧ b ≤ MC) :
    Calls Tryz.prog 77 #[.string x, .int .i64 a, .int .i64 b] w fun e w' => e = .returned (.tuple #[.int .i64 (ov (wkd x a b)), .int .i64 (oe (wkd x a b))]) ∧ w' = w := by
  by_cases h1 : x = lit [43]
  · rw [h1, wkd_plus]
    unfold MC at ha hb
    have hw : IntKind.i64.wrap (a + b) = a + b := by rw [IntKind.wrap_i64]; omega
    obtain ⟨V, hV⟩ : ∃ V, V = ov (bnd (a + b)) := ⟨_, rfl⟩
    obtain ⟨E, hE⟩ : ∃ E, E = oe (bnd (a + b)) := ⟨_, rfl⟩
    rw [← hV, ← hE]
    have HV := hide hV
    have HE := hide hE
    clear hV hE h1 ha hb
    show Calls Tryz.prog 77 #[.string ⟨#[43]⟩, .int .i64 a, .int .i64 b] w _
    go_enter Tryz.func77, Tryz.ntmps77
    go_wp2_with fail
    refine (mbounded_any _ w).mono ?_
    intro e w1 hh
    rw [hh.1, hh.2, ← HV.out, ← HE.out]
    clear hh
    go_wp2
    go_ret2
    exact ⟨rfl, rfl⟩
  by_cases h2 : x = lit [45]
  · rw [h2, wkd_minus]
    unfold MC at ha hb
    have hw : IntKind.i64.wrap (a - b) = a - b := by rw [IntKind.wrap_i64]; omega
    obtain ⟨V, hV⟩ : ∃ V, V = ov (bnd (a - b)) := ⟨_, rfl⟩
    obtain ⟨E, hE⟩ : ∃ E, E = oe (bnd (a - b)) := ⟨_, rfl⟩
    rw [← hV, ← hE]
    have HV := hide hV
    have HE := hide hE
    clear hV hE h1 h2 ha hb
    show Calls Tryz.prog 77 #[.string ⟨#[45]⟩, .int .i64 a, .int .i64 b] w _
    go_enter Tryz.func77, Tryz.ntmps77
    go_wp2_with fail
    refine (mbounded_any _ w).mono ?_
    intro e w1 hh
    rw [hh.1, hh.2, ← HV.out, ← HE.out]
    clear hh
    go_wp2
    go_ret2
    exact ⟨rfl, rfl⟩
  · rw [wkd_times h1 h2]
    have q1 := list_ne2 h1
    have q2 := list_ne2 h2
    clear h1 h2
    obtain ⟨R, hR⟩ : ∃ R, R = (if a ≠ 0 ∧ MC / (max a (-a)) < max b (-b) then none else some (a * b)) := ⟨_, rfl⟩
    rw [← hR]
    have mb : Hid (¬ (a ≠ 0 ∧ MC / (max a (-a)) < max b (-b)) → IntKind.i64.wrap (a * b) = a * b) := fun h => by
      have := mul_bd h hb
      unfold MC at this
      rw [IntKind.wrap_i64]; omega
    have HR := hide hR
    clear hR
    unfold MC at ha hb HR mb
    have n1 : IntKind.i64.wrap (-a) = -a := by rw [IntKind.wrap_i64]; omega
    have n2 : IntKind.i64.wrap (-b) = -b := by rw [IntKind.wrap_i64]; omega
    by_cases h0 : a = 0
    · subst h0
      have HR2 : Hid (R = some 0) := by show _ = _; rw [HR.out]; simp
      clear HR mb n1 n2 ha hb
      go_enter Tryz.func77, Tryz.ntmps77
      go_wp2
      go_ret2
      exact ⟨by rw [HR2.out]; rfl, rfl⟩
    · have g0 : (a != 0) = true := by simpa using h0
      have g1 : (a == 0) = false := by simpa using h0
      have g2 : (-a == 0) = false := by simp; omega
      obtain ⟨A, hA⟩ : ∃ A, A = max a (-a) := ⟨_, rfl⟩
      obtain ⟨B, hB⟩ : ∃ B, B = max b (-b) := ⟨_, rfl⟩
      obtain ⟨Q, hQ⟩ : ∃ Q, Q = 1125899906842624 / A := ⟨_, rfl⟩
      have e1 : (if a < -a then -a else a) = A := by rw [hA]; split <;> omega
      have e2 : (if b < -b then -b else b) = B := by rw [hB]; split <;> omega
      have hA0 : 0 < A := by omega
      have hAz : ¬ (A = 0) := by omega
      have hQ0 : 0 ≤ Q ∧ Q ≤ 1125899906842624 := by
        rw [hQ]
        exact ⟨Int.ediv_nonneg (by omega) (by omega), Int.ediv_le_self _ (by omega)⟩
      have e3 : IntKind.i64.wrap (1125899906842624 / A) = Q := by rw [← hQ, IntKind.wrap_i64]; omega
      have e4 : IntKind.i64.wrap (Int.tdiv 1125899906842624 A) = Q := by rw [Int.tdiv_eq_ediv_of_nonneg (by omega)]; exact e3
      have e7 : IntKind.i64.wrap Q = Q := by rw [IntKind.wrap_i64]; omega
      have e5 : (1125899906842624 : Int) / A = Q := hQ.symm
      have e6 : Int.tdiv 1125899906842624 A = Q := by rw [Int.tdiv_eq_ediv_of_nonneg (by omega)]; exact e5
      rw [← hA, ← hB, ← hQ] at HR mb
      have HQ0 := hide hQ0
      clear hA hB hQ hA0 hQ0 ha hb
      by_cases hc : Q < B
      · have HR2 : Hid (R = none) := by show _ = _; rw [HR.out, if_pos ⟨h0, hc⟩]
        clear mb HR h0
        go_enter Tryz.func77, Tryz.ntmps77
        go_wp2
        go_ret2
        exact ⟨by rw [HR2.out]; rfl, rfl⟩
      · have HR2 : Hid (R = some (a * b)) := by show _ = _; rw [HR.out, if_neg (fun h => hc h.2)]
        have hm := mb.out (fun h => hc h.2)
        clear mb HR h0
        go_enter Tryz.func77, Tryz.ntmps77
        go_wp2
        go_ret2
        exact ⟨by rw [HR2.out]; rfl, rfl⟩

set_option maxRecDepth 100000 in
set_option maxHeartbeats 1000000 in
theorem mcheck_any (t : ET) (time : Int) (w : World) (hin : t.In w) :
    Calls Tryz.prog 9 #[eval t, .int .i64 time] w fun e w' => e = .returned (.int .i64 (chk t.ex time)) ∧ Below w.heap.size w w' := by
  have P3 := hide (pwrong_any t)
  have P7 := hide (ptyped_any t)
  obtain ⟨R, hR⟩ : ∃ R, R = chk t.ex time := ⟨_, rfl⟩
  have HR0 : Hid (R = if (wr t.ex 1 0).1 = 0 then (if typ t.ex = 0 then (if time < 0 ∨ 1000000 < time then 3 else 0) else typ t.ex) else (wr t.ex 1 0).1) := hR
  rw [← hR]
  clear hR
  generalize (wr t.ex 1 0).1 = E at P3 HR0
  generalize typ t.ex = U at P7 HR0
  unfold eval at P3 P7 ⊢
  generalize t.hd.ms.length = ml at *
  generalize t.hd.bs.length = bl at *
  generalize t.kids.length = kl at *
  obtain ⟨W, hW⟩ : ∃ W, W = w.alloc (.cells #[.int .i64 t.hd.kind, .int .i64 t.hd.n, .int .i64 t.hd.range, .string t.hd.word, .slice t.sp.ma ml t.sp.mc, .slice t.sp.ba bl t.sp.bc, .slice t.sp.ka kl t.sp.kc] 27) := ⟨_, rfl⟩
  have bel0 : Below w.heap.size w W := by rw [hW]; exact (Below.refl _ _).alloc (Nat.le_refl _) _
  have F0 : W.heap[w.heap.size]? = some (.cells #[.int .i64 t.hd.kind, .int .i64 t.hd.n, .int .i64 t.hd.range, .string t.hd.word, .slice t.sp.ma ml t.sp.mc, .slice t.sp.ba bl t.sp.bc, .slice t.sp.ka kl t.sp.kc] 27 (0, 0)) := by rw [hW]; exact heap_alloc_new w _
  have HIN := hide (ET.In.below bel0 t hin)
  have HW := hide hW
  clear hW hin
  go_enter Tryz.func9, Tryz.ntmps9
  go_wp2_with fail
  rw [← HW.out]
  refine (P3.out W HIN.out).mono ?_
  rintro e w1 ⟨rfl, b1⟩
  by_cases h0 : E = 0
  · have HR1 : Hid (R = if U = 0 then (if time < 0 ∨ 1000000 < time then 3 else 0) else U) := by show _ = _; rw [HR0.out, if_pos h0]
    subst h0
    clear HR0
    obtain ⟨p0, p1, p2, p3, p4, p5, p6⟩ := seven_cells (below_block b1 F0)
    go_wp2_with fail
    refine (P7.out w1 (ET.In.below b1 t HIN.out)).mono ?_
    rintro e w2 ⟨rfl, b2⟩
    have b3 : Below w.heap.size w w2 := bel0.trans ((below_step b2 b1).mono bel0.size)
    by_cases h1 : U = 0
    · have HR2 : Hid (R = if time < 0 ∨ 1000000 < time then 3 else 0) := by show _ = _; rw [HR1.out, if_pos h1]
      subst h1
      clear HR1 p0 p1 p2 p3 p4 p5 p6 b1 b2
      go_wp2
      all_goals
        go_ret
        first
          | exact ⟨ret_int (by rw [HR2.out, if_pos (by omega)]), b3⟩
          | exact ⟨ret_int (by rw [HR2.out, if_neg (by omega)]), b3⟩
    · have HR2 : Hid (R = U) := by show _ = _; rw [HR1.out, if_neg h1]
      have hd : (U != 0) = true := by simpa using h1
      clear h1 HR1 p0 p1 p2 p3 p4 p5 p6 b1 b2
      go_wp2
      go_ret
      exact ⟨ret_int HR2.out.symm, b3⟩
  · have HR1 : Hid (R = E) := by show _ = _; rw [HR0.out, if_neg h0]
    have hd : (E != 0) = true := by simpa using h0
    clear h0 HR0
    go_wp2
    go_ret
    exact ⟨ret_int HR1.out.symm, bel0.trans (b1.mono bel0.size)⟩

end Go.Proofs.YthohkokhimdamaaGreat

/-
  The walks of meaning's at.
-/
namespace Go.GrainU
open Go.RowKit

/-- where the first cell of a series lies, or -1 -/
def CAt (l : List CT) (s : Lb) (i : Int) : Prop := (i = -1 ∧ cellOf (cls l) s = none) ∨ ∃ k : Nat, k < l.length ∧ i = k ∧ cellOf (cls l) s = some (ct l k).v

theorem cellOf_drop {l : List CT} {k : Nat} (h : k < l.length) (s : Lb) : cellOf (cls (l.drop k)) s = if cmpS (ct l k).ser s = 0 then some (ct l k).v else cellOf (cls (l.drop (k + 1))) s := by
  rw [drop_ct h]; rfl

end Go.GrainU
namespace Go.Proofs.YthohkokhimdamaaGreat
open Go.RowKit Go.GrainU

set_option maxHeartbeats 1000000 in
theorem mat1_any (x : CT) (s : Lb) (B n m c' : Nat) (so : Option Addr) (w : World) (hx : Seg w x.sa (lcells x.ser)) (hs : Seg w so (lcells s)) (hB : w.cell? ⟨B, 0, none⟩ = some (.slice so m c')) (hn : n = x.ser.length) (hm : m = s.length) (hc : n ≤ 9223372036854775807) :
    Calls Tryz.prog 96 #[.agg #[.slice x.sa n x.sc, .int .i64 x.v], .pointer (some ⟨B, 0, none⟩)] w fun e w' => e = .returned (.bool (decide (cmpS x.ser s = 0))) ∧ Below w.heap.size w w' := by
  have hl : B < w.heap.size := World.block_lt_of_cell? w _ hB
  obtain ⟨V, hV⟩ : ∃ V, V = w.alloc (.cells #[.slice x.sa n x.sc, .int .i64 x.v] 57) := ⟨_, rfl⟩
  have bel : Below w.heap.size w V := by rw [hV]; exact (Below.refl _ _).alloc (Nat.le_refl _) _
  have HV := hide hV
  have HN := hide hn
  have HM := hide hm
  obtain ⟨C, hC⟩ : ∃ C, C = cmpS x.ser s := ⟨_, rfl⟩
  rw [← hC]
  have HC := hide hC
  obtain ⟨R, hR⟩ : ∃ R, R = decide (C = 0) := ⟨_, rfl⟩
  rw [← hR]
  have HR := hide hR
  clear hV hn hm hC hR
  go_enter Tryz.func96, Tryz.ntmps96
  go_wp2_with fail
  rw [← HV.out]
  refine (ncmp_any x.ser s x.sa so n m x.sc c' V (hx.below bel) (hs.below bel) HN.out HM.out hc).mono ?_
  rintro e w1 ⟨rfl, b1⟩
  rw [← HC.out]
  have b2 : Below w.heap.size w w1 := bel.trans (b1.mono bel.size)
  by_cases h0 : C = 0
  · have hd : Hid (R = true) := by show _ = _; rw [HR.out]; simpa using h0
    subst h0
    go_wp2
    go_ret
    exact ⟨ret_bool hd.out.symm, b2⟩
  · have hd : Hid (R = false) := by show _ = _; rw [HR.out]; simpa using h0
    have hd2 : (C == 0) = false := by simpa using h0
    clear h0
    go_wp2
    go_ret
    exact ⟨ret_bool hd.out.symm, b2⟩

set_option maxHeartbeats 2000000 in
theorem midx_any (l : List CT) (s : Lb) (B n c m c' : Nat) (co so : Option Addr) (w : World) (hl : CsIn w co l) (hs : Seg w so (lcells s)) (hB : w.cell? ⟨B, 0, none⟩ = some (.slice so m c')) (hn : n = l.length) (hm : m = s.length) (hb8 : ∀ x ∈ l, x.ser.length ≤ 9223372036854775807) (hn8 : n ≤ 9223372036854775807) :
    Calls Tryz.prog 95 #[.slice co n c, .func (.func 96) #[] #[.pointer (some ⟨B, 0, none⟩)]] w fun e w' => (∃ i, e = .returned (.int .i64 i) ∧ CAt l s i) ∧ Below w.heap.size w w' := by
  have hBl : B < w.heap.size := World.block_lt_of_cell? w _ hB
  have HN := hide hn
  have HM := hide hm
  have H8 := hide hb8
  clear hn hm hb8
  go_enter Tryz.func95, Tryz.ntmps95
  go_wp2
  go_loopw [8] (fun i wr => ∃ k : Nat, k ≤ n ∧ i = .int .i64 k ∧ Hid (cellOf (cls l) s = cellOf (cls (l.drop k)) s) ∧ Below w.heap.size w wr) (fun i _ => n - (intOf i).toNat)
  case atStart => exact ⟨0, Nat.zero_le _, rfl, rfl, Below.refl _ _⟩
  case round =>
    obtain ⟨k, hk, rfl, HW, bel⟩ := hrel
    have hsz := bel.size
    by_cases hlt : k < n
    · have hka : k < l.length := by rw [← HN.out]; exact hlt
      obtain ⟨p, off, rfl, hbl, hcell⟩ := seg_cell hl.seg hka
      obtain ⟨x, hx⟩ : ∃ x, x = ct l k := ⟨_, rfl⟩
      obtain ⟨xn, hxn⟩ : ∃ xn, xn = x.ser.length := ⟨_, rfl⟩
      have sx : Seg w x.sa (lcells x.ser) := by rw [hx]; exact hl.ser _ (ct_mem hka)
      have c0 : wr.cell? ⟨p, off + k * 2, none⟩ = some (.slice x.sa xn x.sc) := by rw [hxn, hx]; exact (bel.cell (by exact hbl)).trans (hcell k hka).1
      have c1 : wr.cell? ⟨p, off + k * 2 + 1, none⟩ = some (.int .i64 x.v) := by rw [hx]; exact (bel.cell (by exact hbl)).trans (hcell k hka).2
      have cB : wr.cell? ⟨B, 0, none⟩ = some (.slice so m c') := (bel.cell (by exact hBl)).trans hB
      have HS : Hid (cellOf (cls l) s = if cmpS x.ser s = 0 then some x.v else cellOf (cls (l.drop (k + 1))) s) := by
        show _ = _
        rw [HW.out, cellOf_drop hka, hx]
      have x8 : xn ≤ 9223372036854775807 := by rw [hxn, hx]; exact H8.out _ (ct_mem hka)
      have HK := hide hka
      have HX := hide hx
      have HXN := hide hxn
      clear hx hxn hcell hka HW
      go_wp2_with fail
      refine (mat1_any x s B xn m c' so wr (sx.below bel) (hs.below bel) cB HXN.out HM.out x8).mono ?_
      rintro e w1 ⟨rfl, hb1⟩
      have bel1 : Below w.heap.size w w1 := bel.trans (hb1.mono hsz)
      clear hb1 bel c0 c1 cB
      by_cases e1 : cmpS x.ser s = 0
      · have hw : Hid (cellOf (cls l) s = some (ct l k).v) := by show _ = _; rw [HS.out, if_pos e1, HX.out]
        have hd : decide (cmpS x.ser s = 0) = true := by simpa using e1
        rw [hd]
        clear HS hd e1
        go_wp2
        go_ret
        exact ⟨⟨_, rfl, .inr ⟨k, HK.out, rfl, hw.out⟩⟩, bel1⟩
      · have hw : Hid (cellOf (cls l) s = cellOf (cls (l.drop (k + 1))) s) := by show _ = _; rw [HS.out, if_neg e1]
        have hd : decide (cmpS x.ser s = 0) = false := by simpa using e1
        rw [hd]
        clear HS hd e1
        go_wp2
        go_roundw
        case rel => exact ⟨k + 1, by omega, by go_num, hw, bel1⟩
        case measure => simp [intOf]; omega
    · have he : k = n := by omega
      subst he
      have hw : Hid (cellOf (cls l) s = none) := by
        show _ = _
        rw [HW.out, List.drop_eq_nil_of_le (by rw [← HN.out]; omega)]; rfl
      clear HW
      go_wp2
      go_ret
      exact ⟨⟨_, rfl, .inl ⟨rfl, hw.out⟩⟩, bel⟩

/-- a meaning lies there -/
def mnv (nb : Bool) (co : Option Addr) (n d : Nat) : Value := .agg #[.bool nb, .slice co n d]

def oi (o : Option Int) : Int := match o with | some v => v | none => 0
def ob (o : Option Int) : Bool := match o with | some _ => true | none => false

set_option maxRecDepth 100000 in
set_option maxHeartbeats 2000000 in
theorem mat_any (nb : Bool) (l : List CT) (s : Lb) (n c m c' : Nat) (co so : Option Addr) (w : World) (hl : CsIn w co l) (hs : Seg w so (lcells s)) (hn : n = l.length) (hm : m = s.length) (hb8 : ∀ x ∈ l, x.ser.length ≤ 9223372036854775807) (hn8 : n ≤ 9223372036854775807) (hnb : nb = true → 0 < n) :
    Calls Tryz.prog 76 #[.agg #[.bool nb, .slice co n c], .slice so m c'] w fun e w' => e = .returned (.tuple #[.int .i64 (oi (atM ⟨nb, cls l⟩ s)), .bool (ob (atM ⟨nb, cls l⟩ s))]) ∧ Below w.heap.size w w' := by
  obtain ⟨V, hV⟩ : ∃ V, V = (w.alloc (.cells #[.bool nb, .slice co n c] 67)).alloc (.cells #[.slice so m c'] 40) := ⟨_, rfl⟩
  have bel : Below w.heap.size w V := by rw [hV]; exact ((Below.refl _ _).alloc (Nat.le_refl _) _).alloc (by simp) _
  have F0 : V.heap[w.heap.size]? = some (.cells #[.bool nb, .slice co n c] 67 (0, 0)) := by rw [hV, Below.heap_alloc _ _ _ (by simp)]; exact heap_alloc_new w _
  have cB : V.cell? ⟨w.heap.size + 1, 0, none⟩ = some (.slice so m c') := by rw [hV]; simp
  have hsz := bel.size
  have HV := hide hV
  have HN := hide hn
  have HM := hide hm
  clear hV hn hm
  have hlV := hl.below bel
  cases nb with
  | true =>
    have h0 := hnb rfl
    have hka : 0 < l.length := by rw [← HN.out]; exact h0
    obtain ⟨p, off, rfl, hbl, hcell⟩ := seg_cell hl.seg hka
    obtain ⟨x, hx⟩ : ∃ x, x = (ct l 0).v := ⟨_, rfl⟩
    have c1 : w.cell? ⟨p, off + 1, none⟩ = some (.int .i64 x) := by
      rw [hx]
      have := (hcell 0 hka).2
      rw [Nat.zero_mul, Nat.add_zero] at this
      exact this
    have HR : Hid (atM ⟨true, cls l⟩ s = some x) := by
      show _ = _
      rw [hx]
      simp [atM, cl0, ct, cls, List.getD]
      cases l with
      | nil => simp at hka
      | cons a r => rfl
    obtain ⟨R1, hR1⟩ : ∃ R, R = oi (atM ⟨true, cls l⟩ s) := ⟨_, rfl⟩
    obtain ⟨R2, hR2⟩ : ∃ R, R = ob (atM ⟨true, cls l⟩ s) := ⟨_, rfl⟩
    rw [← hR1, ← hR2]
    have HR1 : Hid (R1 = x) := by show _ = _; rw [hR1, HR.out]; rfl
    have HR2 : Hid (R2 = true) := by show _ = _; rw [hR2, HR.out]; rfl
    clear hx hcell hka hR1 hR2 HR
    have HB := hide bel
    clear F0 cB hlV bel hsz
    go_enter Tryz.func76, Tryz.ntmps76
    go_wp2
    go_ret2
    exact ⟨by rw [HR1.out, HR2.out]; rfl, by rw [← HV.out]; exact HB.out⟩
  | false =>
    obtain ⟨R, hR⟩ : ∃ R, R = atM ⟨false, cls l⟩ s := ⟨_, rfl⟩
    rw [← hR]
    have HR : Hid (R = cellOf (cls l) s) := by show _ = _; rw [hR]; simp [atM]
    clear hR
    obtain ⟨f0, f1, _, _⟩ := two_cells F0
    go_enter Tryz.func76, Tryz.ntmps76
    go_wp2_with fail
    rw [← HV.out]
    refine (midx_any l s (w.heap.size + 1) n c m c' co so V hlV (hs.below bel) cB HN.out HM.out hb8 hn8).mono ?_
    rintro e w1 ⟨⟨i, rfl, hi⟩, hb1⟩
    have bel1 : Below w.heap.size w w1 := bel.trans (hb1.mono hsz)
    obtain ⟨f0, f1, _, _⟩ := two_cells (below_block hb1 F0)
    clear hb1
    rcases hi with ⟨rfl, hf⟩ | ⟨k, hk, rfl, hf⟩
    · have HF : Hid (R = none) := by show _ = _; rw [HR.out]; exact hf
      clear hf HR
      go_wp2
      go_ret2
      exact ⟨by rw [HF.out]; rfl, bel1⟩
    · obtain ⟨p, off, rfl, hbl, hcell⟩ := seg_cell hl.seg hk
      obtain ⟨y, hy⟩ : ∃ y, y = (ct l k).v := ⟨_, rfl⟩
      have HF : Hid (R = some y) := by show _ = _; rw [HR.out, hy]; exact hf
      have c1 : w1.cell? ⟨p, off + k * 2 + 1, none⟩ = some (.int .i64 y) := by rw [hy]; exact (bel1.cell (by exact hbl)).trans (hcell k hk).2
      have hkn : k < n := by rw [HN.out]; exact hk
      clear hy hcell hk hf HR
      go_wp2
      go_ret2
      exact ⟨by rw [HF.out]; rfl, bel1⟩

end Go.Proofs.YthohkokhimdamaaGreat
