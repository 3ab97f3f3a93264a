/-
  The walks of Typed, the program's and the document's.
-/
import Derived.Test.YthohkokhimdamaaGreatRows
import Derived.Test.YthohkokhimdamaaGreatP05
/-
  The walks of Vector and Typed, the program's and the document's.
-/
namespace Go.GrainU
open Go.RowKit

theorem vecL_take {l : List ET} {k : Nat} (h : k < l.length) : vecL (exL (l.take (k + 1))) = (vecL (exL (l.take k)) || vec (l[k]).ex) := by
  rw [List.take_add_one, List.getElem?_eq_getElem h]
  simp only [Option.toList_some]
  generalize l.take k = a
  induction a with
  | nil => simp [exL, vecL]
  | cons x r ih => simp [exL, vecL, ih, Bool.or_assoc]

theorem vecL_at {l : List ET} {k : Nat} (h : k < l.length) (h' : vec (l[k]).ex = true) : vecL (exL l) = true := by
  induction l generalizing k with
  | nil => simp at h
  | cons x r ih =>
    match k, h with
    | 0, _ => simp at h'; simp [exL, vecL, h']
    | k + 1, h => simp only [exL, vecL]; rw [ih (k := k) (by simpa using h) (by simpa using h')]; simp

theorem vecL_end {l : List ET} {k : Nat} (hk : k = l.length) (h : vecL (exL (l.take k)) = false) : vecL (exL l) = false := by
  rw [hk, List.take_length] at h; exact h

theorem typL_at {l : List ET} {k : Nat} (h : k < l.length) (h0 : typL (exL (l.take k)) = 0) (h' : typ (l[k]).ex ≠ 0) : typL (exL l) = typ (l[k]).ex := by
  induction l generalizing k with
  | nil => simp at h
  | cons x r ih =>
    match k, h with
    | 0, _ => simp at h'; simp [exL, typL, h']
    | k + 1, h =>
      simp only [List.take_succ_cons, exL, typL] at h0
      by_cases e : typ x.ex = 0
      · rw [if_pos e] at h0
        simp only [exL, typL, if_pos e, List.getElem_cons_succ]
        exact ih (by simpa using h) h0 (by simpa using h')
      · rw [if_neg e] at h0; exact absurd h0 e

theorem typL_take {l : List ET} {k : Nat} (h : k < l.length) (h0 : typL (exL (l.take k)) = 0) (h' : typ (l[k]).ex = 0) : typL (exL (l.take (k + 1))) = 0 := by
  induction l generalizing k with
  | nil => simp at h
  | cons x r ih =>
    match k, h with
    | 0, _ => simp at h'; simp [exL, typL, h']
    | k + 1, h =>
      simp only [List.take_succ_cons, exL, typL] at h0 ⊢
      by_cases e : typ x.ex = 0
      · rw [if_pos e] at h0 ⊢
        exact ih (by simpa using h) h0 (by simpa using h')
      · rw [if_neg e] at h0; exact absurd h0 e

/-- the cells, in a later world -/
theorem Cells7.below {w w' : World} {b o : Nat} {t : ET} (h : Cells7 w b o t) (hb : Below w.heap.size w w') : Cells7 w' b o t := by
  have hl : b < w.heap.size := World.block_lt_of_cell? w ⟨b, o, none⟩ h.1
  unfold Cells7 at h ⊢
  simp only [(bcell hb).1 b _ hl]
  exact h

theorem vec_of {h : Hd} {s : Sp} {kids : List ET} : vec (ET.ex (.node h s kids)) = (decide (h.kind = 2) || decide (h.kind = 3) || vecL (exL kids)) := by simp [ET.ex, vec]
theorem typ_of {h : Hd} {s : Sp} {kids : List ET} : typ (ET.ex (.node h s kids)) = if h.kind = 3 ∧ kids.length = 1 ∧ vecL (exL kids) = false then 8 else typL (exL kids) := by simp [ET.ex, typ, exL_length]

end Go.GrainU
namespace Go.Proofs.YthohkokhimdamaaGreat
open Go.RowKit Go.GrainU

set_option maxHeartbeats 1000000 in
theorem rvector_any : ∀ t : ET, ∀ w : World, t.In w →
    Calls Tryz.prog 52 #[eval t] w fun e w' => e = .returned (.bool (vec t.ex)) ∧ Below w.heap.size w w' := by
  refine ET.ind ?_
  intro h s kids ih w hin
  obtain ⟨kd, n, rg, wd, ms, bs⟩ := h
  obtain ⟨ma, mc, ba, bc, ka, kc⟩ := s
  simp only [ET.In] at hin
  obtain ⟨⟨_, _, hK⟩, ⟨_, _, lK, _⟩, hL⟩ := hin
  rw [vec_of]
  show Calls Tryz.prog _ #[.agg #[.int .i64 kd, .int .i64 n, .int .i64 rg, .string wd, .slice ma ms.length mc, .slice ba bs.length bc, .slice ka kids.length kc]] w _
  generalize ms.length = ml
  generalize bs.length = bl
  obtain ⟨kl, hkl⟩ : ∃ x, x = kids.length := ⟨_, rfl⟩
  rw [← hkl] at lK ⊢
  have HK := hide hkl
  clear hkl
  by_cases h2 : kd = 2
  · subst h2
    go_enter Tryz.func52, Tryz.ntmps52
    go_wp2
    go_ret
    exact ⟨by simp, (Below.refl _ _).alloc (Nat.le_refl _) _⟩
  by_cases h3 : kd = 3
  · subst h3
    go_enter Tryz.func52, Tryz.ntmps52
    go_wp2
    go_ret
    exact ⟨by simp, (Below.refl _ _).alloc (Nat.le_refl _) _⟩
  have HV : Hid ((decide (kd = 2) || decide (kd = 3) || vecL (exL kids)) = vecL (exL kids)) := by show _ = _; simp [h2, h3]
  have e2 : (kd == 2) = false := by simp [h2]
  have e3 : (kd == 3) = false := by simp [h3]
  go_enter Tryz.func52, Tryz.ntmps52
  go_wp2
  go_loopw [16] (fun i wr => ∃ k : Nat, k ≤ kl ∧ i = .int .i64 k ∧ Hid (vecL (exL (kids.take k)) = false) ∧ Below w.heap.size w wr) (fun i _ => kl - (intOf i).toNat)
  case atStart => exact ⟨0, Nat.zero_le _, rfl, by show _ = _; simp [exL, vecL], (Below.refl _ _).alloc (Nat.le_refl _) _⟩
  case round =>
    obtain ⟨k, hk, rfl, HJ, bel⟩ := hrel
    by_cases hlt : k < kl
    · have hkl : k < kids.length := by rw [← HK.out]; exact hlt
      obtain ⟨b, off, rfl, hbl, hcell⟩ := seg_expr hK hkl
      obtain ⟨t, ht⟩ : ∃ t, t = kids[k] := ⟨_, rfl⟩
      have hc := (hcell k hkl).below bel
      rw [← ht] at hc
      have hmem : t ∈ kids := by rw [ht]; exact List.getElem_mem hkl
      have HT := hide (inL_mem hL t hmem)
      have Ht := hide ht
      clear ht hcell hK
      obtain ⟨c0, c1, c2, c3, c4, c5, c6⟩ := hc
      go_wp2_with fail
      have belW : Below w.heap.size w (wr.alloc (.cells #[.int .i64 t.hd.kind, .int .i64 t.hd.n, .int .i64 t.hd.range, .string t.hd.word, .slice t.sp.ma t.hd.ms.length t.sp.mc, .slice t.sp.ba t.hd.bs.length t.sp.bc, .slice t.sp.ka t.kids.length t.sp.kc] 27)) := bel.alloc bel.size _
      refine (ih t hmem _ (ET.In.below belW t HT.out)).mono ?_
      rintro e w1 ⟨rfl, b1⟩
      have bel1 : Below w.heap.size w w1 := belW.trans (b1.mono belW.size)
      obtain ⟨D, hD⟩ : ∃ D, D = vec t.ex := ⟨_, rfl⟩
      rw [← hD]
      have HD := hide hD
      clear hD
      cases D with
      | true =>
        go_wp2
        go_ret
        exact ⟨ret_bool (a := true) (by rw [HV.out, vecL_at hkl (by rw [← Ht.out]; exact HD.out.symm)]), bel1⟩
      | false =>
        have HJ' : Hid (vecL (exL (kids.take (k + 1))) = false) := by show _ = _; rw [vecL_take hkl, HJ.out, ← Ht.out, ← HD.out]; rfl
        go_wp2
        go_roundw
        case rel => exact ⟨k + 1, by omega, by go_num, HJ', bel1⟩
        case measure => simp [intOf]; omega
    · go_wp2
      go_ret
      exact ⟨ret_bool (a := false) (by rw [HV.out, vecL_end (by have := HK.out; omega) HJ.out]), bel⟩

set_option maxHeartbeats 1000000 in
theorem vindex_any (kids : List ET) (ih : ∀ t ∈ kids, ∀ w : World, t.In w → Calls Tryz.prog 50 #[eval t] w fun e w' => e = .returned (.bool (vec t.ex)) ∧ Below w.heap.size w w')
    (ka : Option Addr) (kl kc : Nat) (w : World) (hK : Seg w ka (ecells kids)) (hkl : kl = kids.length) (lK : kl ≤ 9223372036854775806) (hL : InL w kids) :
    Calls Tryz.prog 89 #[.slice ka kl kc, .func (.func 50) #[] #[]] w fun e w' => (∃ i : Int, e = .returned (.int .i64 i) ∧ decide (0 ≤ i) = vecL (exL kids)) ∧ Below w.heap.size w w' := by
  have HK := hide hkl
  clear hkl
  go_enter Tryz.func89, Tryz.ntmps89
  go_wp2
  go_loopw [8] (fun i wr => ∃ k : Nat, k ≤ kl ∧ i = .int .i64 k ∧ Hid (vecL (exL (kids.take k)) = false) ∧ Below w.heap.size w wr) (fun i _ => kl - (intOf i).toNat)
  case atStart => exact ⟨0, Nat.zero_le _, rfl, by show _ = _; simp [exL, vecL], Below.refl _ _⟩
  case round =>
    obtain ⟨k, hk, rfl, HJ, bel⟩ := hrel
    by_cases hlt : k < kl
    · have hkl : k < kids.length := by rw [← HK.out]; exact hlt
      obtain ⟨b, off, rfl, hbl, hcell⟩ := seg_expr hK hkl
      obtain ⟨t, ht⟩ : ∃ t, t = kids[k] := ⟨_, rfl⟩
      have hc := (hcell k hkl).below bel
      rw [← ht] at hc
      have hmem : t ∈ kids := by rw [ht]; exact List.getElem_mem hkl
      have HT := hide (inL_mem hL t hmem)
      have Ht := hide ht
      clear ht hcell hK
      obtain ⟨c0, c1, c2, c3, c4, c5, c6⟩ := hc
      go_wp2_with fail
      refine (ih t hmem _ (ET.In.below bel t HT.out)).mono ?_
      rintro e w1 ⟨rfl, b1⟩
      have bel1 : Below w.heap.size w w1 := bel.trans (b1.mono bel.size)
      obtain ⟨D, hD⟩ : ∃ D, D = vec t.ex := ⟨_, rfl⟩
      rw [← hD]
      have HD := hide hD
      clear hD
      cases D with
      | true =>
        go_wp2
        go_ret
        exact ⟨⟨k, rfl, by rw [vecL_at hkl (by rw [← Ht.out]; exact HD.out.symm)]; simp⟩, bel1⟩
      | false =>
        have HJ' : Hid (vecL (exL (kids.take (k + 1))) = false) := by show _ = _; rw [vecL_take hkl, HJ.out, ← Ht.out, ← HD.out]; rfl
        go_wp2
        go_roundw
        case rel => exact ⟨k + 1, by omega, by go_num, HJ', bel1⟩
        case measure => simp [intOf]; omega
    · go_wp2
      go_ret
      exact ⟨⟨-1, rfl, by rw [vecL_end (by have := HK.out; omega) HJ.out]; decide⟩, bel⟩

theorem vcont_any (kids : List ET) (ih : ∀ t ∈ kids, ∀ w : World, t.In w → Calls Tryz.prog 50 #[eval t] w fun e w' => e = .returned (.bool (vec t.ex)) ∧ Below w.heap.size w w')
    (ka : Option Addr) (kl kc : Nat) (w : World) (hK : Seg w ka (ecells kids)) (hkl : kl = kids.length) (lK : kl ≤ 9223372036854775806) (hL : InL w kids) :
    Calls Tryz.prog 66 #[.slice ka kl kc, .func (.func 50) #[] #[]] w fun e w' => e = .returned (.bool (vecL (exL kids))) ∧ Below w.heap.size w w' := by
  have HK := hide hkl
  clear hkl
  obtain ⟨D, hD⟩ : ∃ D, D = vecL (exL kids) := ⟨_, rfl⟩
  rw [← hD]
  have HD := hide hD
  clear hD
  go_enter Tryz.func66, Tryz.ntmps66
  go_wp2_with fail
  refine (vindex_any kids ih ka kl kc w hK HK.out lK hL).mono ?_
  rintro e w1 ⟨⟨i, rfl, hi⟩, b1⟩
  rw [← HD.out] at hi
  go_wp2
  go_ret
  exact ⟨rfl, b1⟩

set_option maxHeartbeats 1000000 in
theorem pvector_any : ∀ t : ET, ∀ w : World, t.In w →
    Calls Tryz.prog 50 #[eval t] w fun e w' => e = .returned (.bool (vec t.ex)) ∧ Below w.heap.size w w' := by
  refine ET.ind ?_
  intro h s kids ih w hin
  obtain ⟨kd, n, rg, wd, ms, bs⟩ := h
  obtain ⟨ma, mc, ba, bc, ka, kc⟩ := s
  simp only [ET.In] at hin
  obtain ⟨⟨_, _, hK⟩, ⟨_, _, lK, _⟩, hL⟩ := hin
  rw [vec_of]
  show Calls Tryz.prog _ #[.agg #[.int .i64 kd, .int .i64 n, .int .i64 rg, .string wd, .slice ma ms.length mc, .slice ba bs.length bc, .slice ka kids.length kc]] w _
  generalize ms.length = ml
  generalize bs.length = bl
  obtain ⟨kl, hkl⟩ : ∃ x, x = kids.length := ⟨_, rfl⟩
  rw [← hkl] at lK ⊢
  have HK := hide hkl
  clear hkl
  by_cases h2 : kd = 2
  · subst h2
    go_enter Tryz.func50, Tryz.ntmps50
    go_wp2_with fail
    go_ret
    exact ⟨by simp, (Below.refl _ _).alloc (Nat.le_refl _) _⟩
  by_cases h3 : kd = 3
  · subst h3
    go_enter Tryz.func50, Tryz.ntmps50
    go_wp2_with fail
    go_ret
    exact ⟨by simp, (Below.refl _ _).alloc (Nat.le_refl _) _⟩
  have HV : Hid ((decide (kd = 2) || decide (kd = 3) || vecL (exL kids)) = vecL (exL kids)) := by show _ = _; simp [h2, h3]
  have e2 : (kd == 2) = false := by simp [h2]
  have e3 : (kd == 3) = false := by simp [h3]
  go_enter Tryz.func50, Tryz.ntmps50
  go_wp2_with fail
  have bel : Below w.heap.size w (w.alloc (.cells #[.int .i64 kd, .int .i64 n, .int .i64 rg, .string wd, .slice ma ml mc, .slice ba bl bc, .slice ka kl kc] 27)) := (Below.refl _ _).alloc (Nat.le_refl _) _
  refine (vcont_any kids ih ka kl kc _ (hK.below bel) HK.out lK (hL.below bel)).mono ?_
  rintro e w1 ⟨rfl, b1⟩
  go_wp2
  go_ret
  exact ⟨ret_bool (a := vecL (exL kids)) HV.out.symm, bel.trans (b1.mono bel.size)⟩

end Go.Proofs.YthohkokhimdamaaGreat

/-
  The walks of Typed, the program's and the document's.
-/
namespace Go.GrainU
open Go.RowKit

theorem vecL_one {l : List ET} (h : l.length = 1) (h0 : 0 < l.length) : vecL (exL l) = vec (l[0]).ex := by
  match l, h with
  | [x], _ => simp [exL, vecL]

theorem typL_end {l : List ET} {k : Nat} (hk : k = l.length) (h : typL (exL (l.take k)) = 0) : typL (exL l) = 0 := by
  rw [hk, List.take_length] at h; exact h

theorem seven_cells {w : World} {B : Nat} {x0 x1 x2 x3 x4 x5 x6 : Value} {t : TypeId} (h : w.heap[B]? = some (.cells #[x0, x1, x2, x3, x4, x5, x6] t (0, 0))) :
    w.cell? ⟨B, 0, none⟩ = some x0 ∧ w.cell? ⟨B, 1, none⟩ = some x1 ∧ w.cell? ⟨B, 2, none⟩ = some x2 ∧ w.cell? ⟨B, 3, none⟩ = some x3 ∧ w.cell? ⟨B, 4, none⟩ = some x4 ∧ w.cell? ⟨B, 5, none⟩ = some x5 ∧ w.cell? ⟨B, 6, none⟩ = some x6 := by
  simp [World.cell?, h]

end Go.GrainU
namespace Go.Proofs.YthohkokhimdamaaGreat
open Go.RowKit Go.GrainU

set_option maxHeartbeats 2000000 in
theorem rtyped_any : ∀ t : ET, ∀ w : World, t.In w →
    Calls Tryz.prog 29 #[eval t] w fun e w' => e = .returned (.int .i64 (typ t.ex)) ∧ Below w.heap.size w w' := by
  refine ET.ind ?_
  intro h s kids ih w hin
  obtain ⟨kd, n, rg, wd, ms, bs⟩ := h
  obtain ⟨ma, mc, ba, bc, ka, kc⟩ := s
  simp only [ET.In] at hin
  obtain ⟨⟨_, _, hK⟩, ⟨_, _, lK, _⟩, hL⟩ := hin
  rw [typ_of]
  show Calls Tryz.prog _ #[.agg #[.int .i64 kd, .int .i64 n, .int .i64 rg, .string wd, .slice ma ms.length mc, .slice ba bs.length bc, .slice ka kids.length kc]] w _
  generalize ms.length = ml
  generalize bs.length = bl
  obtain ⟨kl, hkl⟩ : ∃ x, x = kids.length := ⟨_, rfl⟩
  rw [← hkl] at lK ⊢
  have HK := hide hkl
  clear hkl
  have bel0 : Below w.heap.size w (w.alloc (.cells #[.int .i64 kd, .int .i64 n, .int .i64 rg, .string wd, .slice ma ml mc, .slice ba bl bc, .slice ka kl kc] 27)) := (Below.refl _ _).alloc (Nat.le_refl _) _
  have F0 : (w.alloc (.cells #[.int .i64 kd, .int .i64 n, .int .i64 rg, .string wd, .slice ma ml mc, .slice ba bl bc, .slice ka kl kc] 27)).heap[w.heap.size]? = some (.cells #[.int .i64 kd, .int .i64 n, .int .i64 rg, .string wd, .slice ma ml mc, .slice ba bl bc, .slice ka kl kc] 27 (0, 0)) := heap_alloc_new w _
  have HF0 := hide F0
  have HB0 := hide bel0
  clear F0 bel0
  obtain ⟨R, hR⟩ : ∃ R, R = if kd = 3 ∧ kl = 1 ∧ vecL (exL kids) = false then (8 : Int) else typL (exL kids) := ⟨_, rfl⟩
  rw [← hR]
  have HR := hide hR
  clear hR
  by_cases hA : kd = 3 ∧ kl = 1
  · obtain ⟨rfl, rfl⟩ := hA
    have h0 : 0 < kids.length := by have := HK.out; omega
    have HO : Hid (vecL (exL kids) = vec (kids[0]).ex) := vecL_one HK.out.symm h0
    obtain ⟨b0, off0, rfl, hbl0, hcell0⟩ := seg_expr hK h0
    obtain ⟨t0, ht0⟩ : ∃ t, t = kids[0] := ⟨_, rfl⟩
    have hc := (hcell0 0 h0).below HB0.out
    rw [← ht0] at hc
    simp only [Nat.zero_mul, Nat.add_zero] at hc
    have hmem0 : t0 ∈ kids := by rw [ht0]; exact List.getElem_mem h0
    have HT0 := hide (inL_mem hL t0 hmem0)
    have Ht0 := hide ht0
    clear ht0 hcell0
    obtain ⟨c0, c1, c2, c3, c4, c5, c6⟩ := hc
    go_enter Tryz.func29, Tryz.ntmps29
    go_wp2_with fail
    refine (rvector_any t0 _ (ET.In.below HB0.out t0 HT0.out)).mono ?_
    rintro e w2 ⟨rfl, b2⟩
    have belA : Below w.heap.size w w2 := HB0.out.trans (b2.mono HB0.out.size)
    have F2 : w2.heap[w.heap.size]? = _ := below_block b2 HF0.out
    obtain ⟨p0, p1, p2, p3, p4, p5, p6⟩ := seven_cells F2
    clear F2 b2 c0 c1 c2 c3 c4 c5 c6
    obtain ⟨V, hV⟩ : ∃ V, V = vec t0.ex := ⟨_, rfl⟩
    rw [← hV]
    have HVe := hide hV
    clear hV
    cases V with
    | false =>
      go_wp2
      go_ret
      exact ⟨ret_int (a := 8) (by rw [HR.out, if_pos ⟨by trivial, by trivial, by rw [HO.out, ← Ht0.out, ← HVe.out]⟩]), belA⟩
    | true =>
      have HV : Hid (R = typL (exL kids)) := by
        show _ = _
        rw [HR.out, if_neg]
        intro hh
        rw [HO.out, ← Ht0.out, ← HVe.out] at hh
        simp at hh
      go_wp2
      go_loopw [26] (fun i wr => ∃ k : Nat, k ≤ 1 ∧ i = .int .i64 k ∧ Hid (typL (exL (kids.take k)) = 0) ∧ Below w.heap.size w wr) (fun i _ => 1 - (intOf i).toNat)
      case atStart => exact ⟨0, Nat.zero_le _, rfl, by show _ = _; simp [exL, typL], belA⟩
      case round =>
        obtain ⟨k, hk, rfl, HJ, bel⟩ := hrel
        by_cases hlt : k < 1
        · have hkl : k < kids.length := by rw [← HK.out]; exact hlt
          obtain ⟨b, off, hao, hbl, hcell⟩ := seg_expr hK hkl
          obtain ⟨rfl, rfl⟩ : b = b0 ∧ off = off0 := by simpa [eq_comm] using hao
          obtain ⟨t, ht⟩ : ∃ t, t = kids[k] := ⟨_, rfl⟩
          have hc := (hcell k hkl).below bel
          rw [← ht] at hc
          have hmem : t ∈ kids := by rw [ht]; exact List.getElem_mem hkl
          have HT := hide (inL_mem hL t hmem)
          have Ht := hide ht
          clear ht hcell hK
          obtain ⟨c0, c1, c2, c3, c4, c5, c6⟩ := hc
          go_wp2_with fail
          have belW : Below w.heap.size w (wr.alloc (.cells #[.int .i64 t.hd.kind, .int .i64 t.hd.n, .int .i64 t.hd.range, .string t.hd.word, .slice t.sp.ma t.hd.ms.length t.sp.mc, .slice t.sp.ba t.hd.bs.length t.sp.bc, .slice t.sp.ka t.kids.length t.sp.kc] 27)) := bel.alloc bel.size _
          refine (ih t hmem _ (ET.In.below belW t HT.out)).mono ?_
          rintro e w1 ⟨rfl, b1⟩
          have bel1 : Below w.heap.size w w1 := belW.trans (b1.mono belW.size)
          obtain ⟨D, hD⟩ : ∃ D, D = typ t.ex := ⟨_, rfl⟩
          rw [← hD]
          have HD := hide hD
          clear hD
          by_cases hD0 : D = 0
          · have HJ' : Hid (typL (exL (kids.take (k + 1))) = 0) := typL_take hkl HJ.out (by rw [← Ht.out, ← HD.out]; exact hD0)
            have eD : (D == 0) = true := by simp [hD0]
            clear hD0
            go_wp2
            go_roundw
            case rel => exact ⟨k + 1, by omega, by go_num, HJ', bel1⟩
            case measure => simp [intOf]; omega
          · have eD : (D == 0) = false := by simp [hD0]
            go_wp2
            go_ret
            exact ⟨ret_int (a := D) (by rw [HV.out, typL_at hkl HJ.out (by rw [← Ht.out, ← HD.out]; exact hD0), ← Ht.out]; exact HD.out), bel1⟩
        · go_wp2
          go_ret
          exact ⟨ret_int (a := 0) (by rw [HV.out, typL_end (by have := HK.out; omega) HJ.out]), bel⟩

  · have HV : Hid (R = typL (exL kids)) := by
      show _ = _
      rw [HR.out, if_neg]
      intro hh
      exact hA ⟨hh.1, hh.2.1⟩
    have bel0 := HB0.out
    by_cases h3 : kd = 3
    · subst h3
      have e1 : ((kl : Int) == 1) = false := by rw [beq_eq_false_iff_ne]; intro h; exact hA ⟨rfl, by omega⟩
      clear hA
      go_enter Tryz.func29, Tryz.ntmps29
      go_wp2
      go_loopw [26] (fun i wr => ∃ k : Nat, k ≤ kl ∧ i = .int .i64 k ∧ Hid (typL (exL (kids.take k)) = 0) ∧ Below w.heap.size w wr) (fun i _ => kl - (intOf i).toNat)
      case atStart => exact ⟨0, Nat.zero_le _, rfl, by show _ = _; simp [exL, typL], bel0⟩
      case round =>
        obtain ⟨k, hk, rfl, HJ, bel⟩ := hrel
        by_cases hlt : k < kl
        · have hkl : k < kids.length := by rw [← HK.out]; exact hlt
          obtain ⟨b, off, rfl, hbl, hcell⟩ := seg_expr hK hkl
          obtain ⟨t, ht⟩ : ∃ t, t = kids[k] := ⟨_, rfl⟩
          have hc := (hcell k hkl).below bel
          rw [← ht] at hc
          have hmem : t ∈ kids := by rw [ht]; exact List.getElem_mem hkl
          have HT := hide (inL_mem hL t hmem)
          have Ht := hide ht
          clear ht hcell hK
          obtain ⟨c0, c1, c2, c3, c4, c5, c6⟩ := hc
          go_wp2_with fail
          have belW : Below w.heap.size w (wr.alloc (.cells #[.int .i64 t.hd.kind, .int .i64 t.hd.n, .int .i64 t.hd.range, .string t.hd.word, .slice t.sp.ma t.hd.ms.length t.sp.mc, .slice t.sp.ba t.hd.bs.length t.sp.bc, .slice t.sp.ka t.kids.length t.sp.kc] 27)) := bel.alloc bel.size _
          refine (ih t hmem _ (ET.In.below belW t HT.out)).mono ?_
          rintro e w1 ⟨rfl, b1⟩
          have bel1 : Below w.heap.size w w1 := belW.trans (b1.mono belW.size)
          obtain ⟨D, hD⟩ : ∃ D, D = typ t.ex := ⟨_, rfl⟩
          rw [← hD]
          have HD := hide hD
          clear hD
          by_cases hD0 : D = 0
          · have HJ' : Hid (typL (exL (kids.take (k + 1))) = 0) := typL_take hkl HJ.out (by rw [← Ht.out, ← HD.out]; exact hD0)
            have eD : (D == 0) = true := by simp [hD0]
            clear hD0
            go_wp2
            go_roundw
            case rel => exact ⟨k + 1, by omega, by go_num, HJ', bel1⟩
            case measure => simp [intOf]; omega
          · have eD : (D == 0) = false := by simp [hD0]
            go_wp2
            go_ret
            exact ⟨ret_int (a := D) (by rw [HV.out, typL_at hkl HJ.out (by rw [← Ht.out, ← HD.out]; exact hD0), ← Ht.out]; exact HD.out), bel1⟩
        · go_wp2
          go_ret
          exact ⟨ret_int (a := 0) (by rw [HV.out, typL_end (by have := HK.out; omega) HJ.out]), bel⟩

    · have e3 : (kd == 3) = false := by simp [h3]
      clear hA
      go_enter Tryz.func29, Tryz.ntmps29
      go_wp2
      go_loopw [26] (fun i wr => ∃ k : Nat, k ≤ kl ∧ i = .int .i64 k ∧ Hid (typL (exL (kids.take k)) = 0) ∧ Below w.heap.size w wr) (fun i _ => kl - (intOf i).toNat)
      case atStart => exact ⟨0, Nat.zero_le _, rfl, by show _ = _; simp [exL, typL], bel0⟩
      case round =>
        obtain ⟨k, hk, rfl, HJ, bel⟩ := hrel
        by_cases hlt : k < kl
        · have hkl : k < kids.length := by rw [← HK.out]; exact hlt
          obtain ⟨b, off, rfl, hbl, hcell⟩ := seg_expr hK hkl
          obtain ⟨t, ht⟩ : ∃ t, t = kids[k] := ⟨_, rfl⟩
          have hc := (hcell k hkl).below bel
          rw [← ht] at hc
          have hmem : t ∈ kids := by rw [ht]; exact List.getElem_mem hkl
          have HT := hide (inL_mem hL t hmem)
          have Ht := hide ht
          clear ht hcell hK
          obtain ⟨c0, c1, c2, c3, c4, c5, c6⟩ := hc
          go_wp2_with fail
          have belW : Below w.heap.size w (wr.alloc (.cells #[.int .i64 t.hd.kind, .int .i64 t.hd.n, .int .i64 t.hd.range, .string t.hd.word, .slice t.sp.ma t.hd.ms.length t.sp.mc, .slice t.sp.ba t.hd.bs.length t.sp.bc, .slice t.sp.ka t.kids.length t.sp.kc] 27)) := bel.alloc bel.size _
          refine (ih t hmem _ (ET.In.below belW t HT.out)).mono ?_
          rintro e w1 ⟨rfl, b1⟩
          have bel1 : Below w.heap.size w w1 := belW.trans (b1.mono belW.size)
          obtain ⟨D, hD⟩ : ∃ D, D = typ t.ex := ⟨_, rfl⟩
          rw [← hD]
          have HD := hide hD
          clear hD
          by_cases hD0 : D = 0
          · have HJ' : Hid (typL (exL (kids.take (k + 1))) = 0) := typL_take hkl HJ.out (by rw [← Ht.out, ← HD.out]; exact hD0)
            have eD : (D == 0) = true := by simp [hD0]
            clear hD0
            go_wp2
            go_roundw
            case rel => exact ⟨k + 1, by omega, by go_num, HJ', bel1⟩
            case measure => simp [intOf]; omega
          · have eD : (D == 0) = false := by simp [hD0]
            go_wp2
            go_ret
            exact ⟨ret_int (a := D) (by rw [HV.out, typL_at hkl HJ.out (by rw [← Ht.out, ← HD.out]; exact hD0), ← Ht.out]; exact HD.out), bel1⟩
        · go_wp2
          go_ret
          exact ⟨ret_int (a := 0) (by rw [HV.out, typL_end (by have := HK.out; omega) HJ.out]), bel⟩


set_option maxHeartbeats 2000000 in
theorem ptyped_any : ∀ t : ET, ∀ w : World, t.In w →
    Calls Tryz.prog 27 #[eval t] w fun e w' => e = .returned (.int .i64 (typ t.ex)) ∧ Below w.heap.size w w' := by
  refine ET.ind ?_
  intro h s kids ih w hin
  obtain ⟨kd, n, rg, wd, ms, bs⟩ := h
  obtain ⟨ma, mc, ba, bc, ka, kc⟩ := s
  simp only [ET.In] at hin
  obtain ⟨⟨_, _, hK⟩, ⟨_, _, lK, _⟩, hL⟩ := hin
  rw [typ_of]
  show Calls Tryz.prog _ #[.agg #[.int .i64 kd, .int .i64 n, .int .i64 rg, .string wd, .slice ma ms.length mc, .slice ba bs.length bc, .slice ka kids.length kc]] w _
  generalize ms.length = ml
  generalize bs.length = bl
  obtain ⟨kl, hkl⟩ : ∃ x, x = kids.length := ⟨_, rfl⟩
  rw [← hkl] at lK ⊢
  have HK := hide hkl
  clear hkl
  have bel0 : Below w.heap.size w (w.alloc (.cells #[.int .i64 kd, .int .i64 n, .int .i64 rg, .string wd, .slice ma ml mc, .slice ba bl bc, .slice ka kl kc] 27)) := (Below.refl _ _).alloc (Nat.le_refl _) _
  have F0 : (w.alloc (.cells #[.int .i64 kd, .int .i64 n, .int .i64 rg, .string wd, .slice ma ml mc, .slice ba bl bc, .slice ka kl kc] 27)).heap[w.heap.size]? = some (.cells #[.int .i64 kd, .int .i64 n, .int .i64 rg, .string wd, .slice ma ml mc, .slice ba bl bc, .slice ka kl kc] 27 (0, 0)) := heap_alloc_new w _
  have HF0 := hide F0
  have HB0 := hide bel0
  clear F0 bel0
  obtain ⟨R, hR⟩ : ∃ R, R = if kd = 3 ∧ kl = 1 ∧ vecL (exL kids) = false then (8 : Int) else typL (exL kids) := ⟨_, rfl⟩
  rw [← hR]
  have HR := hide hR
  clear hR
  by_cases hA : kd = 3 ∧ kl = 1
  · obtain ⟨rfl, rfl⟩ := hA
    have h0 : 0 < kids.length := by have := HK.out; omega
    have HO : Hid (vecL (exL kids) = vec (kids[0]).ex) := vecL_one HK.out.symm h0
    obtain ⟨b0, off0, rfl, hbl0, hcell0⟩ := seg_expr hK h0
    obtain ⟨t0, ht0⟩ : ∃ t, t = kids[0] := ⟨_, rfl⟩
    have hc := (hcell0 0 h0).below HB0.out
    rw [← ht0] at hc
    simp only [Nat.zero_mul, Nat.add_zero] at hc
    have hmem0 : t0 ∈ kids := by rw [ht0]; exact List.getElem_mem h0
    have HT0 := hide (inL_mem hL t0 hmem0)
    have Ht0 := hide ht0
    clear ht0 hcell0
    obtain ⟨c0, c1, c2, c3, c4, c5, c6⟩ := hc
    go_enter Tryz.func27, Tryz.ntmps27
    go_wp2_with fail
    refine (pvector_any t0 _ (ET.In.below HB0.out t0 HT0.out)).mono ?_
    rintro e w2 ⟨rfl, b2⟩
    have belA : Below w.heap.size w w2 := HB0.out.trans (b2.mono HB0.out.size)
    have F2 : w2.heap[w.heap.size]? = _ := below_block b2 HF0.out
    obtain ⟨p0, p1, p2, p3, p4, p5, p6⟩ := seven_cells F2
    clear F2 b2 c0 c1 c2 c3 c4 c5 c6
    obtain ⟨V, hV⟩ : ∃ V, V = vec t0.ex := ⟨_, rfl⟩
    rw [← hV]
    have HVe := hide hV
    clear hV
    cases V with
    | false =>
      go_wp2
      go_ret
      exact ⟨ret_int (a := 8) (by rw [HR.out, if_pos ⟨by trivial, by trivial, by rw [HO.out, ← Ht0.out, ← HVe.out]⟩]), belA⟩
    | true =>
      have HV : Hid (R = typL (exL kids)) := by
        show _ = _
        rw [HR.out, if_neg]
        intro hh
        rw [HO.out, ← Ht0.out, ← HVe.out] at hh
        simp at hh
      go_wp2
      go_loopw [26] (fun i wr => ∃ k : Nat, k ≤ 1 ∧ i = .int .i64 k ∧ Hid (typL (exL (kids.take k)) = 0) ∧ Below w.heap.size w wr) (fun i _ => 1 - (intOf i).toNat)
      case atStart => exact ⟨0, Nat.zero_le _, rfl, by show _ = _; simp [exL, typL], belA⟩
      case round =>
        obtain ⟨k, hk, rfl, HJ, bel⟩ := hrel
        by_cases hlt : k < 1
        · have hkl : k < kids.length := by rw [← HK.out]; exact hlt
          obtain ⟨b, off, hao, hbl, hcell⟩ := seg_expr hK hkl
          obtain ⟨rfl, rfl⟩ : b = b0 ∧ off = off0 := by simpa [eq_comm] using hao
          obtain ⟨t, ht⟩ : ∃ t, t = kids[k] := ⟨_, rfl⟩
          have hc := (hcell k hkl).below bel
          rw [← ht] at hc
          have hmem : t ∈ kids := by rw [ht]; exact List.getElem_mem hkl
          have HT := hide (inL_mem hL t hmem)
          have Ht := hide ht
          clear ht hcell hK
          obtain ⟨c0, c1, c2, c3, c4, c5, c6⟩ := hc
          go_wp2_with fail
          have belW : Below w.heap.size w (wr.alloc (.cells #[.int .i64 t.hd.kind, .int .i64 t.hd.n, .int .i64 t.hd.range, .string t.hd.word, .slice t.sp.ma t.hd.ms.length t.sp.mc, .slice t.sp.ba t.hd.bs.length t.sp.bc, .slice t.sp.ka t.kids.length t.sp.kc] 27)) := bel.alloc bel.size _
          refine (ih t hmem _ (ET.In.below belW t HT.out)).mono ?_
          rintro e w1 ⟨rfl, b1⟩
          have bel1 : Below w.heap.size w w1 := belW.trans (b1.mono belW.size)
          obtain ⟨D, hD⟩ : ∃ D, D = typ t.ex := ⟨_, rfl⟩
          rw [← hD]
          have HD := hide hD
          clear hD
          by_cases hD0 : D = 0
          · have HJ' : Hid (typL (exL (kids.take (k + 1))) = 0) := typL_take hkl HJ.out (by rw [← Ht.out, ← HD.out]; exact hD0)
            have eD : (D == 0) = true := by simp [hD0]
            clear hD0
            go_wp2
            go_roundw
            case rel => exact ⟨k + 1, by omega, by go_num, HJ', bel1⟩
            case measure => simp [intOf]; omega
          · have eD : (D == 0) = false := by simp [hD0]
            go_wp2
            go_ret
            exact ⟨ret_int (a := D) (by rw [HV.out, typL_at hkl HJ.out (by rw [← Ht.out, ← HD.out]; exact hD0), ← Ht.out]; exact HD.out), bel1⟩
        · go_wp2
          go_ret
          exact ⟨ret_int (a := 0) (by rw [HV.out, typL_end (by have := HK.out; omega) HJ.out]), bel⟩

  · have HV : Hid (R = typL (exL kids)) := by
      show _ = _
      rw [HR.out, if_neg]
      intro hh
      exact hA ⟨hh.1, hh.2.1⟩
    have bel0 := HB0.out
    by_cases h3 : kd = 3
    · subst h3
      have e1 : ((kl : Int) == 1) = false := by rw [beq_eq_false_iff_ne]; intro h; exact hA ⟨rfl, by omega⟩
      clear hA
      go_enter Tryz.func27, Tryz.ntmps27
      go_wp2
      go_loopw [26] (fun i wr => ∃ k : Nat, k ≤ kl ∧ i = .int .i64 k ∧ Hid (typL (exL (kids.take k)) = 0) ∧ Below w.heap.size w wr) (fun i _ => kl - (intOf i).toNat)
      case atStart => exact ⟨0, Nat.zero_le _, rfl, by show _ = _; simp [exL, typL], bel0⟩
      case round =>
        obtain ⟨k, hk, rfl, HJ, bel⟩ := hrel
        by_cases hlt : k < kl
        · have hkl : k < kids.length := by rw [← HK.out]; exact hlt
          obtain ⟨b, off, rfl, hbl, hcell⟩ := seg_expr hK hkl
          obtain ⟨t, ht⟩ : ∃ t, t = kids[k] := ⟨_, rfl⟩
          have hc := (hcell k hkl).below bel
          rw [← ht] at hc
          have hmem : t ∈ kids := by rw [ht]; exact List.getElem_mem hkl
          have HT := hide (inL_mem hL t hmem)
          have Ht := hide ht
          clear ht hcell hK
          obtain ⟨c0, c1, c2, c3, c4, c5, c6⟩ := hc
          go_wp2_with fail
          have belW : Below w.heap.size w (wr.alloc (.cells #[.int .i64 t.hd.kind, .int .i64 t.hd.n, .int .i64 t.hd.range, .string t.hd.word, .slice t.sp.ma t.hd.ms.length t.sp.mc, .slice t.sp.ba t.hd.bs.length t.sp.bc, .slice t.sp.ka t.kids.length t.sp.kc] 27)) := bel.alloc bel.size _
          refine (ih t hmem _ (ET.In.below belW t HT.out)).mono ?_
          rintro e w1 ⟨rfl, b1⟩
          have bel1 : Below w.heap.size w w1 := belW.trans (b1.mono belW.size)
          obtain ⟨D, hD⟩ : ∃ D, D = typ t.ex := ⟨_, rfl⟩
          rw [← hD]
          have HD := hide hD
          clear hD
          by_cases hD0 : D = 0
          · have HJ' : Hid (typL (exL (kids.take (k + 1))) = 0) := typL_take hkl HJ.out (by rw [← Ht.out, ← HD.out]; exact hD0)
            have eD : (D == 0) = true := by simp [hD0]
            clear hD0
            go_wp2
            go_roundw
            case rel => exact ⟨k + 1, by omega, by go_num, HJ', bel1⟩
            case measure => simp [intOf]; omega
          · have eD : (D == 0) = false := by simp [hD0]
            go_wp2
            go_ret
            exact ⟨ret_int (a := D) (by rw [HV.out, typL_at hkl HJ.out (by rw [← Ht.out, ← HD.out]; exact hD0), ← Ht.out]; exact HD.out), bel1⟩
        · go_wp2
          go_ret
          exact ⟨ret_int (a := 0) (by rw [HV.out, typL_end (by have := HK.out; omega) HJ.out]), bel⟩

    · have e3 : (kd == 3) = false := by simp [h3]
      clear hA
      go_enter Tryz.func27, Tryz.ntmps27
      go_wp2
      go_loopw [26] (fun i wr => ∃ k : Nat, k ≤ kl ∧ i = .int .i64 k ∧ Hid (typL (exL (kids.take k)) = 0) ∧ Below w.heap.size w wr) (fun i _ => kl - (intOf i).toNat)
      case atStart => exact ⟨0, Nat.zero_le _, rfl, by show _ = _; simp [exL, typL], bel0⟩
      case round =>
        obtain ⟨k, hk, rfl, HJ, bel⟩ := hrel
        by_cases hlt : k < kl
        · have hkl : k < kids.length := by rw [← HK.out]; exact hlt
          obtain ⟨b, off, rfl, hbl, hcell⟩ := seg_expr hK hkl
          obtain ⟨t, ht⟩ : ∃ t, t = kids[k] := ⟨_, rfl⟩
          have hc := (hcell k hkl).below bel
          rw [← ht] at hc
          have hmem : t ∈ kids := by rw [ht]; exact List.getElem_mem hkl
          have HT := hide (inL_mem hL t hmem)
          have Ht := hide ht
          clear ht hcell hK
          obtain ⟨c0, c1, c2, c3, c4, c5, c6⟩ := hc
          go_wp2_with fail
          have belW : Below w.heap.size w (wr.alloc (.cells #[.int .i64 t.hd.kind, .int .i64 t.hd.n, .int .i64 t.hd.range, .string t.hd.word, .slice t.sp.ma t.hd.ms.length t.sp.mc, .slice t.sp.ba t.hd.bs.length t.sp.bc, .slice t.sp.ka t.kids.length t.sp.kc] 27)) := bel.alloc bel.size _
          refine (ih t hmem _ (ET.In.below belW t HT.out)).mono ?_
          rintro e w1 ⟨rfl, b1⟩
          have bel1 : Below w.heap.size w w1 := belW.trans (b1.mono belW.size)
          obtain ⟨D, hD⟩ : ∃ D, D = typ t.ex := ⟨_, rfl⟩
          rw [← hD]
          have HD := hide hD
          clear hD
          by_cases hD0 : D = 0
          · have HJ' : Hid (typL (exL (kids.take (k + 1))) = 0) := typL_take hkl HJ.out (by rw [← Ht.out, ← HD.out]; exact hD0)
            have eD : (D == 0) = true := by simp [hD0]
            clear hD0
            go_wp2
            go_roundw
            case rel => exact ⟨k + 1, by omega, by go_num, HJ', bel1⟩
            case measure => simp [intOf]; omega
          · have eD : (D == 0) = false := by simp [hD0]
            go_wp2
            go_ret
            exact ⟨ret_int (a := D) (by rw [HV.out, typL_at hkl HJ.out (by rw [← Ht.out, ← HD.out]; exact hD0), ← Ht.out]; exact HD.out), bel1⟩
        · go_wp2
          go_ret
          exact ⟨ret_int (a := 0) (by rw [HV.out, typL_end (by have := HK.out; omega) HJ.out]), bel⟩


end Go.Proofs.YthohkokhimdamaaGreat
