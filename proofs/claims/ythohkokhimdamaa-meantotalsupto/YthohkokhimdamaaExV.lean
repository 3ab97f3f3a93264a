/-
  The walks of Vector and Typed, the program's and the document's.
-/
import Derived.Test.YthohkokhimdamaaRows
import Derived.Test.YthohkokhimdamaaExM
namespace Go.GrainU
open Go.RowKit

theorem vecL_take {l : List ET} {k : Nat} (h : k < l.length) : vecL (exL (l.take (k + 1))) = (vecL (exL (l.take k)) || vec (l[k]).ex) := by
  rw [List.take_add_one, List.getElem?_eq_getElem h]
  simp only [Option.toList_some]
  generalize l.take k = a
  induction a with
  | nil => simp [exL, vecL]
  | cons x r ih => simp [exL, vecL, ih, Bool.or_assoc]

theorem vecL_at {l : List ET} {k : Nat} (h : k < l.length) (h' : vec (l[k]).ex = true) : vecL (exL l) = true := by
  induction l generalizing k with
  | nil => simp at h
  | cons x r ih =>
    match k, h with
    | 0, _ => simp at h'; simp [exL, vecL, h']
    | k + 1, h => simp only [exL, vecL]; rw [ih (k := k) (by simpa using h) (by simpa using h')]; simp

theorem vecL_end {l : List ET} {k : Nat} (hk : k = l.length) (h : vecL (exL (l.take k)) = false) : vecL (exL l) = false := by
  rw [hk, List.take_length] at h; exact h

theorem typL_at {l : List ET} {k : Nat} (h : k < l.length) (h0 : typL (exL (l.take k)) = 0) (h' : typ (l[k]).ex ≠ 0) : typL (exL l) = typ (l[k]).ex := by
  induction l generalizing k with
  | nil => simp at h
  | cons x r ih =>
    match k, h with
    | 0, _ => simp at h'; simp [exL, typL, h']
    | k + 1, h =>
      simp only [List.take_succ_cons, exL, typL] at h0
      by_cases e : typ x.ex = 0
      · rw [if_pos e] at h0
        simp only [exL, typL, if_pos e, List.getElem_cons_succ]
        exact ih (by simpa using h) h0 (by simpa using h')
      · rw [if_neg e] at h0; exact absurd h0 e

theorem typL_take {l : List ET} {k : Nat} (h : k < l.length) (h0 : typL (exL (l.take k)) = 0) (h' : typ (l[k]).ex = 0) : typL (exL (l.take (k + 1))) = 0 := by
  induction l generalizing k with
  | nil => simp at h
  | cons x r ih =>
    match k, h with
    | 0, _ => simp at h'; simp [exL, typL, h']
    | k + 1, h =>
      simp only [List.take_succ_cons, exL, typL] at h0 ⊢
      by_cases e : typ x.ex = 0
      · rw [if_pos e] at h0 ⊢
        exact ih (by simpa using h) h0 (by simpa using h')
      · rw [if_neg e] at h0; exact absurd h0 e

/-- the cells, in a later world -/
theorem Cells7.below {w w' : World} {b o : Nat} {t : ET} (h : Cells7 w b o t) (hb : Below w.heap.size w w') : Cells7 w' b o t := by
  have hl : b < w.heap.size := World.block_lt_of_cell? w ⟨b, o, none⟩ h.1
  unfold Cells7 at h ⊢
  simp only [(bcell hb).1 b _ hl]
  exact h

theorem vec_of {h : Hd} {s : Sp} {kids : List ET} : vec (ET.ex (.node h s kids)) = (decide (h.kind = 2) || decide (h.kind = 3) || vecL (exL kids)) := by simp [ET.ex, vec]
theorem typ_of {h : Hd} {s : Sp} {kids : List ET} : typ (ET.ex (.node h s kids)) = if h.kind = 3 ∧ kids.length = 1 ∧ vecL (exL kids) = false then 8 else typL (exL kids) := by simp [ET.ex, typ, exL_length]

end Go.GrainU
namespace Go.Proofs.Ythohkokhimdamaa
open Go.RowKit Go.GrainU

set_option maxHeartbeats 1000000 in
theorem vindex_any (kids : List ET) (ih : ∀ t ∈ kids, ∀ w : World, t.In w → Calls Try.prog 46 #[eval t] w fun e w' => e = .returned (.bool (vec t.ex)) ∧ Below w.heap.size w w')
    (ka : Option Addr) (kl kc : Nat) (w : World) (hK : Seg w ka (ecells kids)) (hkl : kl = kids.length) (lK : kl ≤ 9223372036854775806) (hL : InL w kids) :
    Calls Try.prog 77 #[.slice ka kl kc, .func (.func 46) #[] #[]] w fun e w' => (∃ i : Int, e = .returned (.int .i64 i) ∧ decide (0 ≤ i) = vecL (exL kids)) ∧ Below w.heap.size w w' := by
  have HK := hide hkl
  clear hkl
  go_enter Try.func77, Try.ntmps77
  go_wp2
  go_loopw [8] (fun i wr => ∃ k : Nat, k ≤ kl ∧ i = .int .i64 k ∧ Hid (vecL (exL (kids.take k)) = false) ∧ Below w.heap.size w wr) (fun i _ => kl - (intOf i).toNat)
  case atStart => exact ⟨0, Nat.zero_le _, rfl, by show _ = _; simp [exL, vecL], Below.refl _ _⟩
  case round =>
    obtain ⟨k, hk, rfl, HJ, bel⟩ := hrel
    by_cases hlt : k < kl
    · have hkl : k < kids.length := by rw [← HK.out]; exact hlt
      obtain ⟨b, off, rfl, hbl, hcell⟩ := seg_expr hK hkl
      obtain ⟨t, ht⟩ : ∃ t, t = kids[k] := ⟨_, rfl⟩
      have hc := (hcell k hkl).below bel
      rw [← ht] at hc
      have hmem : t ∈ kids := by rw [ht]; exact List.getElem_mem hkl
      have HT := hide (inL_mem hL t hmem)
      have Ht := hide ht
      clear ht hcell hK
      obtain ⟨c0, c1, c2, c3, c4, c5, c6⟩ := hc
      go_wp2_with fail
      refine (ih t hmem _ (ET.In.below bel t HT.out)).mono ?_
      rintro e w1 ⟨rfl, b1⟩
      have bel1 : Below w.heap.size w w1 := bel.trans (b1.mono bel.size)
      obtain ⟨D, hD⟩ : ∃ D, D = vec t.ex := ⟨_, rfl⟩
      rw [← hD]
      have HD := hide hD
      clear hD
      cases D with
      | true =>
        go_wp2
        go_ret
        exact ⟨⟨k, rfl, by rw [vecL_at hkl (by rw [← Ht.out]; exact HD.out.symm)]; simp⟩, bel1⟩
      | false =>
        have HJ' : Hid (vecL (exL (kids.take (k + 1))) = false) := by show _ = _; rw [vecL_take hkl, HJ.out, ← Ht.out, ← HD.out]; rfl
        go_wp2
        go_roundw
        case rel => exact ⟨k + 1, by omega, by go_num, HJ', bel1⟩
        case measure => simp [intOf]; omega
    · go_wp2
      go_ret
      exact ⟨⟨-1, rfl, by rw [vecL_end (by have := HK.out; omega) HJ.out]; decide⟩, bel⟩

theorem vcont_any (kids : List ET) (ih : ∀ t ∈ kids, ∀ w : World, t.In w → Calls Try.prog 46 #[eval t] w fun e w' => e = .returned (.bool (vec t.ex)) ∧ Below w.heap.size w w')
    (ka : Option Addr) (kl kc : Nat) (w : World) (hK : Seg w ka (ecells kids)) (hkl : kl = kids.length) (lK : kl ≤ 9223372036854775806) (hL : InL w kids) :
    Calls Try.prog 62 #[.slice ka kl kc, .func (.func 46) #[] #[]] w fun e w' => e = .returned (.bool (vecL (exL kids))) ∧ Below w.heap.size w w' := by
  have HK := hide hkl
  clear hkl
  obtain ⟨D, hD⟩ : ∃ D, D = vecL (exL kids) := ⟨_, rfl⟩
  rw [← hD]
  have HD := hide hD
  clear hD
  go_enter Try.func62, Try.ntmps62
  go_wp2_with fail
  refine (vindex_any kids ih ka kl kc w hK HK.out lK hL).mono ?_
  rintro e w1 ⟨⟨i, rfl, hi⟩, b1⟩
  rw [← HD.out] at hi
  go_wp2
  go_ret
  exact ⟨rfl, b1⟩

set_option maxHeartbeats 1000000 in
theorem pvector_any : ∀ t : ET, ∀ w : World, t.In w →
    Calls Try.prog 46 #[eval t] w fun e w' => e = .returned (.bool (vec t.ex)) ∧ Below w.heap.size w w' := by
  refine ET.ind ?_
  intro h s kids ih w hin
  obtain ⟨kd, n, rg, wd, ms, bs⟩ := h
  obtain ⟨ma, mc, ba, bc, ka, kc⟩ := s
  simp only [ET.In] at hin
  obtain ⟨⟨_, _, hK⟩, ⟨_, _, lK, _⟩, hL⟩ := hin
  rw [vec_of]
  show Calls Try.prog _ #[.agg #[.int .i64 kd, .int .i64 n, .int .i64 rg, .string wd, .slice ma ms.length mc, .slice ba bs.length bc, .slice ka kids.length kc]] w _
  generalize ms.length = ml
  generalize bs.length = bl
  obtain ⟨kl, hkl⟩ : ∃ x, x = kids.length := ⟨_, rfl⟩
  rw [← hkl] at lK ⊢
  have HK := hide hkl
  clear hkl
  by_cases h2 : kd = 2
  · subst h2
    go_enter Try.func46, Try.ntmps46
    go_wp2_with fail
    go_ret
    exact ⟨by simp, (Below.refl _ _).alloc (Nat.le_refl _) _⟩
  by_cases h3 : kd = 3
  · subst h3
    go_enter Try.func46, Try.ntmps46
    go_wp2_with fail
    go_ret
    exact ⟨by simp, (Below.refl _ _).alloc (Nat.le_refl _) _⟩
  have HV : Hid ((decide (kd = 2) || decide (kd = 3) || vecL (exL kids)) = vecL (exL kids)) := by show _ = _; simp [h2, h3]
  have e2 : (kd == 2) = false := by simp [h2]
  have e3 : (kd == 3) = false := by simp [h3]
  go_enter Try.func46, Try.ntmps46
  go_wp2_with fail
  have bel : Below w.heap.size w (w.alloc (.cells #[.int .i64 kd, .int .i64 n, .int .i64 rg, .string wd, .slice ma ml mc, .slice ba bl bc, .slice ka kl kc] 27)) := (Below.refl _ _).alloc (Nat.le_refl _) _
  refine (vcont_any kids ih ka kl kc _ (hK.below bel) HK.out lK (hL.below bel)).mono ?_
  rintro e w1 ⟨rfl, b1⟩
  go_wp2
  go_ret
  exact ⟨ret_bool (a := vecL (exL kids)) HV.out.symm, bel.trans (b1.mono bel.size)⟩

end Go.Proofs.Ythohkokhimdamaa
