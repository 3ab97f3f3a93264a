/-
  The walks of what is wrong with an expression: the program's.
-/
import Derived.Test.YthohkokhimdamaaExC
import Derived.Test.YthohkokhimdamaaExT
namespace Go.GrainU
open Go.RowKit

theorem wr_of {h : Hd} {s : Sp} {kids : List ET} {d n : Int} : wr (ET.ex (.node h s kids)) d n = if 100 < n + 1 ∨ 20 < d then (4, n + 1) else if alone h kids.length = 0 then wrL (exL kids) (d + 1) (n + 1) else (alone h kids.length, n + 1) := by simp [ET.ex, wr, exL_length]

theorem wrL_take {l : List ET} {k : Nat} {d m : Int} (h : k < l.length) : ∀ n, wrL (exL (l.take k)) d n = (0, m) → (wr (l[k]).ex d m).1 = 0 → wrL (exL (l.take (k + 1))) d n = (0, (wr (l[k]).ex d m).2) := by
  induction l generalizing k with
  | nil => simp at h
  | cons x r ih =>
    intro n h0 h'
    match k, h with
    | 0, _ =>
      simp [exL, wrL] at h0
      subst h0
      simp at h'
      simp [exL, wrL, h']
    | k + 1, h =>
      simp only [List.take_succ_cons, exL, wrL] at h0 ⊢
      by_cases e : (wr x.ex d n).1 = 0
      · rw [if_pos e] at h0 ⊢
        exact ih (by simpa using h) _ h0 (by simpa using h')
      · rw [if_neg e] at h0; rw [h0] at e; simp at e

theorem wrL_at {l : List ET} {k : Nat} {d m : Int} (h : k < l.length) : ∀ n, wrL (exL (l.take k)) d n = (0, m) → (wr (l[k]).ex d m).1 ≠ 0 → wrL (exL l) d n = wr (l[k]).ex d m := by
  induction l generalizing k with
  | nil => simp at h
  | cons x r ih =>
    intro n h0 h'
    match k, h with
    | 0, _ =>
      simp [exL, wrL] at h0
      subst h0
      simp at h'
      simp [exL, wrL, h']
    | k + 1, h =>
      simp only [List.take_succ_cons, exL, wrL] at h0 ⊢
      by_cases e : (wr x.ex d n).1 = 0
      · rw [if_pos e] at h0 ⊢
        exact ih (by simpa using h) _ h0 (by simpa using h')
      · rw [if_neg e] at h0; rw [h0] at e; simp at e

theorem wrL_end {l : List ET} {k : Nat} {d m n : Int} (hk : k = l.length) (h : wrL (exL (l.take k)) d n = (0, m)) : wrL (exL l) d n = (0, m) := by rw [hk, List.take_length] at h; exact h

/-- a counter's cell -/
theorem one_cell7 {w : World} {B : Nat} {x : Value} {t : TypeId} (h : w.heap[B]? = some (.cells #[x] t (0, 0))) :
    w.cell? ⟨B, 0, none⟩ = some x ∧ w.frozen? ⟨B, 0, none⟩ = false ∧ B < w.heap.size := by
  refine ⟨by simp [World.cell?, h], by simp [World.frozen?, h], ?_⟩
  rcases Nat.lt_or_ge B w.heap.size with e | e
  · exact e
  · rw [Array.getElem?_eq_none (by exact e)] at h; cases h

theorem one_set7 {w : World} {B : Nat} {x : Value} {t : TypeId} (h : w.heap[B]? = some (.cells #[x] t (0, 0))) (y : Value) :
    (w.setCell ⟨B, 0, none⟩ y).heap[B]? = some (.cells #[y] t (0, 0)) := by
  simp [World.setCell, Array.getElem?_modify, h]

theorem grown_set1 {w : World} {B : Nat} {y : Value} : w.grownBy (w.setCell ⟨B, 0, none⟩ y) (some B) :=
  ⟨rfl, rfl, rfl, by simp, fun k hk hne => setCell_far (fun e => hne (by rw [e]))⟩

end Go.GrainU
namespace Go.Proofs.Ythohkokhimdamaa
open Go.RowKit Go.GrainU

set_option maxHeartbeats 2000000 in
theorem palone_any (t : ET) (w : World) (hin : t.In w) :
    Calls Try.prog 61 #[eval t] w fun e w' => e = .returned (.int .i64 (alone t.hd t.kids.length)) ∧ Below w.heap.size w w' := by
  obtain ⟨h, s, kids⟩ := t
  obtain ⟨kd, n, rg, wd, ms, bs⟩ := h
  obtain ⟨ma, mc, ba, bc, ka, kc⟩ := s
  simp only [ET.In] at hin
  obtain ⟨⟨hM, hB, hK⟩, ⟨lM, lB, lK, lW, fM, fB, _⟩, hL⟩ := hin
  obtain ⟨R, hR⟩ : ∃ R, R = alone ⟨kd, n, rg, wd, ms, bs⟩ kids.length := ⟨_, rfl⟩
  show Calls Try.prog _ #[.agg #[.int .i64 kd, .int .i64 n, .int .i64 rg, .string wd, .slice ma ms.length mc, .slice ba bs.length bc, .slice ka kids.length kc]] w fun e w' => e = .returned (.int .i64 (alone ⟨kd, n, rg, wd, ms, bs⟩ kids.length)) ∧ Below w.heap.size w w'
  rw [← hR]
  obtain ⟨kl, hkl⟩ : ∃ x, x = kids.length := ⟨_, rfl⟩
  obtain ⟨ml, hml⟩ : ∃ x, x = ms.length := ⟨_, rfl⟩
  obtain ⟨bl, hbl⟩ : ∃ x, x = bs.length := ⟨_, rfl⟩
  rw [← hkl] at hR lK ⊢
  rw [← hml] at lM ⊢
  rw [← hbl] at lB ⊢
  have HR := hide hR
  have HML := hide hml
  have HBL := hide hbl
  have HFM := hide fM
  have HFB := hide fB
  clear hkl hml hbl hR fM fB
  have bel0 : Below w.heap.size w (w.alloc (.cells #[.int .i64 kd, .int .i64 n, .int .i64 rg, .string wd, .slice ma ml mc, .slice ba bl bc, .slice ka kl kc] 27)) := (Below.refl _ _).alloc (Nat.le_refl _) _
  have HB0 := hide bel0
  clear bel0
  by_cases h1 : kd = 1
  · subst h1
    go_enter Try.func61, Try.ntmps61
    go_wp2_with fail
    refine (pkidsOf_any 1 _).mono ?_
    intro e w1 hh
    rw [hh.1, hh.2]
    clear hh
    simp only [show kidsK 1 = (0, true) from by simp [kidsK]]
    by_cases hk : kl = 0
    · have e0 : ((kl : Int) == 0) = true := by simp [hk]
      have HQ : Hid (R = if n < 0 ∨ 1000000 < n then 3 else 0) := by show _ = _; rw [HR.out, alone, if_pos rfl, if_pos hk]
      clear HR hk
      go_wp2_with fail
      refine (poutside_any n 0 1000000 _).mono ?_
      intro e w1 hh
      rw [hh.1, hh.2, ← HQ.out]
      clear hh
      go_wp2_with fail
      go_ret
      exact ⟨rfl, HB0.out⟩
    · have e0 : ((kl : Int) == 0) = false := by rw [beq_eq_false_iff_ne]; omega
      have HQ : Hid (R = 5) := by show _ = _; rw [HR.out, alone, if_pos rfl, if_neg hk]
      clear HR hk
      go_wp2_with fail
      go_ret
      exact ⟨ret_int (a := 5) HQ.out.symm, HB0.out⟩
  by_cases h2 : kd = 2
  · subst h2
    go_enter Try.func61, Try.ntmps61
    go_wp2_with fail
    refine (pkidsOf_any 2 _).mono ?_
    intro e w1 hh
    rw [hh.1, hh.2]
    clear hh
    simp only [show kidsK 2 = (0, true) from by simp [kidsK]]
    by_cases hk : kl = 0
    · have e0 : ((kl : Int) == 0) = true := by simp [hk]
      have HQ : Hid (R = winBad ⟨2, n, rg, wd, ms, bs⟩) := by show _ = _; rw [HR.out, alone, if_neg (by simp), if_pos rfl, if_pos hk]
      clear HR hk
      go_wp2_with fail
      refine (pwindow_any ⟨2, n, rg, wd, ms, bs⟩ ma ml mc ba bl bc ka kl kc _ (hM.below HB0.out) HML.out lM HFM.out).mono ?_
      rintro e w1 ⟨rfl, b1⟩
      rw [← HQ.out]
      go_wp2_with fail
      go_ret
      exact ⟨rfl, HB0.out.trans (b1.mono HB0.out.size)⟩
    · have e0 : ((kl : Int) == 0) = false := by rw [beq_eq_false_iff_ne]; omega
      have HQ : Hid (R = 5) := by show _ = _; rw [HR.out, alone, if_neg (by simp), if_pos rfl, if_neg hk]
      clear HR hk
      go_wp2_with fail
      go_ret
      exact ⟨ret_int (a := 5) HQ.out.symm, HB0.out⟩
  by_cases h3 : kd = 3
  · subst h3
    go_enter Try.func61, Try.ntmps61
    go_wp2_with fail
    refine (pkidsOf_any 3 _).mono ?_
    intro e w1 hh
    rw [hh.1, hh.2]
    clear hh
    simp only [show kidsK 3 = (1, true) from by simp [kidsK]]
    by_cases hk : kl = 1
    · have e0 : ((kl : Int) == 1) = true := by simp [hk]
      have HQ : Hid (R = allBad ⟨3, n, rg, wd, ms, bs⟩) := by show _ = _; rw [HR.out, alone, if_neg (by simp), if_neg (by simp), if_pos rfl, if_pos hk]
      clear HR hk
      go_wp2_with fail
      refine (pall_any ⟨3, n, rg, wd, ms, bs⟩ ma ml mc ba bl bc ka kl kc _ (hB.below HB0.out) HBL.out lB HFB.out).mono ?_
      rintro e w1 ⟨rfl, b1⟩
      rw [← HQ.out]
      go_wp2_with fail
      go_ret
      exact ⟨rfl, HB0.out.trans (b1.mono HB0.out.size)⟩
    · have e0 : ((kl : Int) == 1) = false := by rw [beq_eq_false_iff_ne]; omega
      have HQ : Hid (R = 5) := by show _ = _; rw [HR.out, alone, if_neg (by simp), if_neg (by simp), if_pos rfl, if_neg hk]
      clear HR hk
      go_wp2_with fail
      go_ret
      exact ⟨ret_int (a := 5) HQ.out.symm, HB0.out⟩
  by_cases h4 : kd = 4
  · subst h4
    go_enter Try.func61, Try.ntmps61
    go_wp2_with fail
    refine (pkidsOf_any 4 _).mono ?_
    intro e w1 hh
    rw [hh.1, hh.2]
    clear hh
    simp only [show kidsK 4 = (2, true) from by simp [kidsK]]
    by_cases hk : kl = 2
    · have e0 : ((kl : Int) == 2) = true := by simp [hk]
      have HQ : Hid (R = if has signs3 wd = true then 0 else 7) := by show _ = _; rw [HR.out, alone, if_neg (by simp), if_neg (by simp), if_neg (by simp), if_pos rfl, if_pos hk]
      clear HR hk
      go_wp2_with fail
      refine (pbin_any 4 n rg wd ma ml mc ba bl bc ka kl kc _).mono ?_
      rintro e w1 ⟨rfl, b1⟩
      rw [← HQ.out]
      go_wp2_with fail
      go_ret
      exact ⟨rfl, HB0.out.trans (b1.mono HB0.out.size)⟩
    · have e0 : ((kl : Int) == 2) = false := by rw [beq_eq_false_iff_ne]; omega
      have HQ : Hid (R = 5) := by show _ = _; rw [HR.out, alone, if_neg (by simp), if_neg (by simp), if_neg (by simp), if_pos rfl, if_neg hk]
      clear HR hk
      go_wp2_with fail
      go_ret
      exact ⟨ret_int (a := 5) HQ.out.symm, HB0.out⟩
  have HQ : Hid (R = 1) := by show _ = _; rw [HR.out, alone, if_neg h1, if_neg h2, if_neg h3, if_neg h4]
  clear HR
  go_enter Try.func61, Try.ntmps61
  go_wp2_with fail
  refine (pkidsOf_any kd _).mono ?_
  intro e w1 hh
  rw [hh.1, hh.2]
  clear hh
  simp only [show kidsK kd = (0, false) from by simp [kidsK, h1, h2, h3, h4]]
  go_wp2_with fail
  go_ret
  exact ⟨ret_int (a := 1) HQ.out.symm, HB0.out⟩

end Go.Proofs.Ythohkokhimdamaa
