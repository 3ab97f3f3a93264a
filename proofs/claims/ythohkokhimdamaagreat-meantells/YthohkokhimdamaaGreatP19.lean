/-
  The walk of what is wrong with an expression and its kids: the program's.
-/
import Derived.Test.YthohkokhimdamaaGreatP18
import Derived.Test.YthohkokhimdamaaGreatP06
import Derived.Test.YthohkokhimdamaaGreatP10
/-
  The walks of what is wrong with an expression: the program's.
-/
namespace Go.GrainU
open Go.RowKit

theorem wr_of {h : Hd} {s : Sp} {kids : List ET} {d n : Int} : wr (ET.ex (.node h s kids)) d n = if 100 < n + 1 ∨ 20 < d then (4, n + 1) else if alone h kids.length = 0 then wrL (exL kids) (d + 1) (n + 1) else (alone h kids.length, n + 1) := by simp [ET.ex, wr, exL_length]

theorem wrL_take {l : List ET} {k : Nat} {d m : Int} (h : k < l.length) : ∀ n, wrL (exL (l.take k)) d n = (0, m) → (wr (l[k]).ex d m).1 = 0 → wrL (exL (l.take (k + 1))) d n = (0, (wr (l[k]).ex d m).2) := by
  induction l generalizing k with
  | nil => simp at h
  | cons x r ih =>
    intro n h0 h'
    match k, h with
    | 0, _ =>
      simp [exL, wrL] at h0
      subst h0
      simp at h'
      simp [exL, wrL, h']
    | k + 1, h =>
      simp only [List.take_succ_cons, exL, wrL] at h0 ⊢
      by_cases e : (wr x.ex d n).1 = 0
      · rw [if_pos e] at h0 ⊢
        exact ih (by simpa using h) _ h0 (by simpa using h')
      · rw [if_neg e] at h0; rw [h0] at e; simp at e

theorem wrL_at {l : List ET} {k : Nat} {d m : Int} (h : k < l.length) : ∀ n, wrL (exL (l.take k)) d n = (0, m) → (wr (l[k]).ex d m).1 ≠ 0 → wrL (exL l) d n = wr (l[k]).ex d m := by
  induction l generalizing k with
  | nil => simp at h
  | cons x r ih =>
    intro n h0 h'
    match k, h with
    | 0, _ =>
      simp [exL, wrL] at h0
      subst h0
      simp at h'
      simp [exL, wrL, h']
    | k + 1, h =>
      simp only [List.take_succ_cons, exL, wrL] at h0 ⊢
      by_cases e : (wr x.ex d n).1 = 0
      · rw [if_pos e] at h0 ⊢
        exact ih (by simpa using h) _ h0 (by simpa using h')
      · rw [if_neg e] at h0; rw [h0] at e; simp at e

theorem wrL_end {l : List ET} {k : Nat} {d m n : Int} (hk : k = l.length) (h : wrL (exL (l.take k)) d n = (0, m)) : wrL (exL l) d n = (0, m) := by rw [hk, List.take_length] at h; exact h

/-- a counter's cell -/
theorem one_cell7 {w : World} {B : Nat} {x : Value} {t : TypeId} (h : w.heap[B]? = some (.cells #[x] t (0, 0))) :
    w.cell? ⟨B, 0, none⟩ = some x ∧ w.frozen? ⟨B, 0, none⟩ = false ∧ B < w.heap.size := by
  refine ⟨by simp [World.cell?, h], by simp [World.frozen?, h], ?_⟩
  rcases Nat.lt_or_ge B w.heap.size with e | e
  · exact e
  · rw [Array.getElem?_eq_none (by exact e)] at h; cases h

theorem one_set7 {w : World} {B : Nat} {x : Value} {t : TypeId} (h : w.heap[B]? = some (.cells #[x] t (0, 0))) (y : Value) :
    (w.setCell ⟨B, 0, none⟩ y).heap[B]? = some (.cells #[y] t (0, 0)) := by
  simp [World.setCell, Array.getElem?_modify, h]

theorem grown_set1 {w : World} {B : Nat} {y : Value} : w.grownBy (w.setCell ⟨B, 0, none⟩ y) (some B) :=
  ⟨rfl, rfl, rfl, by simp, fun k hk hne => setCell_far (fun e => hne (by rw [e]))⟩

end Go.GrainU
namespace Go.Proofs.YthohkokhimdamaaGreat
open Go.RowKit Go.GrainU

set_option maxHeartbeats 2000000 in
theorem palone_any (t : ET) (w : World) (hin : t.In w) :
    Calls Tryz.prog 65 #[eval t] w fun e w' => e = .returned (.int .i64 (alone t.hd t.kids.length)) ∧ Below w.heap.size w w' := by
  obtain ⟨h, s, kids⟩ := t
  obtain ⟨kd, n, rg, wd, ms, bs⟩ := h
  obtain ⟨ma, mc, ba, bc, ka, kc⟩ := s
  simp only [ET.In] at hin
  obtain ⟨⟨hM, hB, hK⟩, ⟨lM, lB, lK, lW, fM, fB, _⟩, hL⟩ := hin
  obtain ⟨R, hR⟩ : ∃ R, R = alone ⟨kd, n, rg, wd, ms, bs⟩ kids.length := ⟨_, rfl⟩
  show Calls Tryz.prog _ #[.agg #[.int .i64 kd, .int .i64 n, .int .i64 rg, .string wd, .slice ma ms.length mc, .slice ba bs.length bc, .slice ka kids.length kc]] w fun e w' => e = .returned (.int .i64 (alone ⟨kd, n, rg, wd, ms, bs⟩ kids.length)) ∧ Below w.heap.size w w'
  rw [← hR]
  obtain ⟨kl, hkl⟩ : ∃ x, x = kids.length := ⟨_, rfl⟩
  obtain ⟨ml, hml⟩ : ∃ x, x = ms.length := ⟨_, rfl⟩
  obtain ⟨bl, hbl⟩ : ∃ x, x = bs.length := ⟨_, rfl⟩
  rw [← hkl] at hR lK ⊢
  rw [← hml] at lM ⊢
  rw [← hbl] at lB ⊢
  have HR := hide hR
  have HML := hide hml
  have HBL := hide hbl
  have HFM := hide fM
  have HFB := hide fB
  clear hkl hml hbl hR fM fB
  have bel0 : Below w.heap.size w (w.alloc (.cells #[.int .i64 kd, .int .i64 n, .int .i64 rg, .string wd, .slice ma ml mc, .slice ba bl bc, .slice ka kl kc] 27)) := (Below.refl _ _).alloc (Nat.le_refl _) _
  have HB0 := hide bel0
  clear bel0
  by_cases h1 : kd = 1
  · subst h1
    go_enter Tryz.func65, Tryz.ntmps65
    go_wp2_with fail
    refine (pkidsOf_any 1 _).mono ?_
    intro e w1 hh
    rw [hh.1, hh.2]
    clear hh
    simp only [show kidsK 1 = (0, true) from by simp [kidsK]]
    by_cases hk : kl = 0
    · have e0 : ((kl : Int) == 0) = true := by simp [hk]
      have HQ : Hid (R = if n < 0 ∨ 1000000 < n then 3 else 0) := by show _ = _; rw [HR.out, alone, if_pos rfl, if_pos hk]
      clear HR hk
      go_wp2_with fail
      refine (poutside_any n 0 1000000 _).mono ?_
      intro e w1 hh
      rw [hh.1, hh.2, ← HQ.out]
      clear hh
      go_wp2_with fail
      go_ret
      exact ⟨rfl, HB0.out⟩
    · have e0 : ((kl : Int) == 0) = false := by rw [beq_eq_false_iff_ne]; omega
      have HQ : Hid (R = 5) := by show _ = _; rw [HR.out, alone, if_pos rfl, if_neg hk]
      clear HR hk
      go_wp2_with fail
      go_ret
      exact ⟨ret_int (a := 5) HQ.out.symm, HB0.out⟩
  by_cases h2 : kd = 2
  · subst h2
    go_enter Tryz.func65, Tryz.ntmps65
    go_wp2_with fail
    refine (pkidsOf_any 2 _).mono ?_
    intro e w1 hh
    rw [hh.1, hh.2]
    clear hh
    simp only [show kidsK 2 = (0, true) from by simp [kidsK]]
    by_cases hk : kl = 0
    · have e0 : ((kl : Int) == 0) = true := by simp [hk]
      have HQ : Hid (R = winBad ⟨2, n, rg, wd, ms, bs⟩) := by show _ = _; rw [HR.out, alone, if_neg (by simp), if_pos rfl, if_pos hk]
      clear HR hk
      go_wp2_with fail
      refine (pwindow_any ⟨2, n, rg, wd, ms, bs⟩ ma ml mc ba bl bc ka kl kc _ (hM.below HB0.out) HML.out lM HFM.out).mono ?_
      rintro e w1 ⟨rfl, b1⟩
      rw [← HQ.out]
      go_wp2_with fail
      go_ret
      exact ⟨rfl, HB0.out.trans (b1.mono HB0.out.size)⟩
    · have e0 : ((kl : Int) == 0) = false := by rw [beq_eq_false_iff_ne]; omega
      have HQ : Hid (R = 5) := by show _ = _; rw [HR.out, alone, if_neg (by simp), if_pos rfl, if_neg hk]
      clear HR hk
      go_wp2_with fail
      go_ret
      exact ⟨ret_int (a := 5) HQ.out.symm, HB0.out⟩
  by_cases h3 : kd = 3
  · subst h3
    go_enter Tryz.func65, Tryz.ntmps65
    go_wp2_with fail
    refine (pkidsOf_any 3 _).mono ?_
    intro e w1 hh
    rw [hh.1, hh.2]
    clear hh
    simp only [show kidsK 3 = (1, true) from by simp [kidsK]]
    by_cases hk : kl = 1
    · have e0 : ((kl : Int) == 1) = true := by simp [hk]
      have HQ : Hid (R = allBad ⟨3, n, rg, wd, ms, bs⟩) := by show _ = _; rw [HR.out, alone, if_neg (by simp), if_neg (by simp), if_pos rfl, if_pos hk]
      clear HR hk
      go_wp2_with fail
      refine (pall_any ⟨3, n, rg, wd, ms, bs⟩ ma ml mc ba bl bc ka kl kc _ (hB.below HB0.out) HBL.out lB HFB.out).mono ?_
      rintro e w1 ⟨rfl, b1⟩
      rw [← HQ.out]
      go_wp2_with fail
      go_ret
      exact ⟨rfl, HB0.out.trans (b1.mono HB0.out.size)⟩
    · have e0 : ((kl : Int) == 1) = false := by rw [beq_eq_false_iff_ne]; omega
      have HQ : Hid (R = 5) := by show _ = _; rw [HR.out, alone, if_neg (by simp), if_neg (by simp), if_pos rfl, if_neg hk]
      clear HR hk
      go_wp2_with fail
      go_ret
      exact ⟨ret_int (a := 5) HQ.out.symm, HB0.out⟩
  by_cases h4 : kd = 4
  · subst h4
    go_enter Tryz.func65, Tryz.ntmps65
    go_wp2_with fail
    refine (pkidsOf_any 4 _).mono ?_
    intro e w1 hh
    rw [hh.1, hh.2]
    clear hh
    simp only [show kidsK 4 = (2, true) from by simp [kidsK]]
    by_cases hk : kl = 2
    · have e0 : ((kl : Int) == 2) = true := by simp [hk]
      have HQ : Hid (R = if has signs3 wd = true then 0 else 7) := by show _ = _; rw [HR.out, alone, if_neg (by simp), if_neg (by simp), if_neg (by simp), if_pos rfl, if_pos hk]
      clear HR hk
      go_wp2_with fail
      refine (pbin_any 4 n rg wd ma ml mc ba bl bc ka kl kc _).mono ?_
      rintro e w1 ⟨rfl, b1⟩
      rw [← HQ.out]
      go_wp2_with fail
      go_ret
      exact ⟨rfl, HB0.out.trans (b1.mono HB0.out.size)⟩
    · have e0 : ((kl : Int) == 2) = false := by rw [beq_eq_false_iff_ne]; omega
      have HQ : Hid (R = 5) := by show _ = _; rw [HR.out, alone, if_neg (by simp), if_neg (by simp), if_neg (by simp), if_pos rfl, if_neg hk]
      clear HR hk
      go_wp2_with fail
      go_ret
      exact ⟨ret_int (a := 5) HQ.out.symm, HB0.out⟩
  have HQ : Hid (R = 1) := by show _ = _; rw [HR.out, alone, if_neg h1, if_neg h2, if_neg h3, if_neg h4]
  clear HR
  go_enter Tryz.func65, Tryz.ntmps65
  go_wp2_with fail
  refine (pkidsOf_any kd _).mono ?_
  intro e w1 hh
  rw [hh.1, hh.2]
  clear hh
  simp only [show kidsK kd = (0, false) from by simp [kidsK, h1, h2, h3, h4]]
  go_wp2_with fail
  go_ret
  exact ⟨ret_int (a := 1) HQ.out.symm, HB0.out⟩

end Go.Proofs.YthohkokhimdamaaGreat

/-
  The walk of what is wrong with an expression and its kids: the program's.
-/
namespace Go.Proofs.YthohkokhimdamaaGreat
open Go.RowKit Go.GrainU

set_option maxHeartbeats 2000000 in
theorem pcount_any : ∀ t : ET, ∀ (w0 w : World) (N : Nat) (d n : Int), t.In w0 → Below w0.heap.size w0 w → w0.heap.size ≤ N → w.heap[N]? = some (.cells #[.int .i64 n] 96 (0, 0)) → 0 ≤ n → n ≤ 100 → 0 ≤ d → d ≤ 1000 →
    Calls Tryz.prog 49 #[.pointer (some ⟨N, 0, none⟩), eval t, .int .i64 d] w fun e w' => e = .returned (.int .i64 (wr t.ex d n).1) ∧ w'.heap[N]? = some (.cells #[.int .i64 (wr t.ex d n).2] 96 (0, 0)) ∧ w.grownBy w' (some N) := by
  refine ET.ind ?_
  intro h s kids ih w0 w N d n hin hbel hN hcnt hn0 hn1 hd0 hd1
  obtain ⟨c0, t0, hlN⟩ := one_cell7 hcnt
  have HIN := hide hin
  obtain ⟨kd, nn, rg, wd, ms, bs⟩ := h
  obtain ⟨ma, mc, ba, bc, ka, kc⟩ := s
  simp only [ET.In] at hin
  obtain ⟨⟨_, _, hK⟩, ⟨_, _, lK, _⟩, hL⟩ := hin
  obtain ⟨R, hR⟩ : ∃ R, R = wr (ET.ex (.node ⟨kd, nn, rg, wd, ms, bs⟩ ⟨ma, mc, ba, bc, ka, kc⟩ kids)) d n := ⟨_, rfl⟩
  obtain ⟨A, hA⟩ : ∃ A, A = alone ⟨kd, nn, rg, wd, ms, bs⟩ kids.length := ⟨_, rfl⟩
  rw [← hR]
  rw [wr_of, ← hA] at hR
  have HAL := hide (palone_any (.node ⟨kd, nn, rg, wd, ms, bs⟩ ⟨ma, mc, ba, bc, ka, kc⟩ kids))
  simp only [eval, ET.hd, ET.sp, ET.kids, ← hA] at HAL
  show Calls Tryz.prog _ #[.pointer (some ⟨N, 0, none⟩), .agg #[.int .i64 kd, .int .i64 nn, .int .i64 rg, .string wd, .slice ma ms.length mc, .slice ba bs.length bc, .slice ka kids.length kc], .int .i64 d] w _
  generalize ms.length = ml at *
  generalize bs.length = bl at *
  obtain ⟨kl, hkl⟩ : ∃ x, x = kids.length := ⟨_, rfl⟩
  rw [← hkl] at lK HAL ⊢
  obtain ⟨Re, Rn⟩ := R
  have HR := hide hR
  have HA := hide hA
  have HKL := hide hkl
  clear hR hA hkl
  obtain ⟨V, hV⟩ : ∃ V, V = (w.setCell ⟨N, 0, none⟩ (.int .i64 (n + 1))).alloc (.cells #[.int .i64 kd, .int .i64 nn, .int .i64 rg, .string wd, .slice ma ml mc, .slice ba bl bc, .slice ka kl kc] 27) := ⟨_, rfl⟩
  have gr0 : w.grownBy V (some N) := by rw [hV]; exact grown_trans grown_set1 (World.grownBy_alloc _ _ none) (fun _ hk => by cases hk)
  have FN : V.heap[N]? = some (.cells #[.int .i64 (n + 1)] 96 (0, 0)) := by rw [hV, Below.heap_alloc _ _ _ (by simpa using hlN)]; exact one_set7 hcnt _
  have F0 : V.heap[w.heap.size]? = some (.cells #[.int .i64 kd, .int .i64 nn, .int .i64 rg, .string wd, .slice ma ml mc, .slice ba bl bc, .slice ka kl kc] 27 (0, 0)) := by
    have := heap_alloc_new (w.setCell ⟨N, 0, none⟩ (.int .i64 (n + 1))) (.cells #[.int .i64 kd, .int .i64 nn, .int .i64 rg, .string wd, .slice ma ml mc, .slice ba bl bc, .slice ka kl kc] 27)
    rw [hV]; simpa using this
  have belV : Below w0.heap.size w0 V := hbel.grown gr0 hbel.size (fun j hj => by cases hj; exact hN)
  have HV := hide hV
  have HF0 := hide F0
  clear hV F0
  by_cases h1 : 100 < n + 1
  · have HQ : Hid (Re = 4 ∧ Rn = n + 1) := by show _ ∧ _; have := HR.out; rw [if_pos (.inl h1)] at this; simpa using this
    clear HR
    go_enter Tryz.func49, Tryz.ntmps49
    go_wp2_with fail
    go_ret
    exact ⟨ret_int (a := 4) HQ.out.1.symm, by rw [← HV.out, HQ.out.2]; exact FN, by rw [← HV.out]; exact gr0⟩
  by_cases h2 : 20 < d
  · have HQ : Hid (Re = 4 ∧ Rn = n + 1) := by show _ ∧ _; have := HR.out; rw [if_pos (.inr h2)] at this; simpa using this
    clear HR
    go_enter Tryz.func49, Tryz.ntmps49
    go_wp2_with fail
    go_ret
    exact ⟨ret_int (a := 4) HQ.out.1.symm, by rw [← HV.out, HQ.out.2]; exact FN, by rw [← HV.out]; exact gr0⟩
  rw [if_neg (by omega)] at HR
  go_enter Tryz.func49, Tryz.ntmps49
  go_wp2_with fail
  rw [← HV.out]
  refine (HAL.out V (ET.In.below belV _ HIN.out)).mono ?_
  rintro e w1 ⟨rfl, b1⟩
  have gr1 : w.grownBy w1 (some N) := grown_call gr0 b1
  have FN1 := below_block b1 FN
  have bel1 : Below w0.heap.size w0 w1 := belV.trans (b1.mono belV.size)
  obtain ⟨p0, p1, p2, p3, p4, p5, p6⟩ := seven_cells (below_block b1 HF0.out)
  clear HAL HF0 HV FN gr0 b1
  by_cases hA0 : A = 0
  · have eA : (A == 0) = true := by simp [hA0]
    have HQ : Hid ((Re, Rn) = wrL (exL kids) (d + 1) (n + 1)) := by have := HR.out; rw [if_pos hA0] at this; exact this
    clear HR hA0
    go_wp2_with fail
    clear p0 p1 p2 p3 p4 p5 p6 c0 t0
    go_loopw [35] (fun i wr => ∃ (k : Nat) (m : Int), k ≤ kl ∧ i = .int .i64 k ∧ Hid (wrL (exL (kids.take k)) (d + 1) (n + 1) = (0, m)) ∧ 0 ≤ m ∧ m ≤ 100 ∧ wr.heap[N]? = some (.cells #[.int .i64 m] 96 (0, 0)) ∧ w.grownBy wr (some N)) (fun i _ => kl - (intOf i).toNat)
    case atStart => exact ⟨0, n + 1, Nat.zero_le _, rfl, by show _ = _; simp [exL, wrL], by omega, by omega, FN1, gr1⟩
    case round =>
      obtain ⟨k, m, hk, rfl, HJ, hm0, hm1, FN2, gr2⟩ := hrel
      have bel2 : Below w0.heap.size w0 wr := hbel.grown gr2 hbel.size (fun j hj => by cases hj; exact hN)
      by_cases hlt : k < kl
      · have hkl : k < kids.length := by rw [← HKL.out]; exact hlt
        obtain ⟨b, off, rfl, hbl, hcell⟩ := seg_expr hK hkl
        obtain ⟨t, ht⟩ : ∃ t, t = kids[k] := ⟨_, rfl⟩
        have hc := (hcell k hkl).below bel2
        rw [← ht] at hc
        have hmem : t ∈ kids := by rw [ht]; exact List.getElem_mem hkl
        have HT := hide (inL_mem hL t hmem)
        have Ht := hide ht
        clear ht hcell
        obtain ⟨c0, c1, c2, c3, c4, c5, c6⟩ := hc
        go_wp2_with fail
        have gr3 : w.grownBy (wr.alloc (.cells #[.int .i64 t.hd.kind, .int .i64 t.hd.n, .int .i64 t.hd.range, .string t.hd.word, .slice t.sp.ma t.hd.ms.length t.sp.mc, .slice t.sp.ba t.hd.bs.length t.sp.bc, .slice t.sp.ka t.kids.length t.sp.kc] 27)) (some N) := grown_trans gr2 (World.grownBy_alloc _ _ none) (fun _ hk => by cases hk)
        have bel3 := hbel.grown gr3 hbel.size (fun j hj => by cases hj; exact hN)
        have FN3 : (wr.alloc (.cells #[.int .i64 t.hd.kind, .int .i64 t.hd.n, .int .i64 t.hd.range, .string t.hd.word, .slice t.sp.ma t.hd.ms.length t.sp.mc, .slice t.sp.ba t.hd.bs.length t.sp.bc, .slice t.sp.ka t.kids.length t.sp.kc] 27)).heap[N]? = some (.cells #[.int .i64 m] 96 (0, 0)) := by
          rw [Below.heap_alloc _ _ _ (one_cell7 FN2).2.2]; exact FN2
        refine (ih t hmem w0 _ N (d + 1) m HT.out bel3 hN FN3 hm0 hm1 (by omega) (by omega)).mono ?_
        rintro e w4 ⟨rfl, FN4, gr4⟩
        have gr5 : w.grownBy w4 (some N) := grown_trans gr3 gr4 (fun _ hk => .inl hk)
        obtain ⟨⟨De, Dn⟩, hD⟩ : ∃ D, D = Go.GrainU.wr t.ex (d + 1) m := ⟨_, rfl⟩
        rw [← hD] at FN4 ⊢
        simp only at FN4 ⊢
        have HD := hide hD
        clear hD gr3 gr4 gr2 FN2 FN3 bel3 bel2
        by_cases hD0 : De = 0
        · have eD : (De == 0) = true := by simp [hD0]
          have HJ' : Hid (wrL (exL (kids.take (k + 1))) (d + 1) (n + 1) = (0, Dn)) := by
            show _ = _
            rw [wrL_take hkl _ HJ.out (by rw [← Ht.out, ← HD.out]; exact hD0), ← Ht.out, ← HD.out]
          have HM : Hid (0 ≤ Dn ∧ Dn ≤ 100) := by
            show _ ∧ _
            obtain ⟨_, q2, q3, _⟩ := wr_ok t.ex (d + 1) m hm0 (by rw [← HD.out]; exact hD0)
            rw [← HD.out] at q2
            simp only at q2
            omega
          clear hD0
          go_wp2_with fail
          go_roundw
          case rel => exact ⟨k + 1, Dn, by omega, by go_num, HJ', HM.out.1, HM.out.2, FN4, gr5⟩
          case measure => simp [intOf]; omega
        · have eD : (De == 0) = false := by simp [hD0]
          have HX : Hid ((Re, Rn) = (De, Dn)) := by
            show _ = _
            rw [HQ.out, wrL_at hkl _ HJ.out (by rw [← Ht.out, ← HD.out]; exact hD0), ← Ht.out, ← HD.out]
          have HX2 : Hid (De = Re ∧ Dn = Rn) := by
            show _ ∧ _
            have := HX.out
            simp at this
            exact ⟨this.1.symm, this.2.symm⟩
          clear HX
          go_wp2_with fail
          go_ret
          exact ⟨ret_int (a := De) HX2.out.1, by rw [← HX2.out.2]; exact FN4, gr5⟩
      · have HX : Hid (0 = Re ∧ m = Rn) := by
          show _ ∧ _
          have := HQ.out
          rw [wrL_end (by have := HKL.out; omega) HJ.out] at this
          simp at this
          exact ⟨this.1.symm, this.2.symm⟩
        go_wp2_with fail
        go_ret
        exact ⟨ret_int (a := 0) HX.out.1, by rw [← HX.out.2]; exact FN2, gr2⟩
  · have eA : (A == 0) = false := by simp [hA0]
    have HX : Hid (A = Re ∧ n + 1 = Rn) := by
      show _ ∧ _
      have := HR.out
      rw [if_neg hA0] at this
      simp at this
      exact ⟨this.1.symm, this.2.symm⟩
    clear HR
    go_wp2_with fail
    go_ret
    exact ⟨ret_int (a := A) HX.out.1, by rw [← HX.out.2]; exact FN1, gr1⟩

/-- what is wrong -/
theorem pwrong_any (t : ET) (w : World) (hin : t.In w) :
    Calls Tryz.prog 26 #[eval t] w fun e w' => e = .returned (.int .i64 (wr t.ex 1 0).1) ∧ Below w.heap.size w w' := by
  have HP := hide (pcount_any t)
  have HIN := hide hin
  clear hin
  obtain ⟨R, hR⟩ : ∃ R, R = wr t.ex 1 0 := ⟨_, rfl⟩
  rw [← hR]
  have HR := hide hR
  clear hR
  unfold eval at HP ⊢
  generalize t.hd.ms.length = ml at *
  generalize t.hd.bs.length = bl at *
  generalize t.kids.length = kl at *
  obtain ⟨V, hV⟩ : ∃ V, V = (w.alloc (.cells #[.int .i64 t.hd.kind, .int .i64 t.hd.n, .int .i64 t.hd.range, .string t.hd.word, .slice t.sp.ma ml t.sp.mc, .slice t.sp.ba bl t.sp.bc, .slice t.sp.ka kl t.sp.kc] 27)).alloc (.cells #[.int .i64 0] 96) := ⟨_, rfl⟩
  have belV : Below w.heap.size w V := by rw [hV]; exact ((Below.refl _ _).alloc (Nat.le_refl _) _).alloc (by simp) _
  have FN : V.heap[w.heap.size + 1]? = some (.cells #[.int .i64 0] 96 (0, 0)) := by
    have := heap_alloc_new (w.alloc (.cells #[.int .i64 t.hd.kind, .int .i64 t.hd.n, .int .i64 t.hd.range, .string t.hd.word, .slice t.sp.ma ml t.sp.mc, .slice t.sp.ba bl t.sp.bc, .slice t.sp.ka kl t.sp.kc] 27)) (.cells #[.int .i64 0] 96)
    rw [hV]; simpa using this
  have HV := hide hV
  clear hV
  go_enter Tryz.func26, Tryz.ntmps26
  go_wp2_with fail
  rw [← HV.out]
  refine (HP.out w V (w.heap.size + 1) 1 0 HIN.out belV (by omega) FN (by omega) (by omega) (by omega) (by omega)).mono ?_
  rintro e w1 ⟨rfl, _, gr⟩
  rw [← HR.out]
  have bel1 : Below w.heap.size w w1 := belV.grown gr belV.size (fun j hj => by cases hj; omega)
  go_wp2_with fail
  go_ret
  exact ⟨rfl, bel1⟩

end Go.Proofs.YthohkokhimdamaaGreat
