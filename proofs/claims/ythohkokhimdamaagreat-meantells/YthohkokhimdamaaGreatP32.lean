/-
  The walk of Ask.
-/
import Derived.Test.YthohkokhimdamaaGreatP31
import Derived.Deep.CutRange
/-
  The walk of Ask's sum.
-/
namespace Go.Proofs.YthohkokhimdamaaGreat
open Go.RowKit Go.GrainU

set_option maxRecDepth 100000 in
set_option maxHeartbeats 4000000 in
theorem masksum_any (l : List LT) (ao : Option Addr) (n cap C1 i : Nat) (a b : Int) (w : World) (k1 : w.cell? ⟨C1, 0, none⟩ = some (.slice ao n cap)) (hs : Seg w ao (tcells l)) (hl : LnsIn w l) (hR : ∀ x ∈ l, LnRt x) (hn : n = l.length) (hi : i < n) (hab : a ≤ b) :
    Calls Tryz.prog 12 #[.int .i64 i, .int .i64 a, .int .i64 b, .pointer (some ⟨C1, 0, none⟩)] w fun e w' => e = .returned (sumv (Grain.of (Grain.win (lt l i).smp a b)) 0) ∧ Below w.heap.size w w' := by
  have hkl : i < l.length := by rw [← hn]; exact hi
  obtain ⟨B, off, rfl, hb, hcell⟩ := seg_line hs hkl
  obtain ⟨x, hx⟩ : ∃ x, x = lt l i := ⟨_, rfl⟩
  obtain ⟨pn, hpn⟩ : ∃ pn, pn = x.smp.length := ⟨_, rfl⟩
  have okx : LnOk w x := by rw [hx]; exact hl _ (lt_mem hkl)
  have rtx : LnRt x := by rw [hx]; exact hR _ (lt_mem hkl)
  have c1 : w.cell? ⟨B, off + i * 2 + 1, none⟩ = some (.slice x.pa pn x.pc) := by rw [hpn, hx]; exact (hcell i hkl).2
  rw [← hx]
  have lc : C1 < w.heap.size := World.block_lt_of_cell? w _ k1
  have i2 : (i : Int) < (n : Int) := by omega
  have HPN := hide hpn
  clear hcell hs hl hR hn hx hpn hkl
  obtain ⟨q1, hq1, bd1⟩ := bdry rtx.smp a
  obtain ⟨q2, hq2, bd2⟩ := bdry rtx.smp b
  obtain ⟨h12, hcut⟩ := win_cut hab hq1 hq2 bd1 bd2
  have hp5 : pn ≤ 500 := by rw [HPN.out]; exact rtx.smp.few
  have hpc := okx.cap
  rw [← HPN.out] at hq1 hq2 bd1 bd2
  obtain ⟨so, hso⟩ : ∃ so, so = cutA x.pa x.pc q1 := ⟨_, rfl⟩
  obtain ⟨sl, hsl⟩ : ∃ sl, sl = q2 - q1 := ⟨_, rfl⟩
  obtain ⟨sd, hsd⟩ : ∃ sd, sd = x.pc - q1 := ⟨_, rfl⟩
  have hq2c : q2 ≤ x.pc := by have := hpc.1; rw [← HPN.out] at this; omega
  have segC : Seg w so (scells (Grain.win x.smp a b)) := by
    rw [hso, ← hcut]
    exact seg_cut okx.smp hpc.1 h12 (by rw [← HPN.out]; exact hq2)
  have hlen : sl = (Grain.win x.smp a b).length := by
    rw [hsl, ← hcut, List.length_drop, List.length_take, ← HPN.out]; omega
  have hsl1 : ∀ w, Sem.run Tryz.prog (Instr.slice 41 (.slice x.pa pn x.pc) (some (.int .i64 q1)) (some (.int .i64 q2)) none) w = .ok (.slice so sl sd) w := by
    intro w
    rw [run_slice_lh (P := Tryz.prog) (t := 41) (ht := by kernel_rfl) (a := x.pa) (len := pn) (cap := x.pc) (kl := .i64) (kh := .i64) (l := (q1 : Int)) (h := (q2 : Int)) (h0 := by omega) (h1 := by omega) (h2 := by omega)]
    rw [hso, hsl, hsd]
    simp [sliced, cutA, go_sem]
  have hsl2 : ∀ w, Sem.run Tryz.prog (Instr.sliceAt 41 (.slice x.pa pn x.pc) (some (.int .i64 q1)) (some (.int .i64 q2)) none) w = .ok (.slice so sl sd) w := by
    intro w
    rw [run_sliceAt_slice (P := Tryz.prog) (t := 41) (h := by kernel_rfl)]
    exact hsl1 w
  have HSL := hide hlen
  have sl5 : sl ≤ 1152921504606846975 := by omega
  have hp6 : pn ≤ 1000000 := by omega
  have HPa : Hid (∀ w', Below w.heap.size w w' → Calls Tryz.prog 14 #[.slice x.pa pn x.pc, .int .i64 a] w' fun e w'' => e = .returned (.int .i64 q1) ∧ Below w'.heap.size w' w'') := fun w' hb' => mahead_any x.smp a x.pa pn x.pc q1 w' (okx.smp.below hb') HPN.out hp6 hq1 bd1
  have HPb : Hid (∀ w', Below w.heap.size w w' → Calls Tryz.prog 14 #[.slice x.pa pn x.pc, .int .i64 b] w' fun e w'' => e = .returned (.int .i64 q2) ∧ Below w'.heap.size w' w'') := fun w' hb' => mahead_any x.smp b x.pa pn x.pc q2 w' (okx.smp.below hb') HPN.out hp6 hq2 bd2
  have HPc : Hid (∀ w', Below w.heap.size w w' → Calls Tryz.prog 13 #[.slice so sl sd] w' fun e w'' => ∃ J : Grain.Sm, Hid (J = Grain.of (Grain.win x.smp a b)) ∧ e = .returned (.agg #[.int .i64 J.c, .int .i64 J.t, .int .i64 J.mn, .int .i64 J.mx, .int .i64 J.f, .int .i64 J.l, .int .i64 J.r]) ∧ Below w'.heap.size w' w'') := fun w' hb' => of_len _ so sl sd w' (segC.below hb') HSL.out sl5
  clear hsl hsd hso hlen bd1 bd2 hq1 hq2 h12 hcut hpc hq2c hp5 segC okx rtx
  obtain ⟨W, hW⟩ : ∃ W, W = w.alloc (.cells #[.int .i64 0, .int .i64 0, .int .i64 0, .int .i64 0, .int .i64 0, .int .i64 0, .int .i64 0] 46) := ⟨_, rfl⟩
  have bel0 : Below w.heap.size w W := by rw [hW]; exact (Below.refl _ _).alloc (Nat.le_refl _) _
  have F0 : W.heap[w.heap.size]? = some (.cells #[.int .i64 0, .int .i64 0, .int .i64 0, .int .i64 0, .int .i64 0, .int .i64 0, .int .i64 0] 46 (0, 0)) := by rw [hW]; exact heap_alloc_new w _
  have HW := hide hW
  clear hW
  go_enter Tryz.func12, Tryz.ntmps12
  go_wp2_with fail
  rw [← HW.out]
  refine (HPa.out W bel0).mono ?_
  rintro e w1 ⟨rfl, b1⟩
  have e1 := below_step b1 bel0
  have F1 := below_block b1 F0
  clear k1 c1 F0 b1 HPa
  go_wp2_with fail
  refine (HPb.out w1 e1).mono ?_
  rintro e w2 ⟨rfl, b2⟩
  have e2 := below_step b2 e1
  have F2 := below_block b2 F1
  clear F1 b2 HPb e1
  go_wp2_with fail
  refine (HPc.out w2 e2).mono ?_
  rintro e w3 ⟨J, HJ, rfl, b3⟩
  have e3 := below_step b3 e2
  have F3 := below_block b3 F2
  clear F2 b3 HPc e2
  obtain ⟨p0, p1, p2, p3, p4, p5, p6⟩ := seven_cells F3
  obtain ⟨f0, f1, f2, f3, f4, f5, f6⟩ := seven_thaw F3
  go_wp2
  exact bodyPost_ret (v := sumv J 0) (by simp [sumv, results, Tryz.results12, go_sem, p0, p1, p2, p3, p4, p5, p6]) rfl ⟨by rw [HJ.out], below_set7 e3 (Nat.le_refl _) _ _ _ _ _ _ _⟩

end Go.Proofs.YthohkokhimdamaaGreat

/-
  The walk of Ask.
-/
namespace Go.GrainU
open Go.RowKit

/-- what is answered of what comes -/
def askOf (o : Option Mn) : List Cl × Int := match o with | none => ([], 3) | some m => (m.cs, 0)

theorem wrLF_zero (l : List Ln) (n : Nat) : ∀ k, (wrLF l n k).1 = 0 → ∀ j, k ≤ j → j < k + n → lnBad l j = 0 := by
  induction n with
  | zero => intro k _ j h1 h2; omega
  | succ n ih =>
    intro k h j h1 h2
    by_cases hb : lnBad l k = 0
    · rw [wrLF_ok hb] at h
      rcases Nat.lt_or_ge k j with h3 | h3
      · exact ih (k + 1) h j h3 (by omega)
      · rw [show j = k from by omega]; exact hb
    · rw [wrLF_no hb] at h; exact absurd h hb

theorem wrLn_zero {l : List Ln} (h : (wrLn l).1 = 0) : l.length ≤ 8 ∧ ∀ k, k < l.length → lnBad l k = 0 := by
  unfold wrLn at h
  by_cases h8 : 8 < l.length
  · rw [if_pos h8] at h; simp at h
  · rw [if_neg h8] at h
    exact ⟨by omega, fun k hk => wrLF_zero l l.length 0 h k (Nat.zero_le _) (by omega)⟩

theorem lnBad_zero {l : List Ln} {k : Nat} (h : lnBad l k = 0) : wrongS (lser l k) = 0 ∧ (Grain.wrong (lsmp l k)).1 = 0 := by
  unfold lnBad at h
  by_cases h1 : lnAlone (lser l k, lsmp l k) = 0
  · unfold lnAlone at h1
    by_cases h2 : wrongS (lser l k) = 0
    · rw [if_pos h2] at h1; exact ⟨h2, h1⟩
    · rw [if_neg h2] at h1; exact absurd h1 h2
  · rw [if_neg h1] at h; exact absurd h h1

theorem wrongS_len {s : Lb} (h : wrongS s = 0) : s.length ≤ 4 := by
  unfold wrongS at h
  by_cases h4 : 4 < s.length
  · rw [if_pos h4] at h; simp at h
  · omega

theorem right_lines {l : List LT} (h : (wrLn (lns l)).1 = 0) : l.length ≤ 8 ∧ ∀ x ∈ l, LnRt x := by
  obtain ⟨h8, hk⟩ := wrLn_zero h
  rw [lns_len] at h8 hk
  refine ⟨h8, fun x hx => ?_⟩
  obtain ⟨k, hk', rfl⟩ := List.mem_iff_getElem.1 hx
  have hb := lnBad_zero (hk k hk')
  rw [lser_lt hk', lsmp_lt hk'] at hb
  have e : lt l k = l[k] := by simp [lt, List.getD, List.getElem?_eq_getElem hk']
  rw [e] at hb
  exact ⟨wrongS_len hb.1, Grain.right_of hb.2⟩

/-- the series of lines, as they lie there -/
def sts (l : List LT) : List ST := l.map fun x => ⟨x.ser, x.sa, x.sc⟩

theorem sts_len (l : List LT) : (sts l).length = l.length := by simp [sts]
theorem st_sts {l : List LT} {k : Nat} (hk : k < l.length) : st (sts l) k = ⟨(lt l k).ser, (lt l k).sa, (lt l k).sc⟩ := by
  simp [st, sts, lt, List.getD, List.getElem?_eq_getElem hk]

/-- the row of the first k series, and what is made behind them -/
def srow (l : List LT) (n k : Nat) : List Value := hcells (sts (l.take k)) ++ List.replicate (n - k) (.slice none 0 0)

theorem hcells_append (a b : List ST) : hcells (a ++ b) = hcells a ++ hcells b := by
  induction a with
  | nil => rfl
  | cons x r ih => simp [hcells, ih]

theorem srow_set {l : List LT} {n k : Nat} (hk : k < l.length) (hn : k < n) : (srow l n k).set k (.slice (lt l k).sa (lt l k).ser.length (lt l k).sc) = srow l n (k + 1) := by
  have h1 : (hcells (sts (l.take k))).length = k := by rw [hcells_length, sts_len, List.length_take]; omega
  unfold srow
  rw [List.set_append_right _ _ (by omega), h1, Nat.sub_self, show n - k = (n - (k + 1)) + 1 from by omega, List.replicate_succ, List.set_cons_zero, take_lt hk]
  simp only [sts, List.map_append, List.map_cons, List.map_nil]
  rw [hcells_append]
  simp [hcells]

theorem srow_at {l : List LT} {n k : Nat} (hk : k < l.length) (hn : k < n) : (srow l n k)[k]? = some (.slice none 0 0) := by
  have h1 : (hcells (sts (l.take k))).length = k := by rw [hcells_length, sts_len, List.length_take]; omega
  unfold srow
  rw [List.getElem?_append_right (by omega), h1, Nat.sub_self, List.getElem?_replicate, if_pos (by omega)]

theorem srow_all {l : List LT} {n : Nat} (hn : n = l.length) : srow l n n = hcells (sts l) := by
  unfold srow
  rw [List.take_of_length_le (by omega), Nat.sub_self]; simp

/-- no time is below 0 -/
theorem win_max {s : List (Int × Int)} (h : Grain.Right s) (a b : Int) : Grain.win s (max 0 a) b = Grain.win s a b := by
  unfold Grain.win
  apply List.filter_congr
  intro x hx
  obtain ⟨q, hq, rfl⟩ := List.mem_iff_getElem.1 hx
  have := h.rng q hq
  simp [Grain.tm, List.getD, List.getElem?_eq_getElem hq] at this
  simp only [decide_eq_decide]
  omega

/-- what Ask's sum comes to -/
def askS (l : List LT) (i : Nat) (a b : Int) : Except Int Grain.Sm := .ok (Grain.of (Grain.win (lt l i).smp a b))

theorem winT_lines {l : List LT} (hR : ∀ x ∈ l, LnRt x) (h : Hd) (time : Int) : ∀ k, k ≤ l.length → winT (fun i => askS l i (max 0 (time - h.range)) time) h (sts l) k = .ok (winC (lns (l.take k)) h time) := by
  intro k
  induction k with
  | zero => intro _; rfl
  | succ k ih =>
    intro hk
    have hk' : k < l.length := by omega
    have hx : winX (lt l k).ln h time = if says (lt l k).ser h.ms = true then (if (valP h.word (Grain.of (Grain.win (lt l k).smp (time - h.range) time))).2 = true then [((lt l k).ser, (valP h.word (Grain.of (Grain.win (lt l k).smp (time - h.range) time))).1)] else []) else [] := rfl
    rw [winT, ih (by omega), st_sts hk', lns_take hk', winC_append]
    simp only [askS]
    rw [win_max (hR _ (lt_mem hk')).smp]
    simp only [winC, List.append_nil]
    rw [hx]
    by_cases e : says (lt l k).ser h.ms = true
    · rw [if_pos e, if_pos e]
    · rw [if_neg e, if_neg e]; simp

theorem overW_lines {l : List LT} (hR : ∀ x ∈ l, LnRt x) (time : Int) : overW (askS l) (sts l) l.length time = fun h => .ok (winC (lns l) h time) := by
  funext h
  unfold overW
  rw [winT_lines hR h time l.length (Nat.le_refl _), List.take_of_length_le (Nat.le_refl _)]

theorem overE_lines {l : List LT} (hR : ∀ x ∈ l, LnRt x) (time : Int) (e : Ex) : overE (askS l) (sts l) l.length time e = if chk e time = 0 then exc (ev (lns l) time e) else .error (chk e time) := by
  unfold overE
  rw [overW_lines hR, evg_ev]

theorem ask_over {l : List LT} (h0 : (wrLn (lns l)).1 = 0) (time : Int) (e : Ex) : (∀ x, overE (askS l) (sts l) l.length time e = .error x → GrainU.ask (lns l) e time = ([], x)) ∧ (∀ m, overE (askS l) (sts l) l.length time e = .ok m → GrainU.ask (lns l) e time = (m.cs, 0)) := by
  have hR := (right_lines h0).2
  rw [overE_lines hR]
  unfold GrainU.ask
  rw [if_pos h0]
  by_cases h1 : chk e time = 0
  · rw [if_pos h1, if_pos h1]
    cases ev (lns l) time e with
    | none => exact ⟨fun x hx => by simp [exc] at hx; rw [hx], fun m hm => by simp [exc] at hm⟩
    | some q => exact ⟨fun x hx => by simp [exc] at hx, fun m hm => by simp [exc] at hm; rw [hm]⟩
  · rw [if_neg h1, if_neg h1]
    exact ⟨fun x hx => by injection hx with hx; rw [hx], fun m hm => by cases hm⟩

end Go.GrainU
namespace Go.Proofs.YthohkokhimdamaaGreat
open Go.RowKit Go.GrainU

/-- Over, as Ask asks it -/
theorem maskover_any (l : List LT) (t : ET) (time : Int) (ao so : Option Addr) (n cap sc C1 : Nat) (w : World) (h0 : (wrLn (lns l)).1 = 0) (k1 : w.cell? ⟨C1, 0, none⟩ = some (.slice ao n cap)) (hs : Seg w ao (tcells l)) (hl : LnsIn w l) (hso : Seg w so (hcells (sts l))) (hin : t.In w) (hn : n = l.length) :
    Calls Tryz.prog 11 #[.slice so n sc, eval t, .int .i64 time, .func (.func 12) #[] #[.pointer (some ⟨C1, 0, none⟩)]] w fun e w' => ∃ cts co N d, e = .returned (.tuple #[.slice co N d, .int .i64 (GrainU.ask (lns l) t.ex time).2]) ∧ cls cts = (GrainU.ask (lns l) t.ex time).1 ∧ N = cts.length ∧ CsIn w' co cts ∧ Below w.heap.size w w' := by
  obtain ⟨h8, hR⟩ := right_lines h0
  have lc : C1 < w.heap.size := World.block_lt_of_cell? w _ k1
  have hB : Beside none w.heap.size (fun _ w' => Below w.heap.size w w') := ⟨fun C h => (by cases h), fun c w1 w2 (a : Below _ _ _) b => a.trans b, fun c w1 _ => Solo.no w1⟩
  have hSs : SsIn w so (sts l) := by
    refine ⟨hso, fun x hx => ?_, fun x hx => ?_, fun x hx => ?_⟩
    · obtain ⟨y, hy, rfl⟩ := List.mem_map.1 hx; exact (hl y hy).ser
    · obtain ⟨y, hy, rfl⟩ := List.mem_map.1 hx; exact (hl y hy).nil
    · obtain ⟨y, hy, rfl⟩ := List.mem_map.1 hx; exact (hR y hy).ser
  have hgd : ∀ h, winBad h = 0 → ∀ c, overW (askS l) (sts l) n time h = .ok c → Gd ⟨false, c⟩ := by
    intro h _ c hc
    rw [hn, overW_lines hR] at hc
    injection hc with hc
    rw [← hc]
    exact gd_win (l := lns l) (fun x hx => by
      obtain ⟨y, hy, rfl⟩ := List.mem_map.1 hx
      exact ⟨(hR y hy).ser, (hR y hy).smp⟩) (by rw [lns_len]; exact h8) h time
  have hS : ∀ i a s, askS l i a time = .ok s → -9223372036854775808 ≤ s.t ∧ s.t ≤ 9223372036854775807 := by
    intro i a s hs'
    unfold askS at hs'
    injection hs' with hs'
    have hx : Grain.Right (lt l i).smp := by
      by_cases hi : i < l.length
      · exact (hR _ (lt_mem hi)).smp
      · have : (lt l i).smp = [] := by simp [lt, lt0, List.getD, List.getElem?_eq_none (Nat.le_of_not_lt hi)]
        rw [this]
        exact ⟨by simp, fun k hk => by simp at hk, fun k hk => by simp at hk⟩
    have hl5 : (Grain.win (lt l i).smp a time).length ≤ 500 := Nat.le_trans (Grain.win_len _ _ _) hx.few
    have h1 := (of_ok (Grain_win_val hx a time) hl5).t
    rw [hs'] at h1
    omega
  refine (mover_any C1 (sts l) t (askS l) (fun _ _ _ => 0) (fun _ w' => Below w.heap.size w w') none w.heap.size hB so n sc time w 0 (Below.refl _ _) (Nat.le_refl _) hSs hin (by rw [sts_len]; exact hn) (by rw [hn]; exact h8) hS hgd ?_).mono ?_
  · intro _ _ i a w' c' hi _ ha hI _
    refine (masksum_any l ao n cap C1 i a time w' ((hI.cell (p := ⟨C1, 0, none⟩) lc).trans k1) (hs.below hI) (hl.below hI) hR hn hi ha).mono ?_
    rintro e w2 ⟨rfl, b2⟩
    exact ⟨.inr ⟨_, rfl, rfl, below_step b2 hI⟩, Bel.of b2 none⟩
  · rintro e w' ⟨hp, hb⟩
    rw [hn] at hp
    obtain ⟨a1, a2⟩ := ask_over h0 time t.ex
    rcases hp with ⟨x, hx, ho, rfl⟩ | ⟨nb, cts, co, M, d, rfl, ho, hM, hC, _⟩
    · have := a1 x ho
      exact ⟨[], none, 0, 0, by rw [this], by rw [this]; rfl, rfl, ⟨.inl rfl, fun c hc => (by cases hc), .inl rfl, fun c hc => (by cases hc)⟩, hb.toBelow⟩
    · have := a2 _ ho
      exact ⟨cts, co, M, d, by rw [this], by rw [this], hM, hC, hb.toBelow⟩

set_option maxRecDepth 100000 in
set_option maxHeartbeats 4000000 in
theorem mask_any (l : List LT) (t : ET) (time : Int) (ao : Option Addr) (n cap : Nat) (w : World) (hs : Seg w ao (tcells l)) (hl : LnsIn w l) (hin : t.In w) (hn : n = l.length) :
    Calls Tryz.prog 4 #[.slice ao n cap, eval t, .int .i64 time] w fun e w' => ∃ cts co N d, e = .returned (.tuple #[.slice co N d, .int .i64 (GrainU.ask (lns l) t.ex time).2]) ∧ cls cts = (GrainU.ask (lns l) t.ex time).1 ∧ N = cts.length ∧ CsIn w' co cts ∧ Below w.heap.size w w' := by
  obtain ⟨i0, hi, hz0, hz1, hz2⟩ := info_parts (P := Tryz.prog) (e := 40) (z := .slice none 0 0) (size := 1) (bytes := 24) (by kernel_rfl)
  obtain ⟨E, hE⟩ : ∃ E, E = (wrLn (lns l)).1 := ⟨_, rfl⟩
  obtain ⟨A, hA⟩ : ∃ A, A = (wrLn (lns l)).2 := ⟨_, rfl⟩
  obtain ⟨R, hR⟩ : ∃ R, R = GrainU.ask (lns l) t.ex time := ⟨_, rfl⟩
  have HR : Hid (E ≠ 0 → R = ([], E)) := by
    intro h
    rw [hR]
    unfold GrainU.ask
    rw [if_neg (by rw [← hE]; exact h), ← hE]
  have PW := hide (fun w' (hb : Below w.heap.size w w') => mwrong_any l ao n cap w' (hs.below hb) (hl.below hb) hn)
  rw [← hE, ← hA] at PW
  have PO := hide (fun (h0 : E = 0) (so : Option Addr) (sc C1 : Nat) w' (hb : Below w.heap.size w w') (k1 : w'.cell? ⟨C1, 0, none⟩ = some (.slice ao n cap)) (hso : Seg w' so (hcells (sts l))) => maskover_any l t time ao so n cap sc C1 w' (hE.symm.trans h0) k1 (hs.below hb) (hl.below hb) hso (ET.In.below hb t hin) hn)
  rw [← hR] at PO ⊢
  have H8 : Hid (E = 0 → n ≤ 8) := fun h => by rw [hn]; exact (right_lines (hE.symm.trans h)).1
  have HN := hide hn
  have HS := hide hs
  clear hR hE hA hs hl hin hn
  unfold eval at PO ⊢
  generalize t.hd.ms.length = ml at PO ⊢
  generalize t.hd.bs.length = bl at PO ⊢
  generalize t.kids.length = kl at PO ⊢
  obtain ⟨W, hW⟩ : ∃ W, W = (w.alloc (.cells #[.slice ao n cap] 22)).alloc (.cells #[.int .i64 t.hd.kind, .int .i64 t.hd.n, .int .i64 t.hd.range, .string t.hd.word, .slice t.sp.ma ml t.sp.mc, .slice t.sp.ba bl t.sp.bc, .slice t.sp.ka kl t.sp.kc] 27) := ⟨_, rfl⟩
  have bel0 : Below w.heap.size w W := by rw [hW]; exact ((Below.refl _ _).alloc (Nat.le_refl _) _).alloc (by simp) _
  have A0 : W.heap[w.heap.size]? = some (.cells #[.slice ao n cap] 22 (0, 0)) := by rw [hW, Below.heap_alloc _ _ _ (by simp)]; exact heap_alloc_new w _
  have F0 : W.heap[w.heap.size + 1]? = some (.cells #[.int .i64 t.hd.kind, .int .i64 t.hd.n, .int .i64 t.hd.range, .string t.hd.word, .slice t.sp.ma ml t.sp.mc, .slice t.sp.ba bl t.sp.bc, .slice t.sp.ka kl t.sp.kc] 27 (0, 0)) := by
    have := heap_alloc_new (w.alloc (.cells #[.slice ao n cap] 22)) (.cells #[.int .i64 t.hd.kind, .int .i64 t.hd.n, .int .i64 t.hd.range, .string t.hd.word, .slice t.sp.ma ml t.sp.mc, .slice t.sp.ba bl t.sp.bc, .slice t.sp.ka kl t.sp.kc] 27)
    rw [hW]; simpa using this
  have HW := hide hW
  clear hW
  go_enter Tryz.func4, Tryz.ntmps4
  go_wp2_with fail
  rw [← HW.out]
  refine (PW.out W bel0).mono ?_
  rintro e w1 ⟨rfl, b1⟩
  have A1 := below_block b1 A0
  have F1 := below_block b1 F0
  have bw : Below w.heap.size w w1 := bel0.trans (b1.mono bel0.size)
  obtain ⟨V, hV⟩ : ∃ V, V = w1.alloc (.cells #[.int .i64 E, .int .i64 A] 34) := ⟨_, rfl⟩
  have bV : Below w1.heap.size w1 V := by rw [hV]; exact (Below.refl _ _).alloc (Nat.le_refl _) _
  have bW : Below w.heap.size w V := bw.trans (bV.mono bw.size)
  have HV := hide hV
  clear hV PW A0 F0
  by_cases h0 : E = 0
  · subst h0
    have n8 := H8.out rfl
    have A2 := below_block bV A1
    have F2 := below_block bV F1
    have k0 : w1.cell? ⟨w.heap.size, 0, none⟩ = some (.slice ao n cap) := by simp [World.cell?, A1]
    have l0 : w.heap.size < w1.heap.size := lt_of_block A1
    clear HR H8
    go_wp2_with (at_make; refine wpList_make_full _ rfl _ _ 38 rfl w1.heap.size 40 i0 (.slice none 0 0) 1 Tryz.underlying38 hi hz0 hz1 .i64 .i64 _ _ n rfl rfl rfl rfl (by rw [hz2]; omega) (by unfold maxLen; omega) (by simp) ?_)
    intro w4 own4 gr4
    have hmc : (madeCells #[Value.slice none 0 0] n).toList = srow l n 0 := by
      rw [toList_madeCells_one]
      simp [srow, sts, hcells]
    rw [hmc] at own4
    have b4 : Below w1.heap.size w1 w4 := ((Below.refl _ _).alloc (Nat.le_refl _) _).grown gr4 (by simp) (fun k hk => by cases hk)
    have A4 := below_block b4 A1
    have F4 := below_block b4 F1
    have bX : Below w.heap.size w w4 := bw.trans (b4.mono bw.size)
    have k4 : w4.cell? ⟨w.heap.size, 0, none⟩ = some (.slice ao n cap) := by simp [World.cell?, A4]
    clear hmc gr4 k0 l0 A2 F2 HV bV bW
    go_wp2
    go_loopw [24] (fun i wr => ∃ k : Nat, k ≤ n ∧ i = .int .i64 k ∧ wr.ownsRow w1.heap.size 40 1 (.slice (some ⟨w1.heap.size + 1, 0, none⟩) n n) n (srow l n k) ∧ Below w1.heap.size w1 wr) (fun i _ => n - (intOf i).toNat)
    case atStart => exact ⟨0, Nat.zero_le _, rfl, own4, b4⟩
    case round =>
      obtain ⟨k, hk, rfl, own, bel⟩ := hrel
      clear own4 b4 A4 F4 bX k4
      have bwr : Below w.heap.size w wr := bw.trans (bel.mono bw.size)
      by_cases hlt : k < n
      · have hkl : k < l.length := by rw [← HN.out]; exact hlt
        obtain ⟨b, off, rfl, hb, hcell⟩ := seg_line HS.out hkl
        obtain ⟨x, hx⟩ : ∃ x, x = lt l k := ⟨_, rfl⟩
        obtain ⟨sn, hsn⟩ : ∃ sn, sn = x.ser.length := ⟨_, rfl⟩
        obtain ⟨pn, hpn⟩ : ∃ pn, pn = x.smp.length := ⟨_, rfl⟩
        have c0 : wr.cell? ⟨b, off + k * 2, none⟩ = some (.slice x.sa sn x.sc) := by rw [hsn, hx]; exact (bwr.cell (by exact hb)).trans (hcell k hkl).1
        have c1 : wr.cell? ⟨b, off + k * 2 + 1, none⟩ = some (.slice x.pa pn x.pc) := by rw [hpn, hx]; exact (bwr.cell (by exact hb)).trans (hcell k hkl).2
        have bA : Below wr.heap.size wr (wr.alloc (.cells #[.slice x.sa sn x.sc, .slice x.pa pn x.pc] 43)) := (Below.refl _ _).alloc (Nat.le_refl _) _
        have ownA := own_below own bA
        have fz : (wr.alloc (.cells #[.slice x.sa sn x.sc, .slice x.pa pn x.pc] 43)).frozen? ⟨w1.heap.size + 1, k, none⟩ = false := ownA.frozenAt k
        have cz : (wr.alloc (.cells #[.slice x.sa sn x.sc, .slice x.pa pn x.pc] 43)).cell? ⟨w1.heap.size + 1, k, none⟩ = some (.slice none 0 0) := (ownA.cellAt k (by omega)).trans (srow_at hkl hlt)
        have HSet : Hid (((wr.alloc (.cells #[.slice x.sa sn x.sc, .slice x.pa pn x.pc] 43)).setCell ⟨w1.heap.size + 1, k, none⟩ (.slice x.sa sn x.sc)).ownsRow w1.heap.size 40 1 (.slice (some ⟨w1.heap.size + 1, 0, none⟩) n n) n (srow l n (k + 1))) := by
          have h1 := (ownA.stored k (.slice x.sa sn x.sc)).1
          have h2 := srow_set (l := l) hkl hlt
          rw [← hx, ← hsn] at h2
          rw [h2] at h1
          exact h1
        have HBs : Hid (Below w1.heap.size w1 ((wr.alloc (.cells #[.slice x.sa sn x.sc, .slice x.pa pn x.pc] 43)).setCell ⟨w1.heap.size + 1, k, none⟩ (.slice x.sa sn x.sc))) := (bel.alloc bel.size _).setCell (by show w1.heap.size ≤ w1.heap.size + 1; omega) _
        have k2 : (k : Int) < (n : Int) := by omega
        clear hx hsn hpn hcell hkl ownA own bA bel bwr HS
        go_wp2
        go_roundw
        case rel => exact ⟨k + 1, by omega, by go_num, HSet.out, HBs.out⟩
        case measure => simp [intOf]; omega
      · have he : k = n := by omega
        subst he
        have hsg : Seg wr (some ⟨w1.heap.size + 1, 0, none⟩) (hcells (sts l)) := by
          rw [← srow_all HN.out]
          obtain ⟨ao', c, hv, hs', _⟩ := own_open own
          simp only [Value.slice.injEq] at hv
          obtain ⟨rfl, -, rfl⟩ := hv
          exact hs'
        have A5 := below_block bel A1
        have F5 := below_block bel F1
        have k5 : wr.cell? ⟨w.heap.size, 0, none⟩ = some (.slice ao k cap) := by simp [World.cell?, A5]
        obtain ⟨p0, p1, p2, p3, p4, p5, p6⟩ := seven_cells F5
        have PO2 := hide (PO.out (by first | trivial | rfl) (some ⟨w1.heap.size + 1, 0, none⟩) k w.heap.size wr bwr k5 hsg)
        clear PO hsg own bel HN HS
        go_wp2_with fail
        refine PO2.out.mono ?_
        rintro e w9 ⟨cts, co, N, d, rfl, hC, hN, hI, b9⟩
        have HC := hide hC
        have HNN := hide hN
        have b10 := below_step b9 bwr
        clear hC hN PO2
        go_wp2
        go_ret2
        exact ⟨cts, co, N, d, rfl, HC.out, HNN.out, hI, b10⟩
  · have HR1 : Hid (R = ([], E)) := HR.out h0
    have hd : (E != 0) = true := by simpa using h0
    clear h0 HR PO H8
    go_wp2
    go_quiet (fail)
    go_wp2
    go_ret2
    exact ⟨[], none, 0, 0, by rw [HR1.out]; rfl, by rw [HR1.out]; rfl, rfl, ⟨.inl rfl, fun c hc => (by cases hc), .inl rfl, fun c hc => (by cases hc)⟩, by first | exact below_drewN (bw.alloc bw.size _) _ | exact (below_drewN bw _).alloc (below_drewN bw _).size _⟩

end Go.Proofs.YthohkokhimdamaaGreat
