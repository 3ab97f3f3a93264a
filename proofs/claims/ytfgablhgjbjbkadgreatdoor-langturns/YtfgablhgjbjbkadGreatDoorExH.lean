/-
  The walk of an expression as text: the program's.
-/
import Derived.Test.YtfgablhgjbjbkadGreatDoorExG
namespace Go.GrainU
open Go.RowKit

theorem tx_num {h : Hd} {l : List (Int × ByteArray)} (e : h.kind = 1) : bodyT h l = itoaB h.n := by simp [bodyT, e]
theorem tx_win {h : Hd} {l : List (Int × ByteArray)} (e : h.kind = 2) : bodyT h l = h.word ++ lit [40, 123] ++ jn (h.ms.map mtx) ++ lit [125, 91] ++ itoaB h.range ++ lit [93, 41] := by simp [bodyT, e]
theorem tx_all {h : Hd} {l : List (Int × ByteArray)} (e : h.kind = 3) : bodyT h l = lit [97, 108, 108, 32] ++ h.word ++ byt h.bs ++ lit [32, 40] ++ (at2 l 0).2 ++ lit [41] := by simp [bodyT, e]
theorem tx_bin {h : Hd} {l : List (Int × ByteArray)} (e : h.kind = 4) : bodyT h l = wi (rk h) (at2 l 0) ++ lit [32] ++ h.word ++ lit [32] ++ wi (rk h + 1) (at2 l 1) := by simp [bodyT, e]

theorem tx_node {h : Hd} {s : Sp} {kids : List ET} : tx (ET.ex (.node h s kids)) = bodyT h (txL (exL kids)) := by simp [ET.ex, tx]

theorem at2_kid {l : List ET} {k : Nat} (h : k < l.length) : at2 (txL (exL l)) k = (rk (l[k]).hd, tx (l[k]).ex) := by
  rw [at2_tx (by rw [exL_length]; exact h)]
  have e : (exL l)[k]'(by rw [exL_length]; exact h) = (l[k]).ex := by simp [exL_map]
  rw [e]
  cases l[k] with
  | node h s kids => simp [ET.ex, Ex.hd, ET.hd]

theorem cntL_mem {l : List ET} {t : ET} (h : t ∈ l) : cnt t.ex ≤ cntL (exL l) := by
  induction l with
  | nil => cases h
  | cons a r ih =>
    simp only [exL, cntL]
    rcases List.mem_cons.1 h with e | e
    · rw [e]; omega
    · have := ih e; omega

theorem Rt.kid {h : Hd} {s : Sp} {kids : List ET} (r : Rt (ET.ex (.node h s kids))) {t : ET} (ht : t ∈ kids) : Rt t.ex := by
  simp only [ET.ex] at r
  exact r.parts.2 t.ex (by rw [exL_map]; exact List.mem_map_of_mem ht)

theorem Rt.here {h : Hd} {s : Sp} {kids : List ET} (r : Rt (ET.ex (.node h s kids))) : alone h kids.length = 0 := by
  simp only [ET.ex] at r
  have := r.parts.1
  rw [exL_length] at this
  exact this

theorem cnt_node {h : Hd} {s : Sp} {kids : List ET} : cnt (ET.ex (.node h s kids)) = cntL (exL kids) + 1 := by simp [ET.ex, cnt]

end Go.GrainU
namespace Go.Proofs.YtfgablhgjbjbkadGreatDoor
open Go.RowKit Go.GrainU

set_option maxHeartbeats 4000000 in
theorem ptext_win (h : Hd) (ma : Option Addr) (ml mc : Nat) (ba : Option Addr) (bl bc : Nat) (ka : Option Addr) (kl kc : Nat) (w : World) (hM : Seg w ma (mcells h.ms)) (hml : ml = h.ms.length) (hk : h.kind = 2) (wb : winBad h = 0) (hT : Tab w) (l : List (Int × ByteArray)) :
    Calls Tryz.prog 13 #[.agg #[.int .i64 h.kind, .int .i64 h.n, .int .i64 h.range, .string h.word, .slice ma ml mc, .slice ba bl bc, .slice ka kl kc]] w fun e w' => e = .returned (.string (bodyT h l)) ∧ Below w.heap.size w w' := by
  rw [tx_win hk]
  obtain ⟨kd, n, rg, wd, ms, bs⟩ := h
  simp only at hM hml hk ⊢
  subst hk
  obtain ⟨v1, v2, v3, v4, v5⟩ := winBad_ok wb
  simp only at v1 v2 v3 v4 v5
  have z1 := words_size v1
  have z2 := mtexts_size v3 v2
  have z3 := itoaB_size (n := rg) (by omega) (by omega)
  obtain ⟨J, hJ⟩ : ∃ J, J = jn (ms.map mtx) := ⟨_, rfl⟩
  obtain ⟨I, hI⟩ : ∃ I, I = itoaB rg := ⟨_, rfl⟩
  rw [← hJ] at z2 ⊢
  rw [← hI] at z3 ⊢
  obtain ⟨s1, h1⟩ : ∃ s, s = wd ++ lit [40, 123] := ⟨_, rfl⟩
  obtain ⟨s2, h2⟩ : ∃ s, s = s1 ++ J := ⟨_, rfl⟩
  obtain ⟨s3, h3⟩ : ∃ s, s = s2 ++ lit [125, 91] := ⟨_, rfl⟩
  obtain ⟨s4, h4⟩ : ∃ s, s = s3 ++ I := ⟨_, rfl⟩
  obtain ⟨s5, h5⟩ : ∃ s, s = s4 ++ lit [93, 41] := ⟨_, rfl⟩
  have t1 : s1.size ≤ 10 := by rw [h1, app_size, lit_size]; simp; omega
  have t2 : s2.size ≤ 150 := by rw [h2, app_size]; omega
  have t3 : s3.size ≤ 160 := by rw [h3, app_size, lit_size]; simp; omega
  have t4 : s4.size ≤ 190 := by rw [h4, app_size]; omega
  have a1 := sadd (P := Tryz.prog) h1 (by rw [lit_size]; simp; omega)
  have a2 := sadd (P := Tryz.prog) h2 (by omega)
  have a3 := sadd (P := Tryz.prog) h3 (by rw [lit_size]; simp; omega)
  have a4 := sadd (P := Tryz.prog) h4 (by omega)
  have a5 := sadd (P := Tryz.prog) h5 (by rw [lit_size]; simp; omega)
  rw [← h1, ← h2, ← h3, ← h4, ← h5]
  unfold lit at a1 a3 a5
  have HML := hide hml
  have HJ := hide hJ
  have HI := hide hI
  have HM3 := hide v3
  have l5 : ml ≤ 5 := by omega
  clear h1 h2 h3 h4 h5 t1 t2 t3 t4 z1 z2 z3 hml hJ hI v1 v2 v3 wb
  obtain ⟨W, hW⟩ : ∃ W, W = w.alloc (.cells #[.int .i64 2, .int .i64 n, .int .i64 rg, .string wd, .slice ma ml mc, .slice ba bl bc, .slice ka kl kc] 26) := ⟨_, rfl⟩
  have bel0 : Below w.heap.size w W := by rw [hW]; exact (Below.refl _ _).alloc (Nat.le_refl _) _
  have F0 : W.heap[w.heap.size]? = some (.cells #[.int .i64 2, .int .i64 n, .int .i64 rg, .string wd, .slice ma ml mc, .slice ba bl bc, .slice ka kl kc] 26 (0, 0)) := by rw [hW]; exact heap_alloc_new w _
  have HB := hide bel0
  have HS : Hid (∀ w', Below W.heap.size W w' → w'.cell? ⟨w.heap.size, 2, none⟩ = some (.int .i64 rg) ∧ w'.cell? ⟨w.heap.size, 3, none⟩ = some (.string wd) ∧ w'.cell? ⟨w.heap.size, 4, none⟩ = some (.slice ma ml mc)) := fun w' hb => by
    obtain ⟨_, _, p2, p3, p4, _⟩ := seven_cells (below_block hb F0); exact ⟨p2, p3, p4⟩
  have hMW := hM.below bel0
  have hTW := hT.below bel0
  have R0 : Below W.heap.size W W := Below.refl _ _
  have R1 : Below W.heap.size W W.drew := below_drewN (Below.refl _ W) 1
  have HW := hide hW
  clear hW F0 bel0
  go_enter Tryz.func13, Tryz.ntmps13
  go_wp2_with fail
  rw [← HW.out]
  go_region_held3 (fun w' => w'.cell? ⟨w.heap.size, 2, none⟩ = some (.int .i64 rg) ∧ w'.cell? ⟨w.heap.size, 3, none⟩ = some (.string wd) ∧ w'.cell? ⟨w.heap.size, 4, none⟩ = some (.slice ma ml mc)) (exact HS.out _ (by assumption))
    (first
      | (go_at_call 20; refine (pmtexts_any ms ma ml mc _ (hMW.below (by assumption)) HML.out l5 HM3.out).mono ?_; rintro e w1 ⟨rfl, b1⟩; rw [← HJ.out]; have R2 := below_step7 b1 (by assumption))
      | (go_at_call 19; refine (itoa_any rg _ (by omega) (by omega) (hTW.below (by assumption))).mono ?_; rintro e w1 ⟨rfl, b1⟩; rw [← HI.out]; have R2 := below_step7 b1 (by assumption)))
  go_wp2_with fail
  go_ret
  exact ⟨rfl, HB.out.trans (R2.mono HB.out.size)⟩

/-- the text of a kid, in whatever world it lies -/
abbrev Tells (t : ET) : Prop := ∀ w : World, t.In w → Tab w → Calls Tryz.prog 13 #[eval t] w fun e w' => e = .returned (.string (tx t.ex)) ∧ Below w.heap.size w w'

set_option maxHeartbeats 4000000 in
theorem ptext_all (h : Hd) (ma : Option Addr) (ml mc : Nat) (ba : Option Addr) (bl bc : Nat) (ka : Option Addr) (kc : Nat) (t : ET) (w : World) (hB : Seg w ba (wcells h.bs)) (hbl : bl = h.bs.length) (hbc : bl ≤ bc) (hk : h.kind = 3) (ab : allBad h = 0) (hT : Tab w) (hK : Seg w ka (ecells [t])) (hin : t.In w) (ih : Tells t) (hsz : (tx t.ex).size ≤ 100000) (l : List (Int × ByteArray)) (hl : (at2 l 0).2 = tx t.ex) :
    Calls Tryz.prog 13 #[.agg #[.int .i64 h.kind, .int .i64 h.n, .int .i64 h.range, .string h.word, .slice ma ml mc, .slice ba bl bc, .slice ka 1 kc]] w fun e w' => e = .returned (.string (bodyT h l)) ∧ Below w.heap.size w w' := by
  rw [tx_all hk, hl]
  obtain ⟨kd, n, rg, wd, ms, bs⟩ := h
  simp only at hB hbl hk ⊢
  subst hk
  obtain ⟨v1, v2, v3⟩ := allBad_ok ab
  simp only at v1 v2 v3
  have z1 := totals_size v1
  have z2 := (byt_size v3 v2).1
  obtain ⟨J, hJ⟩ : ∃ J, J = byt bs := ⟨_, rfl⟩
  obtain ⟨I, hI⟩ : ∃ I, I = tx t.ex := ⟨_, rfl⟩
  rw [← hJ] at z2 ⊢
  rw [← hI] at hsz ⊢
  obtain ⟨s1, h1⟩ : ∃ s, s = lit [97, 108, 108, 32] ++ wd := ⟨_, rfl⟩
  obtain ⟨s2, h2⟩ : ∃ s, s = s1 ++ J := ⟨_, rfl⟩
  obtain ⟨s3, h3⟩ : ∃ s, s = s2 ++ lit [32, 40] := ⟨_, rfl⟩
  obtain ⟨s4, h4⟩ : ∃ s, s = s3 ++ I := ⟨_, rfl⟩
  obtain ⟨s5, h5⟩ : ∃ s, s = s4 ++ lit [41] := ⟨_, rfl⟩
  have t1 : s1.size ≤ 10 := by rw [h1, app_size, lit_size]; simp; omega
  have t2 : s2.size ≤ 150 := by rw [h2, app_size]; omega
  have t3 : s3.size ≤ 160 := by rw [h3, app_size, lit_size]; simp; omega
  have t4 : s4.size ≤ 100190 := by rw [h4, app_size]; omega
  have a1 := sadd (P := Tryz.prog) h1 (by rw [lit_size]; simp; omega)
  have a2 := sadd (P := Tryz.prog) h2 (by omega)
  have a3 := sadd (P := Tryz.prog) h3 (by rw [lit_size]; simp; omega)
  have a4 := sadd (P := Tryz.prog) h4 (by omega)
  have a5 := sadd (P := Tryz.prog) h5 (by rw [lit_size]; simp; omega)
  rw [← h1, ← h2, ← h3, ← h4, ← h5]
  unfold lit at a1 a3 a5
  have HBL := hide hbl
  have HJ := hide hJ
  have HI := hide hI
  have HB3 := hide v3
  have l4 : bl ≤ 4 := by omega
  clear h1 h2 h3 h4 h5 t1 t2 t3 t4 z1 z2 hsz hbl hJ hI v1 v2 v3 ab hl l
  obtain ⟨b, off, rfl, hbb, hcell⟩ := seg_expr hK (k := 0) (by simp)
  have hc := hcell 0 (by simp)
  simp only [List.getElem_cons_zero, Nat.zero_mul, Nat.add_zero] at hc
  have HIN := hide hin
  have HIH := hide ih
  unfold Tells eval at HIH
  obtain ⟨W, hW⟩ : ∃ W, W = w.alloc (.cells #[.int .i64 3, .int .i64 n, .int .i64 rg, .string wd, .slice ma ml mc, .slice ba bl bc, .slice (some ⟨b, off, none⟩) 1 kc] 26) := ⟨_, rfl⟩
  have bel0 : Below w.heap.size w W := by rw [hW]; exact (Below.refl _ _).alloc (Nat.le_refl _) _
  have F0 : W.heap[w.heap.size]? = some (.cells #[.int .i64 3, .int .i64 n, .int .i64 rg, .string wd, .slice ma ml mc, .slice ba bl bc, .slice (some ⟨b, off, none⟩) 1 kc] 26 (0, 0)) := by rw [hW]; exact heap_alloc_new w _
  have hcW := hc.below bel0
  have HB := hide bel0
  have HS : Hid (∀ w', Below W.heap.size W w' → (w'.cell? ⟨w.heap.size, 3, none⟩ = some (.string wd) ∧ w'.cell? ⟨w.heap.size, 5, none⟩ = some (.slice ba bl bc) ∧ w'.cell? ⟨w.heap.size, 6, none⟩ = some (.slice (some ⟨b, off, none⟩) 1 kc)) ∧ Cells7 w' b off t) := fun w' hb => by
    obtain ⟨_, _, p2, p3, p4, p5, p6⟩ := seven_cells (below_block hb F0); exact ⟨⟨p3, p5, p6⟩, hcW.below hb⟩
  have hBW := hB.below bel0
  have hTW := hT.below bel0
  have HINW := hide (ET.In.below bel0 t HIN.out)
  have R0 : Below W.heap.size W W := Below.refl _ _
  have R1 : Below W.heap.size W W.drew := below_drewN (Below.refl _ W) 1
  have HW := hide hW
  clear hW F0 bel0 hc hcW hcell HIN hin
  unfold Cells7 at HS
  go_enter Tryz.func13, Tryz.ntmps13
  go_wp2_with fail
  rw [← HW.out]
  go_region_held3 (fun w' => (w'.cell? ⟨w.heap.size, 3, none⟩ = some (.string wd) ∧ w'.cell? ⟨w.heap.size, 5, none⟩ = some (.slice ba bl bc) ∧ w'.cell? ⟨w.heap.size, 6, none⟩ = some (.slice (some ⟨b, off, none⟩) 1 kc)) ∧ w'.cell? ⟨b, off, none⟩ = some (.int .i64 t.hd.kind) ∧ w'.cell? ⟨b, off + 1, none⟩ = some (.int .i64 t.hd.n) ∧ w'.cell? ⟨b, off + 2, none⟩ = some (.int .i64 t.hd.range) ∧ w'.cell? ⟨b, off + 3, none⟩ = some (.string t.hd.word) ∧ w'.cell? ⟨b, off + 4, none⟩ = some (.slice t.sp.ma t.hd.ms.length t.sp.mc) ∧ w'.cell? ⟨b, off + 5, none⟩ = some (.slice t.sp.ba t.hd.bs.length t.sp.bc) ∧ w'.cell? ⟨b, off + 6, none⟩ = some (.slice t.sp.ka t.kids.length t.sp.kc)) (exact HS.out _ (by assumption))
    (first
      | (go_at_call 21; refine (pby_any bs ba bl bc _ (hBW.below (by assumption)) HBL.out hbc l4 HB3.out).mono ?_; rintro e w1 ⟨rfl, b1⟩; rw [← HJ.out]; have R2 := below_step7 b1 (by assumption))
      | (go_at_call 13; refine (HIH.out _ (ET.In.below (by assumption) t HINW.out) (hTW.below (by assumption))).mono ?_; rintro e w1 ⟨rfl, b1⟩; rw [← HI.out]; have R2 := below_step7 b1 (by assumption)))
  go_wp2_with fail
  go_ret
  exact ⟨rfl, HB.out.trans (R2.mono HB.out.size)⟩

end Go.Proofs.YtfgablhgjbjbkadGreatDoor
