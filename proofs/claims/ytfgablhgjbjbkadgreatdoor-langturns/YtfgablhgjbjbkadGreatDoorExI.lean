/-
  The walk of an expression as text, and of Print: the program's.
-/
import Derived.Test.YtfgablhgjbjbkadGreatDoorExH
import Derived.Test.YtfgablhgjbjbkadGreatDoorExE
namespace Go.GrainU
open Go.RowKit

theorem rk_bd (h : Hd) : 0 ≤ rk h ∧ rk h ≤ 2 := by
  unfold rk
  split
  · split <;> omega
  · omega

end Go.GrainU
namespace Go.Proofs.YtfgablhgjbjbkadGreatDoor
open Go.RowKit Go.GrainU

set_option maxHeartbeats 2000000 in
theorem pwithin_of (t : ET) (least : Int) (ih : Tells t) (w : World) (hin : t.In w) (hT : Tab w) (hsz : (tx t.ex).size ≤ 100000) :
    Calls Tryz.prog 22 #[eval t, .int .i64 least] w fun e w' => e = .returned (.string (wi least (rk t.hd, tx t.ex))) ∧ Below w.heap.size w w' := by
  have HIN := hide hin
  have HIH := hide ih
  obtain ⟨I, hI⟩ : ∃ I, I = tx t.ex := ⟨_, rfl⟩
  obtain ⟨K, hK⟩ : ∃ K, K = rk t.hd := ⟨_, rfl⟩
  rw [← hI] at hsz ⊢
  rw [← hK]
  have HI := hide hI
  have HK := hide hK
  have HRK := hide (prank_any t.hd)
  clear hin ih hI hK
  unfold Tells eval at HIH
  unfold eval
  generalize t.hd.ms.length = ml at *
  generalize t.hd.bs.length = bl at *
  generalize t.kids.length = kl at *
  obtain ⟨W, hW⟩ : ∃ W, W = w.alloc (.cells #[.int .i64 t.hd.kind, .int .i64 t.hd.n, .int .i64 t.hd.range, .string t.hd.word, .slice t.sp.ma ml t.sp.mc, .slice t.sp.ba bl t.sp.bc, .slice t.sp.ka kl t.sp.kc] 26) := ⟨_, rfl⟩
  have bel0 : Below w.heap.size w W := by rw [hW]; exact (Below.refl _ _).alloc (Nat.le_refl _) _
  have F0 : W.heap[w.heap.size]? = some (.cells #[.int .i64 t.hd.kind, .int .i64 t.hd.n, .int .i64 t.hd.range, .string t.hd.word, .slice t.sp.ma ml t.sp.mc, .slice t.sp.ba bl t.sp.bc, .slice t.sp.ka kl t.sp.kc] 26 (0, 0)) := by rw [hW]; exact heap_alloc_new w _
  have HF := hide F0
  have HW := hide hW
  clear hW F0
  go_enter Tryz.func22, Tryz.ntmps22
  go_wp2_with fail
  rw [← HW.out]
  refine (HRK.out t.sp.ma ml t.sp.mc t.sp.ba bl t.sp.bc t.sp.ka kl t.sp.kc W).mono ?_
  rintro e w1 ⟨rfl, b1⟩
  rw [← HK.out]
  obtain ⟨p0, p1, p2, p3, p4, p5, p6⟩ := seven_cells (below_block b1 HF.out)
  have bel1 : Below w.heap.size w w1 := bel0.trans (b1.mono bel0.size)
  by_cases hlt : K < least
  · obtain ⟨s1, h1⟩ : ∃ s, s = lit [40] ++ I := ⟨_, rfl⟩
    obtain ⟨s2, h2⟩ : ∃ s, s = s1 ++ lit [41] := ⟨_, rfl⟩
    have HY : Hid (s2 = wi least (K, I)) := by show _ = _; rw [h2, h1]; simp [wi, hlt]
    have a1 := sadd (P := Tryz.prog) h1 (by rw [lit_size]; simp; omega)
    have a2 := sadd (P := Tryz.prog) h2 (by rw [h1, app_size, lit_size, lit_size]; simp; omega)
    unfold lit at a1 a2
    clear h1 h2
    go_wp2_with fail
    refine (HIH.out w1 (ET.In.below bel1 t HIN.out) (hT.below bel1)).mono ?_
    rintro e w2 ⟨rfl, b2⟩
    rw [← HI.out]
    go_wp2_with fail
    go_ret
    exact ⟨by rw [← HY.out]; rfl, bel1.trans (b2.mono bel1.size)⟩
  · have HY : Hid (I = wi least (K, I)) := by show _ = _; simp [wi, hlt]
    go_wp2_with fail
    refine (HIH.out w1 (ET.In.below bel1 t HIN.out) (hT.below bel1)).mono ?_
    rintro e w2 ⟨rfl, b2⟩
    rw [← HI.out]
    go_wp2_with fail
    go_ret
    exact ⟨by rw [← HY.out]; rfl, bel1.trans (b2.mono bel1.size)⟩

set_option maxHeartbeats 4000000 in
theorem ptext_bin (h : Hd) (ma : Option Addr) (ml mc : Nat) (ba : Option Addr) (bl bc : Nat) (ka : Option Addr) (kc : Nat) (t u : ET) (w : World) (hk : h.kind = 4) (sg : has signs3 h.word = true) (hT : Tab w) (hK : Seg w ka (ecells [t, u])) (hin : t.In w) (hin' : u.In w) (ih : Tells t) (ih' : Tells u) (hsz : (tx t.ex).size ≤ 100000) (hsz' : (tx u.ex).size ≤ 100000) (l : List (Int × ByteArray)) (hl : at2 l 0 = (rk t.hd, tx t.ex)) (hl' : at2 l 1 = (rk u.hd, tx u.ex)) :
    Calls Tryz.prog 13 #[.agg #[.int .i64 h.kind, .int .i64 h.n, .int .i64 h.range, .string h.word, .slice ma ml mc, .slice ba bl bc, .slice ka 2 kc]] w fun e w' => e = .returned (.string (bodyT h l)) ∧ Below w.heap.size w w' := by
  rw [tx_bin hk, hl, hl']
  obtain ⟨K, hKK⟩ : ∃ K, K = rk h := ⟨_, rfl⟩
  have kb := rk_bd h
  rw [← hKK] at kb ⊢
  have HRK := hide (prank_any h ma ml mc ba bl bc ka 2 kc)
  rw [← hKK] at HRK
  have P0 := hide (fun w' hi hT' => pwithin_of t K ih w' hi hT' hsz)
  have P1 := hide (fun w' hi hT' => pwithin_of u (K + 1) ih' w' hi hT' hsz')
  have zI := wi_size K (rk t.hd, tx t.ex)
  have zJ := wi_size (K + 1) (rk u.hd, tx u.ex)
  simp only at zI zJ
  obtain ⟨I, hI⟩ : ∃ I, I = wi K (rk t.hd, tx t.ex) := ⟨_, rfl⟩
  obtain ⟨J, hJ⟩ : ∃ J, J = wi (K + 1) (rk u.hd, tx u.ex) := ⟨_, rfl⟩
  rw [← hI] at zI P0 ⊢
  rw [← hJ] at zJ P1 ⊢
  clear hI hJ hl hl' l hKK ih ih'
  obtain ⟨kd, n, rg, wd, ms, bs⟩ := h
  simp only at hk sg HRK ⊢
  subst hk
  have z1 := signs_size sg
  obtain ⟨s1, h1⟩ : ∃ s, s = I ++ lit [32] := ⟨_, rfl⟩
  obtain ⟨s2, h2⟩ : ∃ s, s = s1 ++ wd := ⟨_, rfl⟩
  obtain ⟨s3, h3⟩ : ∃ s, s = s2 ++ lit [32] := ⟨_, rfl⟩
  obtain ⟨s4, h4⟩ : ∃ s, s = s3 ++ J := ⟨_, rfl⟩
  have t1 : s1.size ≤ 100010 := by rw [h1, app_size, lit_size]; simp; omega
  have t2 : s2.size ≤ 100020 := by rw [h2, app_size]; omega
  have t3 : s3.size ≤ 100030 := by rw [h3, app_size, lit_size]; simp; omega
  have a1 := sadd (P := Tryz.prog) h1 (by rw [lit_size]; simp; omega)
  have a2 := sadd (P := Tryz.prog) h2 (by omega)
  have a3 := sadd (P := Tryz.prog) h3 (by rw [lit_size]; simp; omega)
  have a4 := sadd (P := Tryz.prog) h4 (by omega)
  rw [← h1, ← h2, ← h3, ← h4]
  unfold lit at a1 a3
  have hwr : IntKind.i64.wrap (K + 1) = K + 1 := IntWalk.i64_in _ ⟨by omega, by omega⟩
  clear h1 h2 h3 h4 t1 t2 t3 z1 zI zJ hsz hsz' sg kb
  obtain ⟨b, off, rfl, hbb, hcell⟩ := seg_expr hK (k := 0) (by simp)
  have hc := hcell 0 (by simp)
  have hc' := hcell 1 (by simp)
  simp only [List.getElem_cons_zero, List.getElem_cons_succ, Nat.zero_mul, Nat.add_zero, Nat.one_mul] at hc hc'
  unfold eval at P0 P1
  obtain ⟨W, hW⟩ : ∃ W, W = w.alloc (.cells #[.int .i64 4, .int .i64 n, .int .i64 rg, .string wd, .slice ma ml mc, .slice ba bl bc, .slice (some ⟨b, off, none⟩) 2 kc] 26) := ⟨_, rfl⟩
  have bel0 : Below w.heap.size w W := by rw [hW]; exact (Below.refl _ _).alloc (Nat.le_refl _) _
  have F0 : W.heap[w.heap.size]? = some (.cells #[.int .i64 4, .int .i64 n, .int .i64 rg, .string wd, .slice ma ml mc, .slice ba bl bc, .slice (some ⟨b, off, none⟩) 2 kc] 26 (0, 0)) := by rw [hW]; exact heap_alloc_new w _
  have hcW := hc.below bel0
  have hcW' := hc'.below bel0
  have HB := hide bel0
  have HS : Hid (∀ w', Below W.heap.size W w' → (w'.cell? ⟨w.heap.size, 0, none⟩ = some (.int .i64 4) ∧ w'.cell? ⟨w.heap.size, 1, none⟩ = some (.int .i64 n) ∧ w'.cell? ⟨w.heap.size, 2, none⟩ = some (.int .i64 rg) ∧ w'.cell? ⟨w.heap.size, 3, none⟩ = some (.string wd) ∧ w'.cell? ⟨w.heap.size, 4, none⟩ = some (.slice ma ml mc) ∧ w'.cell? ⟨w.heap.size, 5, none⟩ = some (.slice ba bl bc) ∧ w'.cell? ⟨w.heap.size, 6, none⟩ = some (.slice (some ⟨b, off, none⟩) 2 kc)) ∧ Cells7 w' b off t ∧ Cells7 w' b (off + 7) u) := fun w' hb =>
    ⟨seven_cells (below_block hb F0), hcW.below hb, hcW'.below hb⟩
  have hTW := hT.below bel0
  have HINW := hide (ET.In.below bel0 t hin)
  have HINW' := hide (ET.In.below bel0 u hin')
  have R0 : Below W.heap.size W W := Below.refl _ _
  have R1 : Below W.heap.size W W.drew := below_drewN (Below.refl _ W) 1
  have HW := hide hW
  clear hW F0 bel0 hc hcW hc' hcW' hcell hin hin'
  unfold Cells7 at HS
  go_enter Tryz.func13, Tryz.ntmps13
  go_wp2_with fail
  rw [← HW.out]
  go_region_held3 (fun w' => (w'.cell? ⟨w.heap.size, 0, none⟩ = some (.int .i64 4) ∧ w'.cell? ⟨w.heap.size, 1, none⟩ = some (.int .i64 n) ∧ w'.cell? ⟨w.heap.size, 2, none⟩ = some (.int .i64 rg) ∧ w'.cell? ⟨w.heap.size, 3, none⟩ = some (.string wd) ∧ w'.cell? ⟨w.heap.size, 4, none⟩ = some (.slice ma ml mc) ∧ w'.cell? ⟨w.heap.size, 5, none⟩ = some (.slice ba bl bc) ∧ w'.cell? ⟨w.heap.size, 6, none⟩ = some (.slice (some ⟨b, off, none⟩) 2 kc)) ∧ (w'.cell? ⟨b, off, none⟩ = some (.int .i64 t.hd.kind) ∧ w'.cell? ⟨b, off + 1, none⟩ = some (.int .i64 t.hd.n) ∧ w'.cell? ⟨b, off + 2, none⟩ = some (.int .i64 t.hd.range) ∧ w'.cell? ⟨b, off + 3, none⟩ = some (.string t.hd.word) ∧ w'.cell? ⟨b, off + 4, none⟩ = some (.slice t.sp.ma t.hd.ms.length t.sp.mc) ∧ w'.cell? ⟨b, off + 5, none⟩ = some (.slice t.sp.ba t.hd.bs.length t.sp.bc) ∧ w'.cell? ⟨b, off + 6, none⟩ = some (.slice t.sp.ka t.kids.length t.sp.kc)) ∧ w'.cell? ⟨b, off + 7, none⟩ = some (.int .i64 u.hd.kind) ∧ w'.cell? ⟨b, off + 7 + 1, none⟩ = some (.int .i64 u.hd.n) ∧ w'.cell? ⟨b, off + 7 + 2, none⟩ = some (.int .i64 u.hd.range) ∧ w'.cell? ⟨b, off + 7 + 3, none⟩ = some (.string u.hd.word) ∧ w'.cell? ⟨b, off + 7 + 4, none⟩ = some (.slice u.sp.ma u.hd.ms.length u.sp.mc) ∧ w'.cell? ⟨b, off + 7 + 5, none⟩ = some (.slice u.sp.ba u.hd.bs.length u.sp.bc) ∧ w'.cell? ⟨b, off + 7 + 6, none⟩ = some (.slice u.sp.ka u.kids.length u.sp.kc)) (exact HS.out _ (by assumption))
    (first
      | (go_at_call 23; refine (HRK.out _).mono ?_; rintro e w1 ⟨rfl, b1⟩; have R2 := below_step7 b1 (by assumption))
      | (go_at_call 22; refine (P0.out _ (ET.In.below (by assumption) t HINW.out) (hTW.below (by assumption))).mono ?_; rintro e w1 ⟨rfl, b1⟩; have R2 := below_step7 b1 (by assumption); clear P0)
      | (go_at_call 22; refine (P1.out _ (ET.In.below (by assumption) u HINW'.out) (hTW.below (by assumption))).mono ?_; rintro e w1 ⟨rfl, b1⟩; have R2 := below_step7 b1 (by assumption)))
  go_wp2_with fail
  go_ret
  exact ⟨rfl, HB.out.trans (R2.mono HB.out.size)⟩

set_option maxHeartbeats 1000000 in
theorem ptext_any : ∀ t : ET, Rt t.ex → cnt t.ex ≤ 100 → Tells t := by
  refine ET.ind ?_
  intro h s kids ih hr hc w hin hT
  have ha := hr.here
  rw [cnt_node] at hc
  rw [tx_node]
  have hkid : ∀ k ∈ kids, Tells k ∧ (tx k.ex).size ≤ 100000 := fun k hk => by
    have := cntL_mem hk
    refine ⟨ih k hk (hr.kid hk) (by omega), ?_⟩
    have := tx_size k.ex (hr.kid hk)
    omega
  simp only [ET.In] at hin
  obtain ⟨⟨hM, hB, hK⟩, ⟨lM, lB, lK, lW, fM, fB, hbc, _⟩, hL⟩ := hin
  rcases alone_cases ha with ⟨e, k, n0, n1⟩ | ⟨e, k, wb⟩ | ⟨e, k, ab⟩ | ⟨e, k, sg⟩
  · obtain ⟨kd, n, rg, wd, ms, bs⟩ := h
    obtain ⟨ma, mc, ba, bc, ka, kc⟩ := s
    rw [tx_num e]
    simp only at e n0 n1 ⊢
    subst e
    show Calls Tryz.prog _ #[.agg #[.int .i64 1, .int .i64 n, .int .i64 rg, .string wd, .slice ma ms.length mc, .slice ba bs.length bc, .slice ka kids.length kc]] w _
    generalize ms.length = ml
    generalize bs.length = bl
    generalize kids.length = kl
    have bel : Below w.heap.size w (w.alloc (.cells #[.int .i64 1, .int .i64 n, .int .i64 rg, .string wd, .slice ma ml mc, .slice ba bl bc, .slice ka kl kc] 26)) := (Below.refl _ _).alloc (Nat.le_refl _) _
    clear hkid ih hr hc ha hM hB hK lM lB lK lW fM fB hbc hL k
    have HI := hide (itoa_any n _ n0 n1 (hT.below bel))
    go_enter Tryz.func13, Tryz.ntmps13
    go_wp2_with fail
    refine HI.out.mono ?_
    rintro e w1 ⟨rfl, b1⟩
    go_wp2_with fail
    go_ret
    exact ⟨rfl, bel.trans (b1.mono bel.size)⟩
  · exact ptext_win h s.ma h.ms.length s.mc s.ba h.bs.length s.bc s.ka kids.length s.kc w hM rfl e wb hT _
  · match kids, k with
    | [t], _ =>
      have ht := hkid t (by simp)
      exact ptext_all h s.ma h.ms.length s.mc s.ba h.bs.length s.bc s.ka s.kc t w hB rfl hbc e ab hT hK (inL_mem hL t (by simp)) ht.1 ht.2 _ (by rw [at2_kid (by simp)]; rfl)
  · match kids, k with
    | [t, u], _ =>
      have ht := hkid t (by simp)
      have hu := hkid u (by simp)
      exact ptext_bin h s.ma h.ms.length s.mc s.ba h.bs.length s.bc s.ka s.kc t u w e sg hT hK (inL_mem hL t (by simp)) (inL_mem hL u (by simp)) ht.1 hu.1 ht.2 hu.2 _ (by rw [at2_kid (by simp)]; rfl) (by rw [at2_kid (by simp)]; rfl)

/-- an expression printed: its text, and what is wrong -/
def prt (x : Ex) : ByteArray × Int := if (wr x 1 0).1 = 0 then (if 2000 < (tx x).size then (lit [], 4) else (tx x, 0)) else (lit [], (wr x 1 0).1)

set_option maxHeartbeats 1000000 in
theorem pprint_any (t : ET) (w : World) (hin : t.In w) (hT : Tab w) :
    Calls Tryz.prog 6 #[eval t] w fun e w' => e = .returned (.tuple #[.string (prt t.ex).1, .int .i64 (prt t.ex).2]) ∧ Below w.heap.size w w' := by
  have HIN := hide hin
  have HTX := hide (ptext_any t)
  have HWR := hide (pwrong_any t)
  obtain ⟨⟨X, Y⟩, hX⟩ : ∃ X, X = prt t.ex := ⟨_, rfl⟩
  rw [← hX]
  have HX := hide hX
  clear hX hin
  obtain ⟨E, hE⟩ : ∃ E, E = (wr t.ex 1 0).1 := ⟨_, rfl⟩
  rw [← hE] at HWR
  have HE := hide hE
  clear hE
  unfold Tells eval at HTX
  unfold eval at HWR ⊢
  generalize t.hd.ms.length = ml at *
  generalize t.hd.bs.length = bl at *
  generalize t.kids.length = kl at *
  obtain ⟨W, hW⟩ : ∃ W, W = w.alloc (.cells #[.int .i64 t.hd.kind, .int .i64 t.hd.n, .int .i64 t.hd.range, .string t.hd.word, .slice t.sp.ma ml t.sp.mc, .slice t.sp.ba bl t.sp.bc, .slice t.sp.ka kl t.sp.kc] 26) := ⟨_, rfl⟩
  have bel0 : Below w.heap.size w W := by rw [hW]; exact (Below.refl _ _).alloc (Nat.le_refl _) _
  have F0 : W.heap[w.heap.size]? = some (.cells #[.int .i64 t.hd.kind, .int .i64 t.hd.n, .int .i64 t.hd.range, .string t.hd.word, .slice t.sp.ma ml t.sp.mc, .slice t.sp.ba bl t.sp.bc, .slice t.sp.ka kl t.sp.kc] 26 (0, 0)) := by rw [hW]; exact heap_alloc_new w _
  have HF := hide F0
  have HW := hide hW
  clear hW F0
  go_enter Tryz.func6, Tryz.ntmps6
  go_wp2_with fail
  rw [← HW.out]
  refine (HWR.out W (ET.In.below bel0 t HIN.out)).mono ?_
  rintro e w1 ⟨rfl, b1⟩
  obtain ⟨p0, p1, p2, p3, p4, p5, p6⟩ := seven_cells (below_block b1 HF.out)
  have bel1 : Below w.heap.size w w1 := bel0.trans (b1.mono bel0.size)
  by_cases hE0 : E = 0
  · have eE : (E == 0) = true := by simp [hE0]
    obtain ⟨r1, r2, r3, _⟩ := wr_ok t.ex 1 0 (by omega) (by rw [← HE.out]; exact hE0)
    have HZ := hide (tx_size t.ex r1)
    have HC := hide (show cnt t.ex ≤ 100 by omega)
    have HT2 := hide (HTX.out r1 HC.out)
    have HQ : Hid ((X, Y) = if 2000 < (tx t.ex).size then (lit [], 4) else (tx t.ex, 0)) := by show _ = _; rw [HX.out, prt, ← HE.out, if_pos hE0]
    obtain ⟨s, hs⟩ : ∃ s, s = tx t.ex := ⟨_, rfl⟩
    rw [← hs] at HQ HZ
    have Hs := hide hs
    clear hE0 r1 r2 r3 hs HX HTX
    go_wp2_with fail
    refine (HT2.out w1 (ET.In.below bel1 t HIN.out) (hT.below bel1)).mono ?_
    rintro e w2 ⟨rfl, b2⟩
    rw [← Hs.out]
    have bel2 := bel1.trans (b2.mono bel1.size)
    by_cases hb : 2000 < s.size
    · have hb' : (2000 : Int) < (s.size : Int) := by omega
      have HX2 : Hid (X = ⟨#[]⟩ ∧ Y = 4) := by show _ ∧ _; have := HQ.out; rw [if_pos hb] at this; simpa [lit] using this
      go_wp2_with fail
      go_ret2
      exact ⟨by rw [HX2.out.1, HX2.out.2]; rfl, bel2⟩
    · have hb' : ¬ (2000 : Int) < (s.size : Int) := by omega
      have HX2 : Hid (X = s ∧ Y = 0) := by show _ ∧ _; have := HQ.out; rw [if_neg hb] at this; simpa using this
      go_wp2_with fail
      go_ret2
      exact ⟨by rw [HX2.out.1, HX2.out.2]; rfl, bel2⟩
  · have eE : (E == 0) = false := by simp [hE0]
    have HX2 : Hid (X = ⟨#[]⟩ ∧ Y = E) := by show _ ∧ _; have := HX.out; rw [prt, ← HE.out, if_neg hE0] at this; simpa [lit] using this
    go_wp2_with fail
    go_ret2
    exact ⟨by rw [HX2.out.1, HX2.out.2]; rfl, bel1⟩

end Go.Proofs.YtfgablhgjbjbkadGreatDoor
