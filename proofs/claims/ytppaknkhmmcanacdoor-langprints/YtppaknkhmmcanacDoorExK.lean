/-
  The walk of an expression as text, and of Print: the document's.
-/
import Derived.Test.YtppaknkhmmcanacDoorExJ
import Derived.Test.YtppaknkhmmcanacDoorExI
import Derived.Test.YtppaknkhmmcanacDoorExF
import Derived.Laws.Small
namespace Go.GrainU
open Go.RowKit

theorem wi_zero (h : Hd) (x : ByteArray) : wi 0 (rk h, x) = x := by
  have := rk_bd h
  unfold wi
  rw [if_neg (by simp only; omega)]

theorem wi_two {least : Int} (h : least ≤ 2) (x : ByteArray) : wi least (2, x) = x := by
  unfold wi
  rw [if_neg (by simp only; omega)]

theorem byt_step {X : List ByteArray} {k : Nat} {x : ByteArray} (h : X.take (k + 1) = X.take k ++ [x]) : byt (X.take (k + 1)) = if k = 0 then lit [32, 98, 121, 32] ++ x else byt (X.take k) ++ lit [44] ++ x := by
  have hj := jn_step h
  have h1 : (X.take (k + 1)).length ≠ 0 := by rw [h]; simp
  unfold byt
  rw [if_neg h1, hj]
  by_cases e : k = 0
  · rw [if_pos e, if_pos e]
  · rw [if_neg e, if_neg e, if_neg ?_]
    · simp [ByteArray.append_assoc]
    · intro h0
      have h2 := congrArg List.length h
      simp only [List.length_append, List.length_cons, List.length_nil, h0, List.length_take] at h2
      simp only [List.length_take] at h0
      omega

theorem byt_take_size {l : List ByteArray} (h : l.all Grain.named = true) (k : Nat) (hk : k ≤ 4) : (byt (l.take k)).size ≤ 56 := by
  refine (byt_size (l := l.take k) ?_ (by rw [List.length_take]; omega)).1
  rw [List.all_eq_true] at h ⊢
  exact fun x hx => h x (List.mem_of_mem_take hx)

theorem take_word {l : List ByteArray} {k : Nat} (h : k < l.length) : l.take (k + 1) = l.take k ++ [l.getD k ⟨#[]⟩] := by
  rw [List.take_add_one, List.getElem?_eq_getElem h]
  simp [List.getD, List.getElem?_eq_getElem h]

end Go.GrainU
namespace Go.Proofs.YtppaknkhmmcanacDoor
open Go.RowKit Go.GrainU

/-- the document's text of a kid, in whatever world it lies -/
abbrev TellsR (t : ET) : Prop := ∀ (least : Int) (w : World), 0 ≤ least → least ≤ 2 → t.In w → Tab w → Calls Tryd.prog 27 #[eval t, .int .i64 least] w fun e w' => e = .returned (.string (wi least (rk t.hd, tx t.ex))) ∧ Below w.heap.size w w'

set_option maxHeartbeats 8000000 in
set_option maxRecDepth 100000 in
theorem rtext_all (h : Hd) (least : Int) (ma : Option Addr) (ml mc : Nat) (ba : Option Addr) (bl bc : Nat) (ka : Option Addr) (kc : Nat) (t : ET) (w : World) (hB : Seg w ba (wcells h.bs)) (hbl : bl = h.bs.length) (hk : h.kind = 3) (ab : allBad h = 0) (hT : Tab w) (hK : Seg w ka (ecells [t])) (hin : t.In w) (ih : TellsR t) (hsz : (tx t.ex).size ≤ 100000) (l : List (Int × ByteArray)) (hl : (at2 l 0).2 = tx t.ex) :
    Calls Tryd.prog 27 #[.agg #[.int .i64 h.kind, .int .i64 h.n, .int .i64 h.range, .string h.word, .slice ma ml mc, .slice ba bl bc, .slice ka 1 kc], .int .i64 least] w fun e w' => e = .returned (.string (bodyT h l)) ∧ Below w.heap.size w w' := by
  rw [tx_all hk, hl]
  obtain ⟨kd, n, rg, wd, ms, bs⟩ := h
  simp only at hB hbl hk ⊢
  subst hk
  obtain ⟨v1, v2, v3⟩ := allBad_ok ab
  simp only at v1 v2 v3
  have z1 := totals_size v1
  have z2 := (byt_size v3 v2).1
  have ZT := hide (byt_take_size v3)
  obtain ⟨I, hI⟩ : ∃ I, I = tx t.ex := ⟨_, rfl⟩
  rw [← hI] at hsz ⊢
  obtain ⟨s1, h1⟩ : ∃ s, s = lit [97, 108, 108, 32] ++ wd := ⟨_, rfl⟩
  obtain ⟨s2, h2⟩ : ∃ s, s = s1 ++ byt bs := ⟨_, rfl⟩
  obtain ⟨s3, h3⟩ : ∃ s, s = s2 ++ lit [32, 40] := ⟨_, rfl⟩
  obtain ⟨s4, h4⟩ : ∃ s, s = s3 ++ I := ⟨_, rfl⟩
  obtain ⟨s5, h5⟩ : ∃ s, s = s4 ++ lit [41] := ⟨_, rfl⟩
  have t1 : s1.size ≤ 10 := by rw [h1, app_size, lit_size]; simp; omega
  have t2 : s2.size ≤ 150 := by rw [h2, app_size]; omega
  have t3 : s3.size ≤ 160 := by rw [h3, app_size, lit_size]; simp; omega
  have t4 : s4.size ≤ 100190 := by rw [h4, app_size]; omega
  have a1 := sadd (P := Tryd.prog) h1 (by rw [lit_size]; simp; omega)
  have a3 := sadd (P := Tryd.prog) h3 (by rw [lit_size]; simp; omega)
  have a4 := sadd (P := Tryd.prog) h4 (by omega)
  have a5 := sadd (P := Tryd.prog) h5 (by rw [lit_size]; simp; omega)
  rw [← h1, ← h2, ← h3, ← h4, ← h5]
  unfold lit at a1 a3 a5
  have HBL := hide hbl
  have HI := hide (hI.trans (wi_zero t.hd _).symm)
  have HB3 := hide v3
  have H2 := hide h2
  have HT1 := hide t1
  have l4 : bl ≤ 4 := by omega
  clear h1 h2 h3 h4 h5 t1 t2 t3 t4 z1 z2 hsz hbl hI v1 v2 v3 ab hl l
  obtain ⟨b, off, rfl, hbb, hcell⟩ := seg_expr hK (k := 0) (by simp)
  have hc := hcell 0 (by simp)
  simp only [List.getElem_cons_zero, Nat.zero_mul, Nat.add_zero] at hc
  have HC := hide hc
  have HIN := hide hin
  have HIH := hide (ih 0)
  unfold eval at HIH
  obtain ⟨W, hW⟩ : ∃ W, W = w.alloc (.cells #[.int .i64 3, .int .i64 n, .int .i64 rg, .string wd, .slice ma ml mc, .slice ba bl bc, .slice (some ⟨b, off, none⟩) 1 kc] 26) := ⟨_, rfl⟩
  have bel0 : Below w.heap.size w W := by rw [hW]; exact (Below.refl _ _).alloc (Nat.le_refl _) _
  have F0 : W.heap[w.heap.size]? = some (.cells #[.int .i64 3, .int .i64 n, .int .i64 rg, .string wd, .slice ma ml mc, .slice ba bl bc, .slice (some ⟨b, off, none⟩) 1 kc] 26 (0, 0)) := by rw [hW]; exact heap_alloc_new w _
  have HB := hide bel0
  have HF := hide F0
  have HW := hide hW
  clear hW F0 bel0 hc hcell hin
  go_enter Tryd.func27, Tryd.ntmps27
  go_wp2_with fail
  rw [← HW.out]
  clear a1
  go_loopw [8, 77] (fun sv i wr => ∃ (k : Nat) (s : ByteArray), k ≤ bl ∧ i = .int .i64 k ∧ sv = .string s ∧ Hid (s = s1 ++ byt (bs.take k)) ∧ Below W.heap.size W wr) (fun _ i _ => bl - (intOf i).toNat)
  case atStart => exact ⟨0, s1, Nat.zero_le _, rfl, rfl, by show _ = _; simp [byt, append_lit_nil], Below.refl _ _⟩
  case round =>
    obtain ⟨k, s, hk, rfl, rfl, HJ, bel⟩ := hrel
    have belw : Below w.heap.size w wr := HB.out.trans (bel.mono HB.out.size)
    have hs : s.size ≤ 160 := by rw [HJ.out, app_size]; have := ZT.out k (by omega); have := HT1.out; omega
    by_cases hlt : k < bl
    · have hkl : k < bs.length := by rw [← HBL.out]; exact hlt
      obtain ⟨b2, off2, rfl, hbl2, hcell2⟩ := seg_word hB hkl
      obtain ⟨x, hx⟩ : ∃ x, x = bs.getD k ⟨#[]⟩ := ⟨_, rfl⟩
      have q0 := hcell2 k hkl
      rw [← hx] at q0
      have c0 := (belw.cell (p := ⟨b2, off2 + k, none⟩) (by exact hbl2)).trans q0
      have hE : bs.take (k + 1) = bs.take k ++ [x] := by rw [hx]; exact take_word hkl
      have HJS := hide (byt_step hE)
      have zx : x.size ≤ 12 := named_size (List.all_eq_true.1 HB3.out x (by rw [hx]; exact getD_mem hkl))
      clear q0 hcell2 hx hE
      obtain ⟨u, hu⟩ : ∃ u, u = if k = 0 then s ++ lit [32, 98, 121, 32] else s ++ lit [44] := ⟨_, rfl⟩
      obtain ⟨v, hv⟩ : ∃ v, v = u ++ x := ⟨_, rfl⟩
      have hus : u.size ≤ 170 := by rw [hu]; split <;> simp only [app_size, lit_size, List.length_cons, List.length_nil] <;> omega
      have e7 := sadd (P := Tryd.prog) hv (by omega)
      have HJ' : Hid (v = s1 ++ byt (bs.take (k + 1))) := by
        show _ = _
        rw [HJS.out, hv, hu]
        by_cases ek : k = 0
        · subst ek
          have e0 := HJ.out
          simp [byt, append_lit_nil] at e0
          simp [e0, ByteArray.append_assoc]
        · rw [if_neg ek, if_neg ek, HJ.out]
          simp [ByteArray.append_assoc]
      have belB : Below W.heap.size W (wr.alloc (.cells #[.string ⟨#[32, 98, 121, 32]⟩, .string ⟨#[44]⟩] 9)) := bel.alloc bel.size _
      clear hv HJS HJ zx hus
      by_cases ek : k = 0
      · rw [if_pos ek] at hu
        have e6 := sadd (P := Tryd.prog) hu (by rw [lit_size]; simp; omega)
        unfold lit at e6
        have hmin : min ((k : Nat) : Int) 1 = 0 := by omega
        clear hu ek
        go_wp2_with fail
        go_roundw
        case rel => exact ⟨k + 1, v, by omega, by go_num, rfl, HJ', belB⟩
        case measure => simp [intOf]; omega
      · rw [if_neg ek] at hu
        have e6 := sadd (P := Tryd.prog) hu (by rw [lit_size]; simp; omega)
        unfold lit at e6
        have hmin : min ((k : Nat) : Int) 1 = 1 := by omega
        clear ek hu
        go_wp2_with fail
        go_roundw
        case rel => exact ⟨k + 1, v, by omega, by go_num, rfl, HJ', belB⟩
        case measure => simp [intOf]; omega
    · have he : k = bl := by omega
      have HE : Hid (s = s2) := by
        show _ = _
        rw [HJ.out, H2.out, List.take_of_length_le (by rw [← HBL.out]; omega)]
      rw [HE.out]
      obtain ⟨p0, p1, p2, p3, p4, p5, p6⟩ := seven_cells (below_block bel HF.out)
      obtain ⟨c0, c1, c2, c3, c4, c5, c6⟩ := HC.out.below belw
      go_wp2_with fail
      refine (HIH.out wr (by omega) (by omega) (ET.In.below belw t HIN.out) (hT.below belw)).mono ?_
      rintro e w1 ⟨rfl, b1⟩
      rw [← HI.out]
      go_wp2_with fail
      go_ret
      exact ⟨rfl, belw.trans (b1.mono belw.size)⟩

set_option maxHeartbeats 8000000 in
set_option maxRecDepth 100000 in
theorem rtext_bin (h : Hd) (least : Int) (ma : Option Addr) (ml mc : Nat) (ba : Option Addr) (bl bc : Nat) (ka : Option Addr) (kc : Nat) (t u : ET) (w : World) (hk : h.kind = 4) (sg : has signs3 h.word = true) (hT : Tab w) (hK : Seg w ka (ecells [t, u])) (hin : t.In w) (hin' : u.In w) (ih : TellsR t) (ih' : TellsR u) (hsz : (tx t.ex).size ≤ 100000) (hsz' : (tx u.ex).size ≤ 100000) (l : List (Int × ByteArray)) (hl : at2 l 0 = (rk t.hd, tx t.ex)) (hl' : at2 l 1 = (rk u.hd, tx u.ex)) :
    Calls Tryd.prog 27 #[.agg #[.int .i64 h.kind, .int .i64 h.n, .int .i64 h.range, .string h.word, .slice ma ml mc, .slice ba bl bc, .slice ka 2 kc], .int .i64 least] w fun e w' => e = .returned (.string (wi least (rk h, bodyT h l))) ∧ Below w.heap.size w w' := by
  rw [tx_bin hk, hl, hl']
  obtain ⟨K, hKK⟩ : ∃ K, K = rk h := ⟨_, rfl⟩
  have kb : 0 ≤ K ∧ K ≤ 1 := by rw [hKK, rk, if_pos hk]; split <;> omega
  rw [← hKK]
  have P0 := hide (fun w' => ih K w' kb.1 (by omega))
  have P1 := hide (fun w' => ih' (K + 1) w' (by omega) (by omega))
  have zI := wi_size K (rk t.hd, tx t.ex)
  have zJ := wi_size (K + 1) (rk u.hd, tx u.ex)
  simp only at zI zJ
  obtain ⟨I, hI⟩ : ∃ I, I = wi K (rk t.hd, tx t.ex) := ⟨_, rfl⟩
  obtain ⟨J, hJ⟩ : ∃ J, J = wi (K + 1) (rk u.hd, tx u.ex) := ⟨_, rfl⟩
  rw [← hI] at zI P0 ⊢
  rw [← hJ] at zJ P1 ⊢
  clear hI hJ hl hl' l ih ih'
  obtain ⟨kd, n, rg, wd, ms, bs⟩ := h
  simp only at hk sg ⊢
  subst hk
  have z1 := signs_size sg
  obtain ⟨s1, h1⟩ : ∃ s, s = I ++ lit [32] := ⟨_, rfl⟩
  obtain ⟨s2, h2⟩ : ∃ s, s = s1 ++ wd := ⟨_, rfl⟩
  obtain ⟨s3, h3⟩ : ∃ s, s = s2 ++ lit [32] := ⟨_, rfl⟩
  obtain ⟨s4, h4⟩ : ∃ s, s = s3 ++ J := ⟨_, rfl⟩
  obtain ⟨s5, h5⟩ : ∃ s, s = lit [40] ++ s4 := ⟨_, rfl⟩
  obtain ⟨s6, h6⟩ : ∃ s, s = s5 ++ lit [41] := ⟨_, rfl⟩
  have t1 : s1.size ≤ 100010 := by rw [h1, app_size, lit_size]; simp; omega
  have t2 : s2.size ≤ 100020 := by rw [h2, app_size]; omega
  have t3 : s3.size ≤ 100030 := by rw [h3, app_size, lit_size]; simp; omega
  have t4 : s4.size ≤ 300030 := by rw [h4, app_size]; omega
  have t5 : s5.size ≤ 300040 := by rw [h5, app_size, lit_size]; simp; omega
  have a1 := sadd (P := Tryd.prog) h1 (by rw [lit_size]; simp; omega)
  have a2 := sadd (P := Tryd.prog) h2 (by omega)
  have a3 := sadd (P := Tryd.prog) h3 (by rw [lit_size]; simp; omega)
  have a4 := sadd (P := Tryd.prog) h4 (by omega)
  have a5 := sadd (P := Tryd.prog) h5 (by rw [lit_size]; simp; omega)
  have a6 := sadd (P := Tryd.prog) h6 (by rw [lit_size]; simp; omega)
  rw [← h1, ← h2, ← h3, ← h4]
  have HW1 : Hid (K < least → s6 = wi least (K, s4)) := fun hlt => by rw [h6, h5]; simp [wi, hlt]
  have HW2 : Hid (¬ K < least → s4 = wi least (K, s4)) := fun hlt => by simp [wi, hlt]
  unfold lit at a1 a3 a5 a6
  have hwr : IntKind.i64.wrap (K + 1) = K + 1 := IntWalk.i64_in _ ⟨by omega, by omega⟩
  have HKW : Hid (K = if wd = lit [42] then 1 else 0) := by show _ = _; rw [hKK]; rfl
  clear h1 h2 h3 h4 h5 h6 t1 t2 t3 t4 t5 z1 zI zJ hsz hsz' sg kb hKK
  obtain ⟨b, off, rfl, hbb, hcell⟩ := seg_expr hK (k := 0) (by simp)
  have hc := hcell 0 (by simp)
  have hc' := hcell 1 (by simp)
  simp only [List.getElem_cons_zero, List.getElem_cons_succ, Nat.zero_mul, Nat.add_zero, Nat.one_mul] at hc hc'
  unfold eval at P0 P1
  obtain ⟨W, hW⟩ : ∃ W, W = w.alloc (.cells #[.int .i64 4, .int .i64 n, .int .i64 rg, .string wd, .slice ma ml mc, .slice ba bl bc, .slice (some ⟨b, off, none⟩) 2 kc] 26) := ⟨_, rfl⟩
  have bel0 : Below w.heap.size w W := by rw [hW]; exact (Below.refl _ _).alloc (Nat.le_refl _) _
  have F0 : W.heap[w.heap.size]? = some (.cells #[.int .i64 4, .int .i64 n, .int .i64 rg, .string wd, .slice ma ml mc, .slice ba bl bc, .slice (some ⟨b, off, none⟩) 2 kc] 26 (0, 0)) := by rw [hW]; exact heap_alloc_new w _
  have hcW := hc.below bel0
  have hcW' := hc'.below bel0
  have HB := hide bel0
  have HS : Hid (∀ w', Below W.heap.size W w' → (w'.cell? ⟨w.heap.size, 3, none⟩ = some (.string wd) ∧ w'.cell? ⟨w.heap.size, 6, none⟩ = some (.slice (some ⟨b, off, none⟩) 2 kc)) ∧ Cells7 w' b off t ∧ Cells7 w' b (off + 7) u) := fun w' hb => by
    obtain ⟨_, _, _, p3, _, _, p6⟩ := seven_cells (below_block hb F0)
    exact ⟨⟨p3, p6⟩, hcW.below hb, hcW'.below hb⟩
  have hTW := hT.below bel0
  have HINW := hide (ET.In.below bel0 t hin)
  have HINW' := hide (ET.In.below bel0 u hin')
  have R0 : Below W.heap.size W W := Below.refl _ _
  have R1 : Below W.heap.size W W.drew := below_drewN (Below.refl _ W) 1
  have HW := hide hW
  clear hW F0 bel0 hc hcW hc' hcW' hcell hin hin'
  unfold Cells7 at HS
  by_cases hw : wd = ⟨#[42]⟩
  · have hK1 : K = 1 := by rw [HKW.out, if_pos (show wd = lit [42] from hw)]
    subst hw hK1
    clear HKW
    go_enter Tryd.func27, Tryd.ntmps27
    go_wp2_with fail
    rw [← HW.out]
    go_region_held3 (fun w' => (w'.cell? ⟨w.heap.size, 3, none⟩ = some (.string ⟨#[42]⟩) ∧ w'.cell? ⟨w.heap.size, 6, none⟩ = some (.slice (some ⟨b, off, none⟩) 2 kc)) ∧ (w'.cell? ⟨b, off, none⟩ = some (.int .i64 t.hd.kind) ∧ w'.cell? ⟨b, off + 1, none⟩ = some (.int .i64 t.hd.n) ∧ w'.cell? ⟨b, off + 2, none⟩ = some (.int .i64 t.hd.range) ∧ w'.cell? ⟨b, off + 3, none⟩ = some (.string t.hd.word) ∧ w'.cell? ⟨b, off + 4, none⟩ = some (.slice t.sp.ma t.hd.ms.length t.sp.mc) ∧ w'.cell? ⟨b, off + 5, none⟩ = some (.slice t.sp.ba t.hd.bs.length t.sp.bc) ∧ w'.cell? ⟨b, off + 6, none⟩ = some (.slice t.sp.ka t.kids.length t.sp.kc)) ∧ w'.cell? ⟨b, off + 7, none⟩ = some (.int .i64 u.hd.kind) ∧ w'.cell? ⟨b, off + 7 + 1, none⟩ = some (.int .i64 u.hd.n) ∧ w'.cell? ⟨b, off + 7 + 2, none⟩ = some (.int .i64 u.hd.range) ∧ w'.cell? ⟨b, off + 7 + 3, none⟩ = some (.string u.hd.word) ∧ w'.cell? ⟨b, off + 7 + 4, none⟩ = some (.slice u.sp.ma u.hd.ms.length u.sp.mc) ∧ w'.cell? ⟨b, off + 7 + 5, none⟩ = some (.slice u.sp.ba u.hd.bs.length u.sp.bc) ∧ w'.cell? ⟨b, off + 7 + 6, none⟩ = some (.slice u.sp.ka u.kids.length u.sp.kc)) (exact HS.out _ (by assumption))
      (first
        | (go_at_call 27; refine (P0.out _ (ET.In.below (by assumption) t HINW.out) (hTW.below (by assumption))).mono ?_; rintro e w1 ⟨rfl, b1⟩; have R2 := below_step7 b1 (by assumption); clear P0)
        | (go_at_call 27; refine (P1.out _ (ET.In.below (by assumption) u HINW'.out) (hTW.below (by assumption))).mono ?_; rintro e w1 ⟨rfl, b1⟩; have R2 := below_step7 b1 (by assumption)))
    by_cases hlt : (1 : Int) < least
    · go_wp2_with fail
      go_ret
      exact ⟨by rw [← HW1.out hlt]; rfl, HB.out.trans (R2.mono HB.out.size)⟩
    · go_wp2_with fail
      go_ret
      exact ⟨by rw [← HW2.out hlt]; rfl, HB.out.trans (R2.mono HB.out.size)⟩
  · have hK1 : K = 0 := by rw [HKW.out, if_neg (show ¬ wd = lit [42] from hw)]
    have q := word_not (l := [42]) hw
    subst hK1
    clear HKW hw
    go_enter Tryd.func27, Tryd.ntmps27
    go_wp2_with fail
    rw [← HW.out]
    go_region_held3 (fun w' => (w'.cell? ⟨w.heap.size, 3, none⟩ = some (.string wd) ∧ w'.cell? ⟨w.heap.size, 6, none⟩ = some (.slice (some ⟨b, off, none⟩) 2 kc)) ∧ (w'.cell? ⟨b, off, none⟩ = some (.int .i64 t.hd.kind) ∧ w'.cell? ⟨b, off + 1, none⟩ = some (.int .i64 t.hd.n) ∧ w'.cell? ⟨b, off + 2, none⟩ = some (.int .i64 t.hd.range) ∧ w'.cell? ⟨b, off + 3, none⟩ = some (.string t.hd.word) ∧ w'.cell? ⟨b, off + 4, none⟩ = some (.slice t.sp.ma t.hd.ms.length t.sp.mc) ∧ w'.cell? ⟨b, off + 5, none⟩ = some (.slice t.sp.ba t.hd.bs.length t.sp.bc) ∧ w'.cell? ⟨b, off + 6, none⟩ = some (.slice t.sp.ka t.kids.length t.sp.kc)) ∧ w'.cell? ⟨b, off + 7, none⟩ = some (.int .i64 u.hd.kind) ∧ w'.cell? ⟨b, off + 7 + 1, none⟩ = some (.int .i64 u.hd.n) ∧ w'.cell? ⟨b, off + 7 + 2, none⟩ = some (.int .i64 u.hd.range) ∧ w'.cell? ⟨b, off + 7 + 3, none⟩ = some (.string u.hd.word) ∧ w'.cell? ⟨b, off + 7 + 4, none⟩ = some (.slice u.sp.ma u.hd.ms.length u.sp.mc) ∧ w'.cell? ⟨b, off + 7 + 5, none⟩ = some (.slice u.sp.ba u.hd.bs.length u.sp.bc) ∧ w'.cell? ⟨b, off + 7 + 6, none⟩ = some (.slice u.sp.ka u.kids.length u.sp.kc)) (exact HS.out _ (by assumption))
      (first
        | (go_at_call 27; refine (P0.out _ (ET.In.below (by assumption) t HINW.out) (hTW.below (by assumption))).mono ?_; rintro e w1 ⟨rfl, b1⟩; have R2 := below_step7 b1 (by assumption); clear P0)
        | (go_at_call 27; refine (P1.out _ (ET.In.below (by assumption) u HINW'.out) (hTW.below (by assumption))).mono ?_; rintro e w1 ⟨rfl, b1⟩; have R2 := below_step7 b1 (by assumption)))
    by_cases hlt : (0 : Int) < least
    · go_wp2_with fail
      go_ret
      exact ⟨by rw [← HW1.out hlt]; rfl, HB.out.trans (R2.mono HB.out.size)⟩
    · go_wp2_with fail
      go_ret
      exact ⟨by rw [← HW2.out hlt]; rfl, HB.out.trans (R2.mono HB.out.size)⟩

set_option maxHeartbeats 1000000 in
set_option maxRecDepth 100000 in
theorem rtext_any : ∀ t : ET, Rt t.ex → cnt t.ex ≤ 100 → TellsR t := by
  refine ET.ind ?_
  intro h s kids ih hr hc least w hl0 hl2 hin hT
  have ha := hr.here
  rw [cnt_node] at hc
  rw [tx_node]
  have hkid : ∀ k ∈ kids, TellsR k ∧ (tx k.ex).size ≤ 100000 := fun k hk => by
    have := cntL_mem hk
    refine ⟨ih k hk (hr.kid hk) (by omega), ?_⟩
    have := tx_size k.ex (hr.kid hk)
    omega
  simp only [ET.In] at hin
  obtain ⟨⟨hM, hB, hK⟩, ⟨lM, lB, lK, lW, fM, fB, hbc, fM2⟩, hL⟩ := hin
  rcases alone_cases ha with ⟨e, k, n0, n1⟩ | ⟨e, k, wb⟩ | ⟨e, k, ab⟩ | ⟨e, k, sg⟩
  · obtain ⟨kd, n, rg, wd, ms, bs⟩ := h
    obtain ⟨ma, mc, ba, bc, ka, kc⟩ := s
    rw [show rk (ET.node ⟨kd, n, rg, wd, ms, bs⟩ ⟨ma, mc, ba, bc, ka, kc⟩ kids).hd = 2 from by simp only at e; simp [ET.hd, rk, e], wi_two hl2, tx_num e]
    simp only at e n0 n1 ⊢
    subst e
    show Calls Tryd.prog _ #[.agg #[.int .i64 1, .int .i64 n, .int .i64 rg, .string wd, .slice ma ms.length mc, .slice ba bs.length bc, .slice ka kids.length kc], .int .i64 least] w _
    generalize ms.length = ml
    generalize bs.length = bl
    generalize kids.length = kl
    have bel : Below w.heap.size w (w.alloc (.cells #[.int .i64 1, .int .i64 n, .int .i64 rg, .string wd, .slice ma ml mc, .slice ba bl bc, .slice ka kl kc] 26)) := (Below.refl _ _).alloc (Nat.le_refl _) _
    clear hkid ih hr hc ha hM hB hK lM lB lK lW fM fB hbc fM2 hL k
    have HI := hide (itoa_any n _ n0 n1 (hT.below bel))
    go_enter Tryd.func27, Tryd.ntmps27
    go_wp2_with fail
    refine HI.out.mono ?_
    rintro e w1 ⟨rfl, b1⟩
    go_wp2_with fail
    go_ret
    exact ⟨rfl, bel.trans (b1.mono bel.size)⟩
  · rw [show rk (ET.node h s kids).hd = 2 from by simp [ET.hd, rk, e], wi_two hl2]
    exact rtext_win h least s.ma h.ms.length s.mc s.ba h.bs.length s.bc s.ka kids.length s.kc w hM rfl e wb hT _ fM2
  · match kids, k with
    | [t], _ =>
      have ht := hkid t (by simp)
      rw [show rk (ET.node h s [t]).hd = 2 from by simp [ET.hd, rk, e], wi_two hl2]
      exact rtext_all h least s.ma h.ms.length s.mc s.ba h.bs.length s.bc s.ka s.kc t w hB rfl e ab hT hK (inL_mem hL t (by simp)) ht.1 ht.2 _ (by rw [at2_kid (by simp)]; rfl)
  · match kids, k with
    | [t, u], _ =>
      have ht := hkid t (by simp)
      have hu := hkid u (by simp)
      exact rtext_bin h least s.ma h.ms.length s.mc s.ba h.bs.length s.bc s.ka s.kc t u w e sg hT hK (inL_mem hL t (by simp)) (inL_mem hL u (by simp)) ht.1 hu.1 ht.2 hu.2 _ (by rw [at2_kid (by simp)]; rfl) (by rw [at2_kid (by simp)]; rfl)

set_option maxHeartbeats 1000000 in
theorem rprint_any (t : ET) (w : World) (hin : t.In w) (hT : Tab w) :
    Calls Tryd.prog 11 #[eval t] w fun e w' => e = .returned (.tuple #[.string (prt t.ex).1, .int .i64 (prt t.ex).2]) ∧ Below w.heap.size w w' := by
  have HIN := hide hin
  have HTX := hide (fun r c => rtext_any t r c 0)
  rw [wi_zero] at HTX
  have HWR := hide (rwrong_any t)
  obtain ⟨⟨X, Y⟩, hX⟩ : ∃ X, X = prt t.ex := ⟨_, rfl⟩
  rw [← hX]
  have HX := hide hX
  clear hX hin
  obtain ⟨E, hE⟩ : ∃ E, E = (wr t.ex 1 0).1 := ⟨_, rfl⟩
  rw [← hE] at HWR
  have HE := hide hE
  clear hE
  unfold eval at HTX
  unfold eval at HWR ⊢
  generalize t.hd.ms.length = ml at *
  generalize t.hd.bs.length = bl at *
  generalize t.kids.length = kl at *
  obtain ⟨W, hW⟩ : ∃ W, W = w.alloc (.cells #[.int .i64 t.hd.kind, .int .i64 t.hd.n, .int .i64 t.hd.range, .string t.hd.word, .slice t.sp.ma ml t.sp.mc, .slice t.sp.ba bl t.sp.bc, .slice t.sp.ka kl t.sp.kc] 26) := ⟨_, rfl⟩
  have bel0 : Below w.heap.size w W := by rw [hW]; exact (Below.refl _ _).alloc (Nat.le_refl _) _
  have F0 : W.heap[w.heap.size]? = some (.cells #[.int .i64 t.hd.kind, .int .i64 t.hd.n, .int .i64 t.hd.range, .string t.hd.word, .slice t.sp.ma ml t.sp.mc, .slice t.sp.ba bl t.sp.bc, .slice t.sp.ka kl t.sp.kc] 26 (0, 0)) := by rw [hW]; exact heap_alloc_new w _
  have HF := hide F0
  have HW := hide hW
  clear hW F0
  go_enter Tryd.func11, Tryd.ntmps11
  go_wp2_with fail
  rw [← HW.out]
  refine (HWR.out W (ET.In.below bel0 t HIN.out)).mono ?_
  rintro e w1 ⟨rfl, b1⟩
  obtain ⟨p0, p1, p2, p3, p4, p5, p6⟩ := seven_cells (below_block b1 HF.out)
  have bel1 : Below w.heap.size w w1 := bel0.trans (b1.mono bel0.size)
  by_cases hE0 : E = 0
  · have eE : (E == 0) = true := by simp [hE0]
    obtain ⟨r1, r2, r3, _⟩ := wr_ok t.ex 1 0 (by omega) (by rw [← HE.out]; exact hE0)
    have HZ := hide (tx_size t.ex r1)
    have HC := hide (show cnt t.ex ≤ 100 by omega)
    have HT2 := hide (HTX.out r1 HC.out)
    have HQ : Hid ((X, Y) = if 2000 < (tx t.ex).size then (lit [], 4) else (tx t.ex, 0)) := by show _ = _; rw [HX.out, prt, ← HE.out, if_pos hE0]
    obtain ⟨s, hs⟩ : ∃ s, s = tx t.ex := ⟨_, rfl⟩
    rw [← hs] at HQ HZ
    have Hs := hide hs
    clear hE0 r1 r2 r3 hs HX HTX
    go_wp2_with fail
    refine (HT2.out w1 (by omega) (by omega) (ET.In.below bel1 t HIN.out) (hT.below bel1)).mono ?_
    rintro e w2 ⟨rfl, b2⟩
    rw [← Hs.out]
    have bel2 := bel1.trans (b2.mono bel1.size)
    by_cases hb : 2000 < s.size
    · have hb' : (2000 : Int) < (s.size : Int) := by omega
      have HX2 : Hid (X = ⟨#[]⟩ ∧ Y = 4) := by show _ ∧ _; have := HQ.out; rw [if_pos hb] at this; simpa [lit] using this
      go_wp2_with fail
      go_ret2
      exact ⟨by rw [HX2.out.1, HX2.out.2]; rfl, bel2⟩
    · have hb' : ¬ (2000 : Int) < (s.size : Int) := by omega
      have HX2 : Hid (X = s ∧ Y = 0) := by show _ ∧ _; have := HQ.out; rw [if_neg hb] at this; simpa using this
      go_wp2_with fail
      go_ret2
      exact ⟨by rw [HX2.out.1, HX2.out.2]; rfl, bel2⟩
  · have eE : (E == 0) = false := by simp [hE0]
    have HX2 : Hid (X = ⟨#[]⟩ ∧ Y = E) := by show _ ∧ _; have := HX.out; rw [prt, ← HE.out, if_neg hE0] at this; simpa [lit] using this
    go_wp2_with fail
    go_ret2
    exact ⟨by rw [HX2.out.1, HX2.out.2]; rfl, bel1⟩

end Go.Proofs.YtppaknkhmmcanacDoor
