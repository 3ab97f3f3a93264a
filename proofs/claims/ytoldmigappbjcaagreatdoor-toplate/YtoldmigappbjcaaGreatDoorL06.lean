import Derived.Lib.AppendIntMem
import Derived.Test.YtoldmigappbjcaaGreatDoorL02
import Derived.Test.YtoldmigappbjcaaGreatDoorL04
import Derived.Test.YtoldmigappbjcaaGreatDoorL05
namespace Go.GrainU
open Go.RowKit
theorem seg_grown {w w' : World} {B : Nat} {ao : Option Addr} {xs : List Value} (h : Seg w ao xs) (g : w.grownBy w' (some B)) (hne : ∀ b off, ao = some ⟨b, off, none⟩ → b ≠ B) : Seg w' ao xs := by
 rcases h with h | ⟨b, off, rfl, h⟩
 ·exact .inl h
 ·refine .inr ⟨b, off, rfl, fun j hj => ?_⟩
  rw [← h j hj]
  have hb : b < w.heap.size := by
   have h1 := h j hj
   rw [List.getElem?_eq_getElem hj] at h1
   exact World.block_lt_of_cell? w ⟨b, off + j, none⟩ h1
  have hk := g.block b hb (fun e => hne b off rfl (Option.some.inj e))
  simp [World.cell?, hk]
end Go.GrainU
namespace Go.Proofs.YtoldmigappbjcaaGreatDoor
open Go.RowKit Go.GrainU
theorem anyWord_any (s : ByteArray) (st : St) (B : Nat) (w : World) (h : Rd 95 w B s st) (hs : s.size ≤ 2000) :
  Calls Tryz.prog 243 #[.pointer (some ⟨B, 0, none⟩)] w fun e w' => e = .returned (.string (lit (anyW st.r).1)) ∧ Rd 95 w' B s ⟨(anyW st.r).2, st.n⟩ ∧ w.grownBy w' (some B) := by
 have HN := hide (rnext_any s st B w h hs)
 have HR := hide (run_wbytes s st B w h hs)
 have HL := hide (letter_byte (nxt st.r) w)
 cases hl : letter (nxt st.r) with
 | true =>
  have HA : Hid (anyW st.r = ((skip st.r).takeWhile wbyte, (skip st.r).dropWhile wbyte)) := by show _ = _; simp [anyW, hl]
  rw [hl] at HL
  clear hl
  go_enter Tryz.func243, Tryz.ntmps243
  go_wp2_with fail
  refine HN.out.mono ?_
  intro e w1 hh
  rw [hh.1, hh.2]
  clear hh
  go_wp2_with fail
  refine HL.out.mono ?_
  intro e w1 hh
  rw [hh.1, hh.2]
  clear hh
  go_wp2_with fail
  refine HR.out.mono ?_
  rintro e w1 ⟨rfl, h1, g1⟩
  go_wp2_with fail
  go_ret
  exact ⟨by rw [HA.out]; rfl, by rw [HA.out]; exact h1, g1⟩
 | false =>
  have HA : Hid (anyW st.r = ([], st.r)) := by show _ = _; simp [anyW, hl]
  rw [hl] at HL
  clear hl
  go_enter Tryz.func243, Tryz.ntmps243
  go_wp2_with fail
  refine HN.out.mono ?_
  intro e w1 hh
  rw [hh.1, hh.2]
  clear hh
  go_wp2_with fail
  refine HL.out.mono ?_
  intro e w1 hh
  rw [hh.1, hh.2]
  clear hh
  go_wp2_with fail
  go_ret
  exact ⟨by rw [HA.out]; rfl, by rw [HA.out]; exact h, World.grownBy.refl _ _⟩
set_option maxHeartbeats 1000000 in
theorem word_any (s : ByteArray) (st : St) (B : Nat) (w : World) (h : Rd 95 w B s st) (hs : s.size ≤ 2000) :
  Calls Tryz.prog 218 #[.pointer (some ⟨B, 0, none⟩)] w fun e w' => ((∃ x r, wrd st.r = .ok (x, r) ∧ e = .returned (.string (lit x)) ∧ Rd 95 w' B s ⟨r, st.n⟩) ∨ ∃ f, wrd st.r = .error f ∧ e = .panicked [thr s f]) ∧ w.grownBy w' (some B) := by
 have HB := hide (rbegin_any s st B w h hs)
 have HW := hide (anyWord_any s st B w h hs)
 obtain ⟨⟨x, r⟩, hx⟩ : ∃ x, x = anyW st.r := ⟨_, rfl⟩
 rw [← hx] at HW
 simp only at HW
 have HWR : Hid (wrd st.r = if x = [] then .error (2, (skip st.r).length) else if 12 < x.length then .error (7, (skip st.r).length) else .ok (x, r)) := by show _ = _; unfold wrd; rw [← hx]
 clear hx
 obtain ⟨K, hK⟩ : ∃ K, K = pos s (skip st.r) := ⟨_, rfl⟩
 rw [← hK] at HB
 have HK := hide hK
 clear hK
 by_cases h0 : x = []
 ·have HE : Hid (wrd st.r = .error (2, (skip st.r).length)) := by show _ = _; rw [HWR.out, if_pos h0]
  clear HWR
  subst h0
  unfold lit at HW
  go_enter Tryz.func218, Tryz.ntmps218
  go_wp2_with fail
  refine HB.out.mono ?_
  intro e w1 hh
  rw [hh.1, hh.2]
  clear hh
  go_wp2_with fail
  refine HW.out.mono ?_
  rintro e w1 ⟨rfl, h1, g1⟩
  go_wp2_with fail
  refine (throw_any _ _ w1).mono ?_
  intro e w2 hh
  rw [hh.1, hh.2]
  clear hh
  go_wp2_with fail
  exact ⟨rfl, .inr ⟨_, HE.out, by rw [HK.out]; rfl⟩, g1⟩
 ·have HX0 : Hid (lit x ≠ lit []) := fun e => h0 (by have := congrArg (fun b : ByteArray => b.data.toList) e; simpa [lit] using this)
  have q := word_not (l := []) HX0.out
  obtain ⟨L, hL⟩ : ∃ L, L = (lit x).size := ⟨_, rfl⟩
  have hL2 : L = x.length := by rw [hL, lit_size]
  have hL' : (lit x).size = L := hL.symm
  clear hL
  by_cases h12 : 12 < x.length
  ·have HE : Hid (wrd st.r = .error (7, (skip st.r).length)) := by show _ = _; rw [HWR.out, if_neg h0, if_pos h12]
   have h12' : (12 : Int) < (L : Int) := by omega
   clear HWR h0 h12 hL2
   go_enter Tryz.func218, Tryz.ntmps218
   go_wp2_with fail
   refine HB.out.mono ?_
   intro e w1 hh
   rw [hh.1, hh.2]
   clear hh
   go_wp2_with fail
   refine HW.out.mono ?_
   rintro e w1 ⟨rfl, h1, g1⟩
   go_wp2_with fail
   refine (throw_any _ _ w1).mono ?_
   intro e w2 hh
   rw [hh.1, hh.2]
   clear hh
   go_wp2_with fail
   exact ⟨rfl, .inr ⟨_, HE.out, by rw [HK.out]; rfl⟩, g1⟩
  ·have HE : Hid (wrd st.r = .ok (x, r)) := by show _ = _; rw [HWR.out, if_neg h0, if_neg h12]
   have h12' : ¬ (12 : Int) < (L : Int) := by omega
   clear HWR h0 h12 hL2
   go_enter Tryz.func218, Tryz.ntmps218
   go_wp2_with fail
   refine HB.out.mono ?_
   intro e w1 hh
   rw [hh.1, hh.2]
   clear hh
   go_wp2_with fail
   refine HW.out.mono ?_
   rintro e w1 ⟨rfl, h1, g1⟩
   go_wp2_with fail
   go_ret
   exact ⟨.inl ⟨x, r, HE.out, rfl, h1⟩, g1⟩
set_option maxHeartbeats 1000000 in
theorem wordOf_any (may : List ByteArray) (bo : Option Addr) (m c : Nat) (s : ByteArray) (st : St) (B : Nat) (w : World) (h : Rd 95 w B s st) (hs : s.size ≤ 2000) (hb : Seg w bo (wcells may)) (hm : m = may.length) (hM : m ≤ 100) (hne : ∀ b off, bo = some ⟨b, off, none⟩ → b ≠ B) :
  Calls Tryz.prog 189 #[.pointer (some ⟨B, 0, none⟩), .slice bo m c] w fun e w' => ((∃ x r, wrdOf may st.r = .ok (x, r) ∧ e = .returned (.string (lit x)) ∧ Rd 95 w' B s ⟨r, st.n⟩) ∨ ∃ f, wrdOf may st.r = .error f ∧ e = .panicked [thr s f]) ∧ w.grownBy w' (some B) := by
 have HB := hide (rbegin_any s st B w h hs)
 have HW := hide (word_any s st B w h hs)
 have HM := hide hm
 have HS := hide hb
 have HNE := hide hne
 clear hm hb hne
 obtain ⟨K, hK⟩ : ∃ K, K = pos s (skip st.r) := ⟨_, rfl⟩
 rw [← hK] at HB
 have HK := hide hK
 clear hK
 go_enter Tryz.func189, Tryz.ntmps189
 go_wp2_with fail
 refine HB.out.mono ?_
 intro e w1 hh
 rw [hh.1, hh.2]
 clear hh
 go_wp2_with fail
 refine HW.out.mono ?_
 rintro e w1 ⟨⟨x, r, hx, rfl, h1⟩ | ⟨f, hf, rfl⟩, g1⟩
 ·have HX := hide hx
  have HS1 := hide (seg_grown HS.out g1 HNE.out)
  clear hx
  cases hh2 : has may (lit x) with
  | true =>
   have HE : Hid (wrdOf may st.r = .ok (x, r)) := by show _ = _; unfold wrdOf; rw [HX.out]; simp [hh2]
   go_wp2_with fail
   refine (ncont_any may (lit x) bo m c w1 HS1.out HM.out (by omega)).mono ?_
   intro e w2 hh
   rw [hh.1, hh.2, hh2]
   clear hh
   go_wp2_with fail
   go_ret
   exact ⟨.inl ⟨x, r, HE.out, rfl, h1⟩, g1⟩
  | false =>
   have HE : Hid (wrdOf may st.r = .error (7, (skip st.r).length)) := by show _ = _; unfold wrdOf; rw [HX.out]; simp [hh2]
   go_wp2_with fail
   refine (ncont_any may (lit x) bo m c w1 HS1.out HM.out (by omega)).mono ?_
   intro e w2 hh
   rw [hh.1, hh.2, hh2]
   clear hh
   go_wp2_with fail
   refine (throw_any _ _ w1).mono ?_
   intro e w2 hh
   rw [hh.1, hh.2]
   clear hh
   go_wp2_with fail
   exact ⟨rfl, .inr ⟨_, HE.out, by rw [HK.out]; rfl⟩, g1⟩
 ·have HE : Hid (wrdOf may st.r = .error f) := by show _ = _; unfold wrdOf; rw [hf]
  clear hf
  go_wp2_with fail
  exact ⟨rfl, .inr ⟨_, HE.out, rfl⟩, g1⟩
set_option maxHeartbeats 1000000 in
theorem by_any (s : ByteArray) (st : St) (B : Nat) (w : World) (h : Rd 95 w B s st) (hs : s.size ≤ 2000) :
  Calls Tryz.prog 219 #[.pointer (some ⟨B, 0, none⟩)] w fun e w' => ((∃ r, byW st.r = .ok r ∧ e = .returned (.tuple #[]) ∧ Rd 95 w' B s ⟨r, st.n⟩) ∨ ∃ f, byW st.r = .error f ∧ e = .panicked [thr s f]) ∧ w.grownBy w' (some B) := by
 have HB := hide (rbegin_any s st B w h hs)
 have HW := hide (anyWord_any s st B w h hs)
 obtain ⟨⟨x, r⟩, hx⟩ : ∃ x, x = anyW st.r := ⟨_, rfl⟩
 rw [← hx] at HW
 simp only at HW
 have HWR : Hid (byW st.r = if x = [98, 121] then .ok r else .error (2, (skip st.r).length)) := by show _ = _; unfold byW; rw [← hx]
 clear hx
 obtain ⟨K, hK⟩ : ∃ K, K = pos s (skip st.r) := ⟨_, rfl⟩
 rw [← hK] at HB
 have HK := hide hK
 clear hK
 by_cases h0 : x = [98, 121]
 ·have HE : Hid (byW st.r = .ok r) := by show _ = _; rw [HWR.out, if_pos h0]
  clear HWR
  subst h0
  unfold lit at HW
  go_enter Tryz.func219, Tryz.ntmps219
  go_wp2_with fail
  refine HB.out.mono ?_
  intro e w1 hh
  rw [hh.1, hh.2]
  clear hh
  go_wp2_with fail
  refine HW.out.mono ?_
  rintro e w1 ⟨rfl, h1, g1⟩
  go_wp2_with fail
  refine bodyPost_end (results_none rfl _ _ _) rfl ?_
  exact ⟨.inl ⟨r, HE.out, rfl, h1⟩, g1⟩
 ·have HE : Hid (byW st.r = .error (2, (skip st.r).length)) := by show _ = _; rw [HWR.out, if_neg h0]
  have HX0 : Hid (lit x ≠ lit [98, 121]) := fun e => h0 (by have := congrArg (fun b : ByteArray => b.data.toList) e; simpa [lit] using this)
  have q := word_not (l := [98, 121]) HX0.out
  clear HWR h0
  go_enter Tryz.func219, Tryz.ntmps219
  go_wp2_with fail
  refine HB.out.mono ?_
  intro e w1 hh
  rw [hh.1, hh.2]
  clear hh
  go_wp2_with fail
  refine HW.out.mono ?_
  rintro e w1 ⟨rfl, h1, g1⟩
  go_wp2_with fail
  refine (throw_any _ _ w1).mono ?_
  intro e w2 hh
  rw [hh.1, hh.2]
  clear hh
  go_wp2_with fail
  exact ⟨rfl, .inr ⟨_, HE.out, by rw [HK.out]; rfl⟩, g1⟩
end Go.Proofs.YtoldmigappbjcaaGreatDoor
namespace Go.GrainU
open Go.RowKit
theorem news_one {W : World} {B : Nat} (hB : W.heap.size = B) (x : Value) (t : TypeId) : ∀ j u, [x][j]? = some u → (W.alloc (.cells #[x] t)).cell? ((⟨B, 0, none⟩ : Addr).add j) = some u := by
 intro j u hj
 subst hB
 match j, hj with
 | 0, hj =>
  simp at hj
  rw [← hj]
  exact (one_cell7 (heap_alloc_new W (.cells #[x] t))).1
 | j + 1, hj => simp at hj
theorem wcells_snoc (l : List ByteArray) (x : ByteArray) : wcells (l ++ [x]) = wcells l ++ [.string x] := by simp [wcells]
end Go.GrainU
namespace Go.Proofs.YtoldmigappbjcaaGreatDoor
open Go.RowKit Go.GrainU
theorem Tryz.infoStr : (Tryz.prog.info? 9).map (fun i => (i.zero, i.size, i.bytes)) = some (some (.string ⟨#[]⟩), 1, 16) := by kernel_rfl
def Tab (w : World) : Prop := Lib.TabIs Tryz.prog w "internal/strconv.uint64pow10" .u64 Lib.pow10Tab
open Go.RowKit Go.GrainU
set_option maxHeartbeats 2000000 in
theorem pcount_any : ∀ t : ET, ∀ (w0 w : World) (N : Nat) (d n : Int), t.In w0 → Below w0.heap.size w0 w → w0.heap.size ≤ N → w.heap[N]? = some (.cells #[.int .i64 n] 152 (0, 0)) → 0 ≤ n → n ≤ 100 → 0 ≤ d → d ≤ 1000 →
  Calls Tryz.prog 85 #[.pointer (some ⟨N, 0, none⟩), eval t, .int .i64 d] w fun e w' => e = .returned (.int .i64 (wr t.ex d n).1) ∧ w'.heap[N]? = some (.cells #[.int .i64 (wr t.ex d n).2] 152 (0, 0)) ∧ w.grownBy w' (some N) := by
 refine ET.ind ?_
 intro h s kids ih w0 w N d n hin hbel hN hcnt hn0 hn1 hd0 hd1
 obtain ⟨c0, t0, hlN⟩ := one_cell7 hcnt
 have HIN := hide hin
 obtain ⟨kd, nn, rg, wd, ms, bs⟩ := h
 obtain ⟨ma, mc, ba, bc, ka, kc⟩ := s
 simp only [ET.In] at hin
 obtain ⟨⟨_, _, hK⟩, ⟨_, _, lK, _⟩, hL⟩ := hin
 obtain ⟨R, hR⟩ : ∃ R, R = wr (ET.ex (.node ⟨kd, nn, rg, wd, ms, bs⟩ ⟨ma, mc, ba, bc, ka, kc⟩ kids)) d n := ⟨_, rfl⟩
 obtain ⟨A, hA⟩ : ∃ A, A = alone ⟨kd, nn, rg, wd, ms, bs⟩ kids.length := ⟨_, rfl⟩
 rw [← hR]
 rw [wr_of, ← hA] at hR
 have HAL := hide (palone_any (.node ⟨kd, nn, rg, wd, ms, bs⟩ ⟨ma, mc, ba, bc, ka, kc⟩ kids))
 simp only [eval, ET.hd, ET.sp, ET.kids, ← hA] at HAL
 show Calls Tryz.prog _ #[.pointer (some ⟨N, 0, none⟩), .agg #[.int .i64 kd, .int .i64 nn, .int .i64 rg, .string wd, .slice ma ms.length mc, .slice ba bs.length bc, .slice ka kids.length kc], .int .i64 d] w _
 generalize ms.length = ml at *
 generalize bs.length = bl at *
 obtain ⟨kl, hkl⟩ : ∃ x, x = kids.length := ⟨_, rfl⟩
 rw [← hkl] at lK HAL ⊢
 obtain ⟨Re, Rn⟩ := R
 have HR := hide hR
 have HA := hide hA
 have HKL := hide hkl
 clear hR hA hkl
 obtain ⟨V, hV⟩ : ∃ V, V = (w.setCell ⟨N, 0, none⟩ (.int .i64 (n + 1))).alloc (.cells #[.int .i64 kd, .int .i64 nn, .int .i64 rg, .string wd, .slice ma ml mc, .slice ba bl bc, .slice ka kl kc] 41) := ⟨_, rfl⟩
 have gr0 : w.grownBy V (some N) := by rw [hV]; exact grown_trans grown_set1 (World.grownBy_alloc _ _ none) (fun _ hk => by cases hk)
 have FN : V.heap[N]? = some (.cells #[.int .i64 (n + 1)] 152 (0, 0)) := by rw [hV, Below.heap_alloc _ _ _ (by simpa using hlN)]; exact one_set7 hcnt _
 have F0 : V.heap[w.heap.size]? = some (.cells #[.int .i64 kd, .int .i64 nn, .int .i64 rg, .string wd, .slice ma ml mc, .slice ba bl bc, .slice ka kl kc] 41 (0, 0)) := by
  have := heap_alloc_new (w.setCell ⟨N, 0, none⟩ (.int .i64 (n + 1))) (.cells #[.int .i64 kd, .int .i64 nn, .int .i64 rg, .string wd, .slice ma ml mc, .slice ba bl bc, .slice ka kl kc] 41)
  rw [hV]; simpa using this
 have belV : Below w0.heap.size w0 V := hbel.grown gr0 hbel.size (fun j hj => by cases hj; exact hN)
 have HV := hide hV
 have HF0 := hide F0
 clear hV F0
 by_cases h1 : 100 < n + 1
 ·have HQ : Hid (Re = 4 ∧ Rn = n + 1) := by show _ ∧ _; have := HR.out; rw [if_pos (.inl h1)] at this; simpa using this
  clear HR
  go_enter Tryz.func85, Tryz.ntmps85
  go_wp2_with fail
  go_ret
  exact ⟨ret_int (a := 4) HQ.out.1.symm, by rw [← HV.out, HQ.out.2]; exact FN, by rw [← HV.out]; exact gr0⟩
 by_cases h2 : 20 < d
 ·have HQ : Hid (Re = 4 ∧ Rn = n + 1) := by show _ ∧ _; have := HR.out; rw [if_pos (.inr h2)] at this; simpa using this
  clear HR
  go_enter Tryz.func85, Tryz.ntmps85
  go_wp2_with fail
  go_ret
  exact ⟨ret_int (a := 4) HQ.out.1.symm, by rw [← HV.out, HQ.out.2]; exact FN, by rw [← HV.out]; exact gr0⟩
 rw [if_neg (by omega)] at HR
 go_enter Tryz.func85, Tryz.ntmps85
 go_wp2_with fail
 rw [← HV.out]
 refine (HAL.out V (ET.In.below belV _ HIN.out)).mono ?_
 rintro e w1 ⟨rfl, b1⟩
 have gr1 : w.grownBy w1 (some N) := grown_call gr0 b1
 have FN1 := below_block b1 FN
 have bel1 : Below w0.heap.size w0 w1 := belV.trans (b1.mono belV.size)
 obtain ⟨p0, p1, p2, p3, p4, p5, p6⟩ := seven_cells (below_block b1 HF0.out)
 clear HAL HF0 HV FN gr0 b1
 by_cases hA0 : A = 0
 ·have eA : (A == 0) = true := by simp [hA0]
  have HQ : Hid ((Re, Rn) = wrL (exL kids) (d + 1) (n + 1)) := by have := HR.out; rw [if_pos hA0] at this; exact this
  clear HR hA0
  go_wp2_with fail
  clear p0 p1 p2 p3 p4 p5 p6 c0 t0
  go_loopw [35] (fun i wr => ∃ (k : Nat) (m : Int), k ≤ kl ∧ i = .int .i64 k ∧ Hid (wrL (exL (kids.take k)) (d + 1) (n + 1) = (0, m)) ∧ 0 ≤ m ∧ m ≤ 100 ∧ wr.heap[N]? = some (.cells #[.int .i64 m] 152 (0, 0)) ∧ w.grownBy wr (some N)) (fun i _ => kl - (intOf i).toNat)
  case atStart => exact ⟨0, n + 1, Nat.zero_le _, rfl, by show _ = _; simp [exL, wrL], by omega, by omega, FN1, gr1⟩
  case round =>
   obtain ⟨k, m, hk, rfl, HJ, hm0, hm1, FN2, gr2⟩ := hrel
   have bel2 : Below w0.heap.size w0 wr := hbel.grown gr2 hbel.size (fun j hj => by cases hj; exact hN)
   by_cases hlt : k < kl
   ·have hkl : k < kids.length := by rw [← HKL.out]; exact hlt
    obtain ⟨b, off, rfl, hbl, hcell⟩ := seg_expr hK hkl
    obtain ⟨t, ht⟩ : ∃ t, t = kids[k] := ⟨_, rfl⟩
    have hc := (hcell k hkl).below bel2
    rw [← ht] at hc
    have hmem : t ∈ kids := by rw [ht]; exact List.getElem_mem hkl
    have HT := hide (inL_mem hL t hmem)
    have Ht := hide ht
    clear ht hcell
    obtain ⟨c0, c1, c2, c3, c4, c5, c6⟩ := hc
    go_wp2_with fail
    have gr3 : w.grownBy (wr.alloc (.cells #[.int .i64 t.hd.kind, .int .i64 t.hd.n, .int .i64 t.hd.range, .string t.hd.word, .slice t.sp.ma t.hd.ms.length t.sp.mc, .slice t.sp.ba t.hd.bs.length t.sp.bc, .slice t.sp.ka t.kids.length t.sp.kc] 41)) (some N) := grown_trans gr2 (World.grownBy_alloc _ _ none) (fun _ hk => by cases hk)
    have bel3 := hbel.grown gr3 hbel.size (fun j hj => by cases hj; exact hN)
    have FN3 : (wr.alloc (.cells #[.int .i64 t.hd.kind, .int .i64 t.hd.n, .int .i64 t.hd.range, .string t.hd.word, .slice t.sp.ma t.hd.ms.length t.sp.mc, .slice t.sp.ba t.hd.bs.length t.sp.bc, .slice t.sp.ka t.kids.length t.sp.kc] 41)).heap[N]? = some (.cells #[.int .i64 m] 152 (0, 0)) := by
     rw [Below.heap_alloc _ _ _ (one_cell7 FN2).2.2]; exact FN2
    refine (ih t hmem w0 _ N (d + 1) m HT.out bel3 hN FN3 hm0 hm1 (by omega) (by omega)).mono ?_
    rintro e w4 ⟨rfl, FN4, gr4⟩
    have gr5 : w.grownBy w4 (some N) := grown_trans gr3 gr4 (fun _ hk => .inl hk)
    obtain ⟨⟨De, Dn⟩, hD⟩ : ∃ D, D = Go.GrainU.wr t.ex (d + 1) m := ⟨_, rfl⟩
    rw [← hD] at FN4 ⊢
    simp only at FN4 ⊢
    have HD := hide hD
    clear hD gr3 gr4 gr2 FN2 FN3 bel3 bel2
    by_cases hD0 : De = 0
    ·have eD : (De == 0) = true := by simp [hD0]
     have HJ' : Hid (wrL (exL (kids.take (k + 1))) (d + 1) (n + 1) = (0, Dn)) := by
      show _ = _
      rw [wrL_take hkl _ HJ.out (by rw [← Ht.out, ← HD.out]; exact hD0), ← Ht.out, ← HD.out]
     have HM : Hid (0 ≤ Dn ∧ Dn ≤ 100) := by
      show _ ∧ _
      obtain ⟨_, q2, q3, _⟩ := wr_ok t.ex (d + 1) m hm0 (by rw [← HD.out]; exact hD0)
      rw [← HD.out] at q2
      simp only at q2
      omega
     clear hD0
     go_wp2_with fail
     go_roundw
     case rel => exact ⟨k + 1, Dn, by omega, by go_num, HJ', HM.out.1, HM.out.2, FN4, gr5⟩
     case measure => simp [intOf]; omega
    ·have eD : (De == 0) = false := by simp [hD0]
     have HX : Hid ((Re, Rn) = (De, Dn)) := by
      show _ = _
      rw [HQ.out, wrL_at hkl _ HJ.out (by rw [← Ht.out, ← HD.out]; exact hD0), ← Ht.out, ← HD.out]
     have HX2 : Hid (De = Re ∧ Dn = Rn) := by
      show _ ∧ _
      have := HX.out
      simp at this
      exact ⟨this.1.symm, this.2.symm⟩
     clear HX
     go_wp2_with fail
     go_ret
     exact ⟨ret_int (a := De) HX2.out.1, by rw [← HX2.out.2]; exact FN4, gr5⟩
   ·have HX : Hid (0 = Re ∧ m = Rn) := by
     show _ ∧ _
     have := HQ.out
     rw [wrL_end (by have := HKL.out; omega) HJ.out] at this
     simp at this
     exact ⟨this.1.symm, this.2.symm⟩
    go_wp2_with fail
    go_ret
    exact ⟨ret_int (a := 0) HX.out.1, by rw [← HX.out.2]; exact FN2, gr2⟩
 ·have eA : (A == 0) = false := by simp [hA0]
  have HX : Hid (A = Re ∧ n + 1 = Rn) := by
   show _ ∧ _
   have := HR.out
   rw [if_neg hA0] at this
   simp at this
   exact ⟨this.1.symm, this.2.symm⟩
  clear HR
  go_wp2_with fail
  go_ret
  exact ⟨ret_int (a := A) HX.out.1, by rw [← HX.out.2]; exact FN1, gr1⟩
theorem pwrong_any (t : ET) (w : World) (hin : t.In w) :
  Calls Tryz.prog 53 #[eval t] w fun e w' => e = .returned (.int .i64 (wr t.ex 1 0).1) ∧ Below w.heap.size w w' := by
 have HP := hide (pcount_any t)
 have HIN := hide hin
 clear hin
 obtain ⟨R, hR⟩ : ∃ R, R = wr t.ex 1 0 := ⟨_, rfl⟩
 rw [← hR]
 have HR := hide hR
 clear hR
 unfold eval at HP ⊢
 generalize t.hd.ms.length = ml at *
 generalize t.hd.bs.length = bl at *
 generalize t.kids.length = kl at *
 obtain ⟨V, hV⟩ : ∃ V, V = (w.alloc (.cells #[.int .i64 t.hd.kind, .int .i64 t.hd.n, .int .i64 t.hd.range, .string t.hd.word, .slice t.sp.ma ml t.sp.mc, .slice t.sp.ba bl t.sp.bc, .slice t.sp.ka kl t.sp.kc] 41)).alloc (.cells #[.int .i64 0] 152) := ⟨_, rfl⟩
 have belV : Below w.heap.size w V := by rw [hV]; exact ((Below.refl _ _).alloc (Nat.le_refl _) _).alloc (by simp) _
 have FN : V.heap[w.heap.size + 1]? = some (.cells #[.int .i64 0] 152 (0, 0)) := by
  have := heap_alloc_new (w.alloc (.cells #[.int .i64 t.hd.kind, .int .i64 t.hd.n, .int .i64 t.hd.range, .string t.hd.word, .slice t.sp.ma ml t.sp.mc, .slice t.sp.ba bl t.sp.bc, .slice t.sp.ka kl t.sp.kc] 41)) (.cells #[.int .i64 0] 152)
  rw [hV]; simpa using this
 have HV := hide hV
 clear hV
 go_enter Tryz.func53, Tryz.ntmps53
 go_wp2_with fail
 rw [← HV.out]
 refine (HP.out w V (w.heap.size + 1) 1 0 HIN.out belV (by omega) FN (by omega) (by omega) (by omega) (by omega)).mono ?_
 rintro e w1 ⟨rfl, _, gr⟩
 rw [← HR.out]
 have bel1 : Below w.heap.size w w1 := belV.grown gr belV.size (fun j hj => by cases hj; omega)
 go_wp2_with fail
 go_ret
 exact ⟨rfl, bel1⟩
end Go.Proofs.YtoldmigappbjcaaGreatDoor
namespace Go.GrainU
open Go.RowKit
theorem Rd.far {t : TypeId} {w : World} {B : Nat} {s : ByteArray} {st : St} (h : Rd t w B s st) {X o : Nat} {v : Value} (hX : B ≠ X) : Rd t (w.setCell ⟨X, o, none⟩ v) B s st :=
 ⟨h.suf, by rw [setCell_far hX]; exact h.blk⟩
theorem grown_far {w w' : World} {r : Option Nat} (h : w.grownBy w' r) {X o : Nat} {v : Value} (hX : w.heap.size ≤ X) : w.grownBy (w'.setCell ⟨X, o, none⟩ v) r :=
 ⟨h.os, h.tape, h.output, by simpa using h.size, fun k hk hne => by rw [setCell_far (by omega)]; exact h.block k hk hne⟩
theorem grown_block {w w' : World} {B X : Nat} (h : w.grownBy w' (some B)) {o : Obj} (hb : w.heap[X]? = some o) (hX : X ≠ B) : w'.heap[X]? = some o := by
 have hl : X < w.heap.size := by
  rcases Nat.lt_or_ge X w.heap.size with e | e
  ·exact e
  ·rw [Array.getElem?_eq_none (by exact e)] at hb; cases hb
 rw [h.block X hl (fun e => hX (Option.some.inj e))]
 exact hb
theorem thaw3 {w : World} {B : Nat} {x0 x1 x2 : Value} {t : TypeId} (h : w.heap[B]? = some (.cells #[x0, x1, x2] t (0, 0))) :
  w.frozen? ⟨B, 0, none⟩ = false ∧ w.frozen? ⟨B, 1, none⟩ = false ∧ w.frozen? ⟨B, 2, none⟩ = false := by
 simp [World.frozen?, h]
theorem thaw7 {w : World} {B : Nat} {x0 x1 x2 x3 x4 x5 x6 : Value} {t : TypeId} (h : w.heap[B]? = some (.cells #[x0, x1, x2, x3, x4, x5, x6] t (0, 0))) :
  w.frozen? ⟨B, 0, none⟩ = false ∧ w.frozen? ⟨B, 1, none⟩ = false ∧ w.frozen? ⟨B, 2, none⟩ = false ∧ w.frozen? ⟨B, 3, none⟩ = false ∧ w.frozen? ⟨B, 4, none⟩ = false ∧ w.frozen? ⟨B, 5, none⟩ = false ∧ w.frozen? ⟨B, 6, none⟩ = false := by
 simp [World.frozen?, h]
end Go.GrainU
namespace Go.Proofs.YtoldmigappbjcaaGreatDoor
open Go.RowKit Go.GrainU
set_option maxHeartbeats 2000000 in
theorem pmatch_read (s : ByteArray) (st : St) (B : Nat) (w : World) (h : Rd 95 w B s st) (hs : s.size ≤ 2000) :
  Calls Tryz.prog 222 #[.pointer (some ⟨B, 0, none⟩)] w fun e w' => ((∃ m r, mtc st.r = .ok (m, r) ∧ e = .returned (.agg #[.int .i64 m.kind, .string m.key, .string m.val]) ∧ Rd 95 w' B s ⟨r, st.n⟩) ∨ ∃ f, mtc st.r = .error f ∧ e = .panicked [thr s f]) ∧ w.grownBy w' (some B) := by
 have hB := h.lt
 obtain ⟨X, hX⟩ : ∃ X, X = w.heap.size := ⟨_, rfl⟩
 obtain ⟨W, hW⟩ : ∃ W, W = w.alloc (.cells #[.int .i64 0, .string ⟨#[]⟩, .string ⟨#[]⟩] 183) := ⟨_, rfl⟩
 have RW : Rd 95 W B s st := by rw [hW]; exact h.alloc _
 have gW : w.grownBy W (some B) := by rw [hW]; exact grown_trans (World.grownBy.refl _ _) (World.grownBy_alloc _ _ none) (fun _ hk => by cases hk)
 have FX : W.heap[X]? = some (.cells #[.int .i64 0, .string ⟨#[]⟩, .string ⟨#[]⟩] 183 (0, 0)) := by rw [hW, hX]; exact heap_alloc_new w _
 have hXB : X ≠ B := by omega
 have HF := hide FX
 have HW := hide hW
 have HX := hide hX
 have HG := hide gW
 clear hW hX FX gW h
 have A1 := hide (accept_any [33] s st B W RW hs)
 unfold lit at A1
 cases ha : acc [33] st.r with
 | some r1 =>
  rw [ha] at A1
  simp only [Option.getD_some, Option.isSome_some] at A1
  have HM : Hid (mtc st.r = match wrd r1 with | .error e => .error e | .ok (k, r2) => .ok (⟨4, lit k, lit []⟩, r2)) := by show _ = _; simp only [mtc, ha]; rfl
  clear ha
  go_enter Tryz.func222, Tryz.ntmps222
  go_wp2_with fail
  rw [← HW.out, ← HX.out]
  refine A1.out.mono ?_
  rintro e w1 ⟨rfl, h1, g1⟩
  go_wp2_with fail
  refine (word_any s ⟨r1, st.n⟩ B w1 h1 hs).mono ?_
  rintro e w2 ⟨⟨x, r, hx, rfl, h2⟩ | ⟨f, hf, rfl⟩, g2⟩
  ·have HE : Hid (mtc st.r = .ok (⟨4, lit x, lit []⟩, r)) := by show _ = _; rw [HM.out, hx]
   have F2 := grown_block g2 (grown_block g1 HF.out hXB) hXB
   obtain ⟨z0, z1, z2⟩ := three_cells7 F2
   obtain ⟨u0, u1, u2⟩ := thaw3 F2
   have G2 := grown_trans (grown_trans HG.out g1 (fun _ hk => .inl hk)) g2 (fun _ hk => .inl hk)
   have RF := ((h2.far (X := X) (o := 0) (v := .int .i64 4) (Ne.symm hXB)).far (X := X) (o := 1) (v := .string (lit x)) (Ne.symm hXB)).far (X := X) (o := 2) (v := .string ⟨#[]⟩) (Ne.symm hXB)
   have GF := grown_far (grown_far (grown_far G2 (X := X) (o := 0) (v := .int .i64 4) (by rw [HX.out]; exact Nat.le_refl _)) (X := X) (o := 1) (v := .string (lit x)) (by rw [HX.out]; exact Nat.le_refl _)) (X := X) (o := 2) (v := .string ⟨#[]⟩) (by rw [HX.out]; exact Nat.le_refl _)
   clear hx HM F2 g1 g2 h1 RW
   go_wp2
   exact bodyPost_ret (v := .agg #[.int .i64 4, .string (lit x), .string ⟨#[]⟩]) (by simp [results, Tryz.results222, go_sem, z0, z1, z2]) rfl ⟨.inl ⟨⟨4, lit x, lit []⟩, r, HE.out, rfl, RF⟩, GF⟩
  ·have HE : Hid (mtc st.r = .error f) := by show _ = _; rw [HM.out, hf]
   have G2 := grown_trans (grown_trans HG.out g1 (fun _ hk => .inl hk)) g2 (fun _ hk => .inl hk)
   clear hf HM
   go_wp2_with fail
   exact ⟨rfl, .inr ⟨_, HE.out, rfl⟩, G2⟩
 | none =>
  rw [ha] at A1
  simp only [Option.getD_none, Option.isSome_none] at A1
  have HM : Hid (mtc st.r = match wrd st.r with
   | .error e => .error e
   | .ok (k, r2) => match acc [61] r2 with
    | some r3 => match wrd r3 with
     | .error e => .error e
     | .ok (v, r4) => .ok (⟨1, lit k, lit v⟩, r4)
    | none => match acc [33, 61] r2 with
     | some r3 => match wrd r3 with
      | .error e => .error e
      | .ok (v, r4) => .ok (⟨2, lit k, lit v⟩, r4)
     | none => .ok (⟨3, lit k, lit []⟩, r2)) := by show _ = _; simp only [mtc, ha]; rfl
  clear ha
  go_enter Tryz.func222, Tryz.ntmps222
  go_wp2_with fail
  rw [← HW.out, ← HX.out]
  refine A1.out.mono ?_
  rintro e w1 ⟨rfl, h1, g1⟩
  go_wp2_with fail
  refine (word_any s ⟨st.r, st.n⟩ B w1 h1 hs).mono ?_
  rintro e w2 ⟨⟨x, r, hx, rfl, h2⟩ | ⟨f, hf, rfl⟩, g2⟩
  ·rw [hx] at HM
   simp only at HM
   have G2 := grown_trans (grown_trans HG.out g1 (fun _ hk => .inl hk)) g2 (fun _ hk => .inl hk)
   have F2 := grown_block g2 (grown_block g1 HF.out hXB) hXB
   have A2 := hide (accept_any [61] s ⟨r, st.n⟩ B w2 h2 hs)
   unfold lit at A2
   clear hx g1 g2 h1 RW
   cases hb : acc [61] r with
   | some r3 =>
    rw [hb] at A2 HM
    simp only [Option.getD_some, Option.isSome_some] at A2 HM
    clear hb
    go_wp2_with fail
    refine A2.out.mono ?_
    rintro e w3 ⟨rfl, h3, g3⟩
    go_wp2_with fail
    refine (word_any s ⟨r3, st.n⟩ B w3 h3 hs).mono ?_
    rintro e w4 ⟨⟨y, r4, hy, rfl, h4⟩ | ⟨f, hf, rfl⟩, g4⟩
    ·have HE : Hid (mtc st.r = .ok (⟨1, lit x, lit y⟩, r4)) := by show _ = _; rw [HM.out, hy]
     have G4 := grown_trans (grown_trans G2 g3 (fun _ hk => .inl hk)) g4 (fun _ hk => .inl hk)
     have FF := grown_block g4 (grown_block g3 F2 hXB) hXB
     clear hy HM F2 G2 g3 g4 h3 h2
     obtain ⟨z0, z1, z2⟩ := three_cells7 FF
     obtain ⟨u0, u1, u2⟩ := thaw3 FF
     have RF := ((h4.far (X := X) (o := 0) (v := .int .i64 1) (Ne.symm hXB)).far (X := X) (o := 1) (v := .string (lit x)) (Ne.symm hXB)).far (X := X) (o := 2) (v := .string (lit y)) (Ne.symm hXB)
     have GF := grown_far (grown_far (grown_far G4 (X := X) (o := 0) (v := .int .i64 1) (by rw [HX.out]; exact Nat.le_refl _)) (X := X) (o := 1) (v := .string (lit x)) (by rw [HX.out]; exact Nat.le_refl _)) (X := X) (o := 2) (v := .string (lit y)) (by rw [HX.out]; exact Nat.le_refl _)
     clear FF
     go_wp2
     exact bodyPost_ret (v := .agg #[.int .i64 1, .string (lit x), .string (lit y)]) (by simp [results, Tryz.results222, go_sem, z0, z1, z2]) rfl ⟨.inl ⟨⟨1, lit x, lit y⟩, _, HE.out, rfl, RF⟩, GF⟩
    ·have HE : Hid (mtc st.r = .error f) := by show _ = _; rw [HM.out, hf]
     have G4 := grown_trans (grown_trans G2 g3 (fun _ hk => .inl hk)) g4 (fun _ hk => .inl hk)
     clear hf HM
     go_wp2_with fail
     exact ⟨rfl, .inr ⟨_, HE.out, rfl⟩, G4⟩
   | none =>
    rw [hb] at A2 HM
    simp only [Option.getD_none, Option.isSome_none] at A2 HM
    clear hb
    go_wp2_with fail
    refine A2.out.mono ?_
    rintro e w3 ⟨rfl, h3, g3⟩
    have A3 := hide (accept_any [33, 61] s ⟨r, st.n⟩ B w3 h3 hs)
    unfold lit at A3
    have G3 := grown_trans G2 g3 (fun _ hk => .inl hk)
    have F3 := grown_block g3 F2 hXB
    clear G2 F2 g3 h2
    cases hc : acc [33, 61] r with
    | some r3 =>
     rw [hc] at A3 HM
     simp only [Option.getD_some, Option.isSome_some] at A3 HM
     clear hc
     go_wp2_with fail
     refine A3.out.mono ?_
     rintro e w4 ⟨rfl, h4, g4⟩
     go_wp2_with fail
     refine (word_any s ⟨r3, st.n⟩ B w4 h4 hs).mono ?_
     rintro e w5 ⟨⟨y, r4, hy, rfl, h5⟩ | ⟨f, hf, rfl⟩, g5⟩
     ·have HE : Hid (mtc st.r = .ok (⟨2, lit x, lit y⟩, r4)) := by show _ = _; rw [HM.out, hy]
      have G5 := grown_trans (grown_trans G3 g4 (fun _ hk => .inl hk)) g5 (fun _ hk => .inl hk)
      have FF := grown_block g5 (grown_block g4 F3 hXB) hXB
      clear hy HM F3 G3 g4 g5 h3 h4
      obtain ⟨z0, z1, z2⟩ := three_cells7 FF
      obtain ⟨u0, u1, u2⟩ := thaw3 FF
      have RF := ((h5.far (X := X) (o := 0) (v := .int .i64 2) (Ne.symm hXB)).far (X := X) (o := 1) (v := .string (lit x)) (Ne.symm hXB)).far (X := X) (o := 2) (v := .string (lit y)) (Ne.symm hXB)
      have GF := grown_far (grown_far (grown_far G5 (X := X) (o := 0) (v := .int .i64 2) (by rw [HX.out]; exact Nat.le_refl _)) (X := X) (o := 1) (v := .string (lit x)) (by rw [HX.out]; exact Nat.le_refl _)) (X := X) (o := 2) (v := .string (lit y)) (by rw [HX.out]; exact Nat.le_refl _)
      clear FF
      go_wp2
      exact bodyPost_ret (v := .agg #[.int .i64 2, .string (lit x), .string (lit y)]) (by simp [results, Tryz.results222, go_sem, z0, z1, z2]) rfl ⟨.inl ⟨⟨2, lit x, lit y⟩, _, HE.out, rfl, RF⟩, GF⟩
     ·have HE : Hid (mtc st.r = .error f) := by show _ = _; rw [HM.out, hf]
      have G5 := grown_trans (grown_trans G3 g4 (fun _ hk => .inl hk)) g5 (fun _ hk => .inl hk)
      clear hf HM
      go_wp2_with fail
      exact ⟨rfl, .inr ⟨_, HE.out, rfl⟩, G5⟩
    | none =>
     rw [hc] at A3 HM
     simp only [Option.getD_none, Option.isSome_none] at A3 HM
     clear hc
     go_wp2_with fail
     refine A3.out.mono ?_
     rintro e w4 ⟨rfl, h4, g4⟩
     have HE : Hid (mtc st.r = .ok (⟨3, lit x, lit []⟩, r)) := HM.out
     have G4 := grown_trans G3 g4 (fun _ hk => .inl hk)
     have FF := grown_block g4 F3 hXB
     clear HM F3 G3 g4 h3
     obtain ⟨z0, z1, z2⟩ := three_cells7 FF
     obtain ⟨u0, u1, u2⟩ := thaw3 FF
     have RF := ((h4.far (X := X) (o := 0) (v := .int .i64 3) (Ne.symm hXB)).far (X := X) (o := 1) (v := .string (lit x)) (Ne.symm hXB)).far (X := X) (o := 2) (v := .string ⟨#[]⟩) (Ne.symm hXB)
     have GF := grown_far (grown_far (grown_far G4 (X := X) (o := 0) (v := .int .i64 3) (by rw [HX.out]; exact Nat.le_refl _)) (X := X) (o := 1) (v := .string (lit x)) (by rw [HX.out]; exact Nat.le_refl _)) (X := X) (o := 2) (v := .string ⟨#[]⟩) (by rw [HX.out]; exact Nat.le_refl _)
     clear FF
     go_wp2
     exact bodyPost_ret (v := .agg #[.int .i64 3, .string (lit x), .string ⟨#[]⟩]) (by simp [results, Tryz.results222, go_sem, z0, z1, z2]) rfl ⟨.inl ⟨⟨3, lit x, lit []⟩, _, HE.out, rfl, RF⟩, GF⟩
  ·have HE : Hid (mtc st.r = .error f) := by show _ = _; rw [HM.out, hf]
   have G2 := grown_trans (grown_trans HG.out g1 (fun _ hk => .inl hk)) g2 (fun _ hk => .inl hk)
   clear hf HM
   go_wp2_with fail
   exact ⟨rfl, .inr ⟨_, HE.out, rfl⟩, G2⟩
end Go.Proofs.YtoldmigappbjcaaGreatDoor
