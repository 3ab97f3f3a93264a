/-
  anyWord, word, wordOf, by, ended walked.
-/
import Derived.Test.YtfgablhgjbjbkadGreatDoorRF
namespace Go.GrainU
open Go.RowKit

theorem seg_grown {w w' : World} {B : Nat} {ao : Option Addr} {xs : List Value} (h : Seg w ao xs) (g : w.grownBy w' (some B)) (hne : ∀ b off, ao = some ⟨b, off, none⟩ → b ≠ B) : Seg w' ao xs := by
  rcases h with h | ⟨b, off, rfl, h⟩
  · exact .inl h
  · refine .inr ⟨b, off, rfl, fun j hj => ?_⟩
    rw [← h j hj]
    have hb : b < w.heap.size := by
      have h1 := h j hj
      rw [List.getElem?_eq_getElem hj] at h1
      exact World.block_lt_of_cell? w ⟨b, off + j, none⟩ h1
    have hk := g.block b hb (fun e => hne b off rfl (Option.some.inj e))
    simp [World.cell?, hk]

theorem anyW_size (r : List UInt8) : (lit (anyW r).1).size = (anyW r).1.length := lit_size _

theorem anyW_suf (r : List UInt8) : (anyW r).2 <:+ r := by
  unfold anyW
  split
  · exact (List.dropWhile_suffix _).trans (skip_suf r)
  · exact List.suffix_refl r

end Go.GrainU
namespace Go.Proofs.YtfgablhgjbjbkadGreatDoor
open Go.RowKit Go.GrainU

theorem anyWord_any (s : ByteArray) (st : St) (B : Nat) (w : World) (h : Rd 43 w B s st) (hs : s.size ≤ 2000) :
    Calls Tryz.prog 92 #[.pointer (some ⟨B, 0, none⟩)] w fun e w' => e = .returned (.string (lit (anyW st.r).1)) ∧ Rd 43 w' B s ⟨(anyW st.r).2, st.n⟩ ∧ w.grownBy w' (some B) := by
  have HN := hide (next_any s st B w h hs)
  have HR := hide (run_wbytes s st B w h hs)
  have HL := hide (letter_byte (nxt st.r) w)
  cases hl : letter (nxt st.r) with
  | true =>
    have HA : Hid (anyW st.r = ((skip st.r).takeWhile wbyte, (skip st.r).dropWhile wbyte)) := by show _ = _; simp [anyW, hl]
    rw [hl] at HL
    clear hl
    go_enter Tryz.func92, Tryz.ntmps92
    go_wp2_with fail
    refine HN.out.mono ?_
    intro e w1 hh
    rw [hh.1, hh.2]
    clear hh
    go_wp2_with fail
    refine HL.out.mono ?_
    intro e w1 hh
    rw [hh.1, hh.2]
    clear hh
    go_wp2_with fail
    refine HR.out.mono ?_
    rintro e w1 ⟨rfl, h1, g1⟩
    go_wp2_with fail
    go_ret
    exact ⟨by rw [HA.out]; rfl, by rw [HA.out]; exact h1, g1⟩
  | false =>
    have HA : Hid (anyW st.r = ([], st.r)) := by show _ = _; simp [anyW, hl]
    rw [hl] at HL
    clear hl
    go_enter Tryz.func92, Tryz.ntmps92
    go_wp2_with fail
    refine HN.out.mono ?_
    intro e w1 hh
    rw [hh.1, hh.2]
    clear hh
    go_wp2_with fail
    refine HL.out.mono ?_
    intro e w1 hh
    rw [hh.1, hh.2]
    clear hh
    go_wp2_with fail
    go_ret
    exact ⟨by rw [HA.out]; rfl, by rw [HA.out]; exact h, World.grownBy.refl _ _⟩

set_option maxHeartbeats 1000000 in
theorem word_any (s : ByteArray) (st : St) (B : Nat) (w : World) (h : Rd 43 w B s st) (hs : s.size ≤ 2000) :
    Calls Tryz.prog 83 #[.pointer (some ⟨B, 0, none⟩)] w fun e w' => ((∃ x r, wrd st.r = .ok (x, r) ∧ e = .returned (.string (lit x)) ∧ Rd 43 w' B s ⟨r, st.n⟩) ∨ ∃ f, wrd st.r = .error f ∧ e = .panicked [thr s f]) ∧ w.grownBy w' (some B) := by
  have HB := hide (begin_any s st B w h hs)
  have HW := hide (anyWord_any s st B w h hs)
  obtain ⟨⟨x, r⟩, hx⟩ : ∃ x, x = anyW st.r := ⟨_, rfl⟩
  rw [← hx] at HW
  simp only at HW
  have HWR : Hid (wrd st.r = if x = [] then .error (2, (skip st.r).length) else if 12 < x.length then .error (7, (skip st.r).length) else .ok (x, r)) := by show _ = _; unfold wrd; rw [← hx]
  clear hx
  obtain ⟨K, hK⟩ : ∃ K, K = pos s (skip st.r) := ⟨_, rfl⟩
  rw [← hK] at HB
  have HK := hide hK
  clear hK
  by_cases h0 : x = []
  · have HE : Hid (wrd st.r = .error (2, (skip st.r).length)) := by show _ = _; rw [HWR.out, if_pos h0]
    clear HWR
    subst h0
    unfold lit at HW
    go_enter Tryz.func83, Tryz.ntmps83
    go_wp2_with fail
    refine HB.out.mono ?_
    intro e w1 hh
    rw [hh.1, hh.2]
    clear hh
    go_wp2_with fail
    refine HW.out.mono ?_
    rintro e w1 ⟨rfl, h1, g1⟩
    go_wp2_with fail
    refine (throw_any _ _ w1).mono ?_
    intro e w2 hh
    rw [hh.1, hh.2]
    clear hh
    go_wp2_with fail
    exact ⟨rfl, .inr ⟨_, HE.out, by rw [HK.out]; rfl⟩, g1⟩
  · have HX0 : Hid (lit x ≠ lit []) := fun e => h0 (by have := congrArg (fun b : ByteArray => b.data.toList) e; simpa [lit] using this)
    have q := word_not (l := []) HX0.out
    obtain ⟨L, hL⟩ : ∃ L, L = (lit x).size := ⟨_, rfl⟩
    have hL2 : L = x.length := by rw [hL, lit_size]
    have hL' : (lit x).size = L := hL.symm
    clear hL
    by_cases h12 : 12 < x.length
    · have HE : Hid (wrd st.r = .error (7, (skip st.r).length)) := by show _ = _; rw [HWR.out, if_neg h0, if_pos h12]
      have h12' : (12 : Int) < (L : Int) := by omega
      clear HWR h0 h12 hL2
      go_enter Tryz.func83, Tryz.ntmps83
      go_wp2_with fail
      refine HB.out.mono ?_
      intro e w1 hh
      rw [hh.1, hh.2]
      clear hh
      go_wp2_with fail
      refine HW.out.mono ?_
      rintro e w1 ⟨rfl, h1, g1⟩
      go_wp2_with fail
      refine (throw_any _ _ w1).mono ?_
      intro e w2 hh
      rw [hh.1, hh.2]
      clear hh
      go_wp2_with fail
      exact ⟨rfl, .inr ⟨_, HE.out, by rw [HK.out]; rfl⟩, g1⟩
    · have HE : Hid (wrd st.r = .ok (x, r)) := by show _ = _; rw [HWR.out, if_neg h0, if_neg h12]
      have h12' : ¬ (12 : Int) < (L : Int) := by omega
      clear HWR h0 h12 hL2
      go_enter Tryz.func83, Tryz.ntmps83
      go_wp2_with fail
      refine HB.out.mono ?_
      intro e w1 hh
      rw [hh.1, hh.2]
      clear hh
      go_wp2_with fail
      refine HW.out.mono ?_
      rintro e w1 ⟨rfl, h1, g1⟩
      go_wp2_with fail
      go_ret
      exact ⟨.inl ⟨x, r, HE.out, rfl, h1⟩, g1⟩

set_option maxHeartbeats 1000000 in
theorem wordOf_any (may : List ByteArray) (bo : Option Addr) (m c : Nat) (s : ByteArray) (st : St) (B : Nat) (w : World) (h : Rd 43 w B s st) (hs : s.size ≤ 2000) (hb : Seg w bo (wcells may)) (hm : m = may.length) (hM : m ≤ 100) (hne : ∀ b off, bo = some ⟨b, off, none⟩ → b ≠ B) :
    Calls Tryz.prog 67 #[.pointer (some ⟨B, 0, none⟩), .slice bo m c] w fun e w' => ((∃ x r, wrdOf may st.r = .ok (x, r) ∧ e = .returned (.string (lit x)) ∧ Rd 43 w' B s ⟨r, st.n⟩) ∨ ∃ f, wrdOf may st.r = .error f ∧ e = .panicked [thr s f]) ∧ w.grownBy w' (some B) := by
  have HB := hide (begin_any s st B w h hs)
  have HW := hide (word_any s st B w h hs)
  have HM := hide hm
  have HS := hide hb
  have HNE := hide hne
  clear hm hb hne
  obtain ⟨K, hK⟩ : ∃ K, K = pos s (skip st.r) := ⟨_, rfl⟩
  rw [← hK] at HB
  have HK := hide hK
  clear hK
  go_enter Tryz.func67, Tryz.ntmps67
  go_wp2_with fail
  refine HB.out.mono ?_
  intro e w1 hh
  rw [hh.1, hh.2]
  clear hh
  go_wp2_with fail
  refine HW.out.mono ?_
  rintro e w1 ⟨⟨x, r, hx, rfl, h1⟩ | ⟨f, hf, rfl⟩, g1⟩
  · have HX := hide hx
    have HS1 := hide (seg_grown HS.out g1 HNE.out)
    clear hx
    cases hh2 : has may (lit x) with
    | true =>
      have HE : Hid (wrdOf may st.r = .ok (x, r)) := by show _ = _; unfold wrdOf; rw [HX.out]; simp [hh2]
      go_wp2_with fail
      refine (ncont_any may (lit x) bo m c w1 HS1.out HM.out (by omega)).mono ?_
      intro e w2 hh
      rw [hh.1, hh.2, hh2]
      clear hh
      go_wp2_with fail
      go_ret
      exact ⟨.inl ⟨x, r, HE.out, rfl, h1⟩, g1⟩
    | false =>
      have HE : Hid (wrdOf may st.r = .error (7, (skip st.r).length)) := by show _ = _; unfold wrdOf; rw [HX.out]; simp [hh2]
      go_wp2_with fail
      refine (ncont_any may (lit x) bo m c w1 HS1.out HM.out (by omega)).mono ?_
      intro e w2 hh
      rw [hh.1, hh.2, hh2]
      clear hh
      go_wp2_with fail
      refine (throw_any _ _ w1).mono ?_
      intro e w2 hh
      rw [hh.1, hh.2]
      clear hh
      go_wp2_with fail
      exact ⟨rfl, .inr ⟨_, HE.out, by rw [HK.out]; rfl⟩, g1⟩
  · have HE : Hid (wrdOf may st.r = .error f) := by show _ = _; unfold wrdOf; rw [hf]
    clear hf
    go_wp2_with fail
    exact ⟨rfl, .inr ⟨_, HE.out, rfl⟩, g1⟩

set_option maxHeartbeats 1000000 in
theorem by_any (s : ByteArray) (st : St) (B : Nat) (w : World) (h : Rd 43 w B s st) (hs : s.size ≤ 2000) :
    Calls Tryz.prog 84 #[.pointer (some ⟨B, 0, none⟩)] w fun e w' => ((∃ r, byW st.r = .ok r ∧ e = .returned (.tuple #[]) ∧ Rd 43 w' B s ⟨r, st.n⟩) ∨ ∃ f, byW st.r = .error f ∧ e = .panicked [thr s f]) ∧ w.grownBy w' (some B) := by
  have HB := hide (begin_any s st B w h hs)
  have HW := hide (anyWord_any s st B w h hs)
  obtain ⟨⟨x, r⟩, hx⟩ : ∃ x, x = anyW st.r := ⟨_, rfl⟩
  rw [← hx] at HW
  simp only at HW
  have HWR : Hid (byW st.r = if x = [98, 121] then .ok r else .error (2, (skip st.r).length)) := by show _ = _; unfold byW; rw [← hx]
  clear hx
  obtain ⟨K, hK⟩ : ∃ K, K = pos s (skip st.r) := ⟨_, rfl⟩
  rw [← hK] at HB
  have HK := hide hK
  clear hK
  by_cases h0 : x = [98, 121]
  · have HE : Hid (byW st.r = .ok r) := by show _ = _; rw [HWR.out, if_pos h0]
    clear HWR
    subst h0
    unfold lit at HW
    go_enter Tryz.func84, Tryz.ntmps84
    go_wp2_with fail
    refine HB.out.mono ?_
    intro e w1 hh
    rw [hh.1, hh.2]
    clear hh
    go_wp2_with fail
    refine HW.out.mono ?_
    rintro e w1 ⟨rfl, h1, g1⟩
    go_wp2_with fail
    refine bodyPost_end (results_none rfl _ _ _) rfl ?_
    exact ⟨.inl ⟨r, HE.out, rfl, h1⟩, g1⟩
  · have HE : Hid (byW st.r = .error (2, (skip st.r).length)) := by show _ = _; rw [HWR.out, if_neg h0]
    have HX0 : Hid (lit x ≠ lit [98, 121]) := fun e => h0 (by have := congrArg (fun b : ByteArray => b.data.toList) e; simpa [lit] using this)
    have q := word_not (l := [98, 121]) HX0.out
    clear HWR h0
    go_enter Tryz.func84, Tryz.ntmps84
    go_wp2_with fail
    refine HB.out.mono ?_
    intro e w1 hh
    rw [hh.1, hh.2]
    clear hh
    go_wp2_with fail
    refine HW.out.mono ?_
    rintro e w1 ⟨rfl, h1, g1⟩
    go_wp2_with fail
    refine (throw_any _ _ w1).mono ?_
    intro e w2 hh
    rw [hh.1, hh.2]
    clear hh
    go_wp2_with fail
    exact ⟨rfl, .inr ⟨_, HE.out, by rw [HK.out]; rfl⟩, g1⟩

end Go.Proofs.YtfgablhgjbjbkadGreatDoor
