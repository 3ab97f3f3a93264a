/-
  number and ended walked.
-/
import Derived.Test.YtfgablhgjbjbkadGreatDoorRI
namespace Go.GrainU
open Go.RowKit

theorem lit_head {c : UInt8} {t : List UInt8} : ∃ h : 0 < (lit (c :: t)).size, (lit (c :: t))[0]'h = c := by
  refine ⟨by rw [lit_size]; simp, ?_⟩
  simp [lit]
  rfl

theorem numb_of {least most : Int} {r d : List UInt8} (hd : d = (skip r).takeWhile digit) (h0 : d ≠ []) {n : Int} (hn : Go.Lib.atoiAll d = .ok n) :
    numb least most r = if numOk least most d n = true then .ok (n, (skip r).dropWhile digit) else .error (3, (skip r).length) := by
  unfold numb
  rw [← hd, if_neg h0, hn]

end Go.GrainU
namespace Go.Proofs.YtfgablhgjbjbkadGreatDoor
open Go.RowKit Go.GrainU

set_option maxHeartbeats 4000000 in
theorem number_any (least most : Int) (s : ByteArray) (st : St) (B : Nat) (w0 w : World) (h : Rd 43 w B s st) (hs : s.size ≤ 2000) (hv : ErrV w0) (hb0 : Below w0.heap.size w0 w) (hB0 : w0.heap.size ≤ B) :
    Calls Tryz.prog 66 #[.pointer (some ⟨B, 0, none⟩), .int .i64 least, .int .i64 most] w fun e w' => ((∃ n r, numb least most st.r = .ok (n, r) ∧ e = .returned (.int .i64 n) ∧ Rd 43 w' B s ⟨r, st.n⟩) ∨ ∃ f, numb least most st.r = .error f ∧ e = .panicked [thr s f]) ∧ w.grownBy w' (some B) := by
  have HB := hide (begin_any s st B w h hs)
  have HW := hide (run_digits s st B w h hs)
  have hlen : (skip st.r).length ≤ 2000 := by have := suf_len ((skip_suf st.r).trans h.suf); omega
  obtain ⟨d, hd⟩ : ∃ d, d = (skip st.r).takeWhile digit := ⟨_, rfl⟩
  obtain ⟨r, hr⟩ : ∃ r, r = (skip st.r).dropWhile digit := ⟨_, rfl⟩
  have hall : d.all digit = true := by rw [hd]; exact take_all _ _
  have hdl : d.length ≤ 2000 := by
    rw [hd]
    exact Nat.le_trans (List.takeWhile_prefix _).length_le hlen
  rw [← hd, ← hr] at HW
  obtain ⟨K, hK⟩ : ∃ K, K = pos s (skip st.r) := ⟨_, rfl⟩
  rw [← hK] at HB
  have HK := hide hK
  have HD := hide hd
  have HR := hide hr
  have HV := hide hv
  have HB0 := hide hb0
  clear hK hd hr hv hb0
  cases d with
  | nil =>
    have HE : Hid (numb least most st.r = .error (2, (skip st.r).length)) := by show _ = _; unfold numb; rw [← HD.out, if_pos rfl]
    unfold lit at HW
    go_enter Tryz.func66, Tryz.ntmps66
    go_wp2_with fail
    refine HB.out.mono ?_
    intro e w1 hh
    rw [hh.1, hh.2]
    clear hh
    go_wp2_with fail
    refine HW.out.mono ?_
    rintro e w1 ⟨rfl, h1, g1⟩
    go_wp2_with fail
    refine (throw_any _ _ w1).mono ?_
    intro e w2 hh
    rw [hh.1, hh.2]
    clear hh
    go_wp2_with fail
    exact ⟨rfl, .inr ⟨_, HE.out, by rw [HK.out]; rfl⟩, g1⟩
  | cons c t =>
    have HX0 : Hid (lit (c :: t) ≠ lit []) := fun e => by
      have := congrArg (fun b : ByteArray => b.data.toList) e
      simp [lit] at this
    have q := word_not (l := []) HX0.out
    obtain ⟨hlt, hhd⟩ := lit_head (c := c) (t := t)
    obtain ⟨D, hDD⟩ : ∃ D, D = lit (c :: t) := ⟨_, rfl⟩
    have HAT := hide (fun w' (hv' : ErrV w') => atoi_any (c :: t) w' hall (by simp) hdl hv')
    have hL : D.size = t.length + 1 := by rw [hDD, lit_size]; simp
    have hlt' : 0 < D.size := by rw [hDD]; exact hlt
    have hc' : ((D[0]'hlt').toNat : Int) = (c.toNat : Int) := by simp only [hDD]; rw [hhd]
    rw [← hDD] at q HW HAT
    obtain ⟨C, hC⟩ : ∃ C : Int, C = (c.toNat : Int) := ⟨_, rfl⟩
    rw [← hC] at hc'
    obtain ⟨L, hLL⟩ : ∃ L, L = D.size := ⟨_, rfl⟩
    have hL' : D.size = L := hLL.symm
    have hLt : L = t.length + 1 := by rw [hLL, hL]
    have hlt0 : (0 : Int) < (D.size : Int) := by omega
    clear hDD hhd hlt hL hLL
    go_enter Tryz.func66, Tryz.ntmps66
    go_wp2_with fail
    refine HB.out.mono ?_
    intro e w1 hh
    rw [hh.1, hh.2]
    clear hh
    go_wp2_with fail
    refine HW.out.mono ?_
    rintro e w1 ⟨rfl, h1, g1⟩
    go_wp2_with fail
    refine (HAT.out w1 (HV.out.below (HB0.out.grown g1 HB0.out.size (fun j hj => by cases hj; exact hB0)))).mono ?_
    rintro e w2 ⟨⟨n, hn, rfl⟩ | ⟨hn, z, t2, q2, rfl⟩, b2⟩
    · have HN := hide (numb_of (least := least) (most := most) HD.out (by simp) hn)
      rw [← HR.out] at HN
      have h2 := h1.below b2
      have g2 := grown_call g1 b2
      clear hn h1 g1 b2 hall hdl
      by_cases hz : 1 < t.length + 1 ∧ c = 48
      · have HE : Hid (numb least most st.r = .error (3, (skip st.r).length)) := by show _ = _; rw [HN.out, if_neg]; simp [numOk, hz]
        have eC : (C == 48) = true := by rw [hC, hz.2]; rfl
        have eL : (1 : Int) < (L : Int) := by omega
        clear hz hC
        go_wp2_with fail
        refine (throw_any _ _ w2).mono ?_
        intro e w3 hh
        rw [hh.1, hh.2]
        clear hh
        go_wp2_with fail
        exact ⟨rfl, .inr ⟨_, HE.out, by rw [HK.out]; rfl⟩, g2⟩
      · have HO : Hid (numOk least most (c :: t) n = (decide (least ≤ n) && decide (n ≤ most))) := by
          show _ = _
          unfold numOk
          have : (decide (1 < (c :: t).length) && (c :: t).headD 0 == 48) = false := by
            simp only [List.length_cons, List.headD_cons]
            rw [Bool.and_eq_false_iff]
            by_cases h1 : 1 < t.length + 1
            · right
              rw [beq_eq_false_iff_ne]
              exact fun e => hz ⟨h1, e⟩
            · left; simpa using h1
          rw [this]; rfl
        have HT : Hid ((1 : Int) < (L : Int) → (C == 48) = false) := fun h1 => by
          rw [hC, beq_eq_false_iff_ne]
          intro h48
          apply hz
          refine ⟨by omega, ?_⟩
          apply UInt8.toNat_inj.1
          have : (48 : UInt8).toNat = 48 := rfl
          omega
        clear hz hC
        by_cases hn1 : n < least
        · have HE : Hid (numb least most st.r = .error (3, (skip st.r).length)) := by show _ = _; rw [HN.out, HO.out, if_neg]; simp; omega
          by_cases h1 : (1 : Int) < (L : Int)
          · have eC := HT.out h1
            go_wp2_with fail
            refine (throw_any _ _ w2).mono ?_
            intro e w3 hh
            rw [hh.1, hh.2]
            clear hh
            go_wp2_with fail
            exact ⟨rfl, .inr ⟨_, HE.out, by rw [HK.out]; rfl⟩, g2⟩
          · go_wp2_with fail
            refine (throw_any _ _ w2).mono ?_
            intro e w3 hh
            rw [hh.1, hh.2]
            clear hh
            go_wp2_with fail
            exact ⟨rfl, .inr ⟨_, HE.out, by rw [HK.out]; rfl⟩, g2⟩
        · by_cases hn2 : most < n
          · have HE : Hid (numb least most st.r = .error (3, (skip st.r).length)) := by show _ = _; rw [HN.out, HO.out, if_neg]; simp; omega
            by_cases h1 : (1 : Int) < (L : Int)
            · have eC := HT.out h1
              go_wp2_with fail
              refine (throw_any _ _ w2).mono ?_
              intro e w3 hh
              rw [hh.1, hh.2]
              clear hh
              go_wp2_with fail
              exact ⟨rfl, .inr ⟨_, HE.out, by rw [HK.out]; rfl⟩, g2⟩
            · go_wp2_with fail
              refine (throw_any _ _ w2).mono ?_
              intro e w3 hh
              rw [hh.1, hh.2]
              clear hh
              go_wp2_with fail
              exact ⟨rfl, .inr ⟨_, HE.out, by rw [HK.out]; rfl⟩, g2⟩
          · have HE : Hid (numb least most st.r = .ok (n, r)) := by show _ = _; rw [HN.out, HO.out, if_pos]; simp; omega
            by_cases h1 : (1 : Int) < (L : Int)
            · have eC := HT.out h1
              go_wp2_with fail
              go_ret
              exact ⟨.inl ⟨n, r, HE.out, rfl, h2⟩, g2⟩
            · go_wp2_with fail
              go_ret
              exact ⟨.inl ⟨n, r, HE.out, rfl, h2⟩, g2⟩
    · have HE : Hid (numb least most st.r = .error (3, (skip st.r).length)) := by show _ = _; unfold numb; rw [← HD.out, if_neg (by simp), hn]
      have g2 := grown_call g1 b2
      clear hn
      go_wp2_with fail
      refine (throw_any _ _ w2).mono ?_
      intro e w3 hh
      rw [hh.1, hh.2]
      clear hh
      go_wp2_with fail
      exact ⟨rfl, .inr ⟨_, HE.out, by rw [HK.out]; rfl⟩, g2⟩

end Go.Proofs.YtfgablhgjbjbkadGreatDoor
