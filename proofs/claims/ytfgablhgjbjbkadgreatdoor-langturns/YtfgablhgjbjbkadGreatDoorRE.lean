/-
  accept, expect, next walked.
-/
import Derived.Test.YtfgablhgjbjbkadGreatDoorRD
namespace Go.GrainU
open Go.RowKit

theorem lit_data (l : List UInt8) : (lit l).data.toList = l := by simp [lit]

theorem extract_list (s : ByteArray) (a b : Nat) : (s.extract a b).data.toList = (s.data.toList.drop a).take (b - a) := by
  simp [ByteArray.data_extract]

theorem rest_list {s : ByteArray} {r : List UInt8} (h : r <:+ s.data.toList) : (s.extract (pos s r) s.size).data.toList = r := by
  rw [extract_list, suf_drop h]
  apply List.take_of_length_le
  have := suf_len h
  unfold pos
  omega

end Go.GrainU
namespace Go.Proofs.YtfgablhgjbjbkadGreatDoor
open Go.RowKit Go.GrainU

set_option maxHeartbeats 1000000 in
theorem accept_any (sg : List UInt8) (s : ByteArray) (st : St) (B : Nat) (w : World) (h : Rd 43 w B s st) (hs : s.size ≤ 2000) :
    Calls Tryz.prog 47 #[.pointer (some ⟨B, 0, none⟩), .string (lit sg)] w fun e w' => e = .returned (.bool (acc sg st.r).isSome) ∧ Rd 43 w' B s ⟨(acc sg st.r).getD st.r, st.n⟩ ∧ w.grownBy w' (some B) := by
  obtain ⟨c0, c1, c2⟩ := h.cells
  obtain ⟨t0, t1, t2⟩ := h.thaw
  have HB := hide (begin_any s st B w h hs)
  have H := hide h
  have HR := hide (rest_list ((skip_suf st.r).trans h.suf))
  obtain ⟨K, hK⟩ : ∃ K, K = pos s (skip st.r) := ⟨_, rfl⟩
  have hKs : K ≤ s.size := by rw [hK]; unfold pos; omega
  have HKl : Hid (K + (skip st.r).length = s.size) := by show _ = _; rw [hK]; have := suf_len ((skip_suf st.r).trans h.suf); unfold pos; omega
  rw [← hK] at HB HR
  have HK := hide hK
  clear hK h
  go_enter Tryz.func47, Tryz.ntmps47
  go_wp2_with fail
  refine HB.out.mono ?_
  intro e w1 hh
  rw [hh.1, hh.2]
  clear hh HB
  go_wp2_with fail
  refine (Tryz.strings_HasPrefix _ _ w).mono ?_
  intro e w1 hh
  rw [hh.1, hh.2, HR.out, lit_data]
  clear hh
  obtain ⟨L, hL⟩ : ∃ L, L = (lit sg).size := ⟨_, rfl⟩
  have HL : Hid (L = sg.length) := by show _ = _; rw [hL, lit_size]
  cases ha : sg.isPrefixOf (skip st.r) with
  | false =>
    have HA : Hid (acc sg st.r = none) := by show _ = _; simp [acc, ha]
    have e1 : Lib.hasPrefix (skip st.r) sg = false := ha
    rw [e1]
    clear hL
    go_wp2
    go_ret
    exact ⟨by rw [HA.out]; rfl, by rw [HA.out]; exact H.out, World.grownBy.refl _ _⟩
  | true =>
    have HA : Hid (acc sg st.r = some ((skip st.r).drop sg.length)) := by show _ = _; simp [acc, ha]
    have e1 : Lib.hasPrefix (skip st.r) sg = true := ha
    have hle := (acc_some HA.out).2.2
    have hLs : K + L ≤ s.size := by have := HL.out; have := HKl.out; omega
    have HP : Hid (pos s ((skip st.r).drop sg.length) = K + L) := by
      show _ = _
      rw [pos_drop ((skip_suf st.r).trans H.out.suf) hle, ← HK.out, HL.out]
    have hR2 := H.out.at ((drop_suf (skip st.r) sg.length).trans ((skip_suf st.r).trans H.out.suf))
    rw [HP.out] at hR2
    rw [e1]
    simp only [Int.natCast_add] at hR2
    have HR2 := hide hR2
    have hL' : (lit sg).size = L := hL.symm
    clear ha hR2 hle e1 hL
    go_wp2
    go_ret
    exact ⟨by rw [HA.out]; rfl, by rw [HA.out]; exact HR2.out, grown_set8⟩

/-- a fault that is thrown -/
def thr (s : ByteArray) (f : Flt) : PanicEntry := { v := .iface 57 (.agg #[.int .i64 f.1, .int .i64 (s.size - f.2 : Nat)]), recovered := false }

theorem throw_any (er a : Int) (w : World) :
    Calls Tryz.prog 24 #[.int .i64 er, .int .i64 a] w fun e w' => e = .panicked [{ v := .iface 57 (.agg #[.int .i64 er, .int .i64 a]), recovered := false }] ∧ w' = w := by
  go_enter Tryz.func24, Tryz.ntmps24
  go_wp2
  exact ⟨rfl, rfl, rfl⟩

theorem expect_any (sg : List UInt8) (s : ByteArray) (st : St) (B : Nat) (w : World) (h : Rd 43 w B s st) (hs : s.size ≤ 2000) :
    Calls Tryz.prog 63 #[.pointer (some ⟨B, 0, none⟩), .string (lit sg)] w fun e w' => ((∃ r, expe sg st.r = .ok r ∧ e = .returned (.tuple #[]) ∧ Rd 43 w' B s ⟨r, st.n⟩) ∨ ∃ f, expe sg st.r = .error f ∧ e = .panicked [thr s f]) ∧ w.grownBy w' (some B) := by
  have HA := hide (accept_any sg s st B w h hs)
  go_enter Tryz.func63, Tryz.ntmps63
  go_wp2_with fail
  refine HA.out.mono ?_
  rintro e w1 ⟨rfl, h1, g1⟩
  cases ha : acc sg st.r with
  | some r =>
    rw [ha] at h1
    simp only [Option.getD_some] at h1
    simp only [Option.isSome_some]
    have HX : Hid (expe sg st.r = .ok r) := by show _ = _; simp [expe, ha]
    clear ha
    go_wp2_with fail
    refine bodyPost_end (results_none rfl _ _ _) rfl ?_
    exact ⟨.inl ⟨r, HX.out, rfl, h1⟩, g1⟩
  | none =>
    rw [ha] at h1
    simp only [Option.getD_none] at h1
    simp only [Option.isSome_none]
    have HX : Hid (expe sg st.r = .error (2, (skip st.r).length)) := by show _ = _; simp [expe, ha]
    clear ha
    go_wp2_with fail
    refine (begin_any s _ B w1 h1 hs).mono ?_
    intro e w2 hh
    rw [hh.1, hh.2]
    clear hh
    go_wp2_with fail
    refine (throw_any _ _ w1).mono ?_
    intro e w2 hh
    rw [hh.1, hh.2]
    clear hh
    go_wp2_with fail
    exact ⟨rfl, .inr ⟨_, HX.out, rfl⟩, g1⟩

theorem next_any (s : ByteArray) (st : St) (B : Nat) (w : World) (h : Rd 43 w B s st) (hs : s.size ≤ 2000) :
    Calls Tryz.prog 65 #[.pointer (some ⟨B, 0, none⟩)] w fun e w' => e = .returned (.int .u8 ((nxt st.r).toNat : Nat)) ∧ w' = w := by
  obtain ⟨c0, c1, c2⟩ := h.cells
  have HB := hide (begin_any s st B w h hs)
  have HSUF := hide ((skip_suf st.r).trans h.suf)
  obtain ⟨K, hK⟩ : ∃ K, K = pos s (skip st.r) := ⟨_, rfl⟩
  rw [← hK] at HB
  have HK := hide hK
  clear hK h
  go_enter Tryz.func65, Tryz.ntmps65
  go_wp2_with fail
  refine HB.out.mono ?_
  intro e w1 hh
  rw [hh.1, hh.2]
  clear hh HB
  cases hq : skip st.r with
  | nil =>
    have hKs : ((K : Int) == (s.size : Int)) = true := by rw [HK.out, hq]; simp [pos]
    have HN : Hid (nxt st.r = 0) := by show _ = _; simp [nxt, hq]
    clear hq HK HSUF
    go_wp2
    go_ret
    exact ⟨by rw [HN.out]; rfl, rfl⟩
  | cons c t =>
    have HS2 := HSUF.out
    rw [hq] at HS2
    obtain ⟨hk, hb⟩ := suf_byte HS2
    have hK : K = pos s (c :: t) := by rw [HK.out, hq]
    rw [← hK] at hk
    have hb' : ((s[K]'hk).toNat : Int) = (c.toNat : Int) := by simp only [hK]; rw [hb]
    have HN : Hid ((c.toNat : Int) = ((nxt st.r).toNat : Nat)) := by show _ = _; simp [nxt, hq]
    obtain ⟨C, hC⟩ : ∃ C : Int, C = (c.toNat : Int) := ⟨_, rfl⟩
    rw [← hC] at hb' HN
    have hKs : ((K : Int) == (s.size : Int)) = false := by rw [beq_eq_false_iff_ne]; omega
    clear hq HK HSUF HS2 hK hb hC
    go_wp2
    go_ret
    exact ⟨by rw [← HN.out]; rfl, rfl⟩

theorem letter_any (c : Int) (w : World) : Calls Tryz.prog 98 #[.int .u8 c] w fun e w' => e = .returned (.bool (decide (97 ≤ c) && decide (c ≤ 122))) ∧ w' = w := by
  by_cases h1 : 97 ≤ c
  · by_cases h2 : c ≤ 122
    · go_enter Tryz.func98, Tryz.ntmps98
      go_wp2
      go_ret
      exact ⟨by first | (simp; omega) | simp [h2] | simp, rfl⟩
    · go_enter Tryz.func98, Tryz.ntmps98
      go_wp2
      go_ret
      exact ⟨by first | (simp; omega) | simp [h2] | simp, rfl⟩
  · go_enter Tryz.func98, Tryz.ntmps98
    go_wp2
    go_ret
    exact ⟨by first | (simp; omega) | simp, rfl⟩

theorem digit_any (c : Int) (w : World) : Calls Tryz.prog 64 #[.int .u8 c] w fun e w' => e = .returned (.bool (decide (48 ≤ c) && decide (c ≤ 57))) ∧ w' = w := by
  by_cases h1 : 48 ≤ c
  · by_cases h2 : c ≤ 57
    · go_enter Tryz.func64, Tryz.ntmps64
      go_wp2
      go_ret
      exact ⟨by first | (simp; omega) | simp [h2] | simp, rfl⟩
    · go_enter Tryz.func64, Tryz.ntmps64
      go_wp2
      go_ret
      exact ⟨by first | (simp; omega) | simp [h2] | simp, rfl⟩
  · go_enter Tryz.func64, Tryz.ntmps64
    go_wp2
    go_ret
    exact ⟨by first | (simp; omega) | simp, rfl⟩

theorem letter_byte (b : UInt8) (w : World) : Calls Tryz.prog 98 #[.int .u8 (b.toNat : Nat)] w fun e w' => e = .returned (.bool (letter b)) ∧ w' = w :=
  (letter_any _ w).mono fun e w' h => ⟨by rw [h.1]; congr 2; unfold letter; congr 1 <;> (apply decide_eq_decide.2; omega), h.2⟩

theorem digit_byte (b : UInt8) (w : World) : Calls Tryz.prog 64 #[.int .u8 (b.toNat : Nat)] w fun e w' => e = .returned (.bool (digit b)) ∧ w' = w :=
  (digit_any _ w).mono fun e w' h => ⟨by rw [h.1]; congr 2; unfold digit; congr 1 <;> (apply decide_eq_decide.2; omega), h.2⟩

theorem wbyte_byte (b : UInt8) (w : World) : Calls Tryz.prog 99 #[.int .u8 (b.toNat : Nat)] w fun e w' => e = .returned (.bool (wbyte b)) ∧ w' = w := by
  have HL := hide (letter_byte b w)
  have HD := hide (digit_byte b w)
  obtain ⟨C, hC⟩ : ∃ C : Int, C = (b.toNat : Nat) := ⟨_, rfl⟩
  rw [← hC] at HL HD ⊢
  cases h1 : letter b with
  | true =>
    have HW : Hid (wbyte b = true) := by show _ = _; simp [wbyte, h1]
    rw [HW.out]
    rw [h1] at HL
    clear h1 hC
    go_enter Tryz.func99, Tryz.ntmps99
    go_wp2_with fail
    refine HL.out.mono ?_
    intro e w1 hh
    rw [hh.1, hh.2]
    clear hh
    go_wp2_with fail
    go_ret
    exact ⟨rfl, rfl⟩
  | false =>
    rw [h1] at HL
    cases h2 : digit b with
    | true =>
      have HW : Hid (wbyte b = true) := by show _ = _; simp [wbyte, h2]
      rw [HW.out]
      rw [h2] at HD
      clear h1 h2 hC
      go_enter Tryz.func99, Tryz.ntmps99
      go_wp2_with fail
      refine HL.out.mono ?_
      intro e w1 hh
      rw [hh.1, hh.2]
      clear hh
      go_wp2_with fail
      refine HD.out.mono ?_
      intro e w1 hh
      rw [hh.1, hh.2]
      clear hh
      go_wp2_with fail
      go_ret
      exact ⟨rfl, rfl⟩
    | false =>
      obtain ⟨R, hR⟩ : ∃ R, R = (C == 95) := ⟨_, rfl⟩
      have HW : Hid (wbyte b = R) := by
        show _ = _
        rw [hR]
        simp only [wbyte, h1, h2, Bool.false_or]
        cases hb : (b == 95) with
        | true =>
          have : b = 95 := by simpa using hb
          rw [hC, this]
          rfl
        | false =>
          symm
          rw [hC, beq_eq_false_iff_ne]
          intro hh
          have h3 : b ≠ 95 := by simpa using hb
          apply h3
          apply UInt8.toNat_inj.1
          have : (95 : UInt8).toNat = 95 := rfl
          omega
      have hR' : (C == 95) = R := hR.symm
      rw [HW.out]
      rw [h2] at HD
      clear h1 h2 hC hR
      go_enter Tryz.func99, Tryz.ntmps99
      go_wp2_with fail
      refine HL.out.mono ?_
      intro e w1 hh
      rw [hh.1, hh.2]
      clear hh
      go_wp2_with fail
      refine HD.out.mono ?_
      intro e w1 hh
      rw [hh.1, hh.2]
      clear hh
      go_wp2_with fail
      go_ret
      exact ⟨rfl, rfl⟩

end Go.Proofs.YtfgablhgjbjbkadGreatDoor
