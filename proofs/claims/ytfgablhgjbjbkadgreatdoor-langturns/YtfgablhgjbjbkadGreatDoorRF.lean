/-
  run walked.
-/
import Derived.Test.YtfgablhgjbjbkadGreatDoorRE
import Derived.Deep.RegionHeld3
namespace Go.GrainU
open Go.RowKit

theorem take_front {p : UInt8 → Bool} {f q : List UInt8} (hf : f.all p = true) (hq : q = [] ∨ ∃ c t, q = c :: t ∧ p c = false) : (f ++ q).takeWhile p = f ∧ (f ++ q).dropWhile p = q := by
  induction f with
  | nil =>
    rcases hq with rfl | ⟨c, t, rfl, hc⟩
    · simp
    · simp [hc]
  | cons a r ih =>
    simp at hf
    have := ih (by simpa using hf.2)
    simp [hf.1, this]

theorem lit_extract {s : ByteArray} {r f q : List UInt8} (h : r <:+ s.data.toList) (e : r = f ++ q) : s.extract (pos s r) (pos s q) = lit f := by
  have hl := suf_len h
  apply ByteArray.ext
  apply Array.toList_inj.1
  rw [extract_list, suf_drop h, lit_data, e]
  have : pos s q - pos s (f ++ q) = f.length := by
    rw [e] at hl
    unfold pos
    simp at hl ⊢
    omega
  rw [this]
  simp

theorem Rd.drewN {t : TypeId} {w : World} {B : Nat} {s : ByteArray} {st : St} (h : Rd t w B s st) (n : Nat) : Rd t (w.drewN n) B s st := ⟨h.suf, h.blk⟩

theorem grown_drewN {w w' : World} {r : Option Nat} (h : w.grownBy w' r) (n : Nat) : w.grownBy (w'.drewN n) r := grown_trans h (grown_of_below (below_drewN (Below.refl _ _) n)) (fun k hk => by cases hk)

end Go.GrainU
namespace Go.Proofs.YtfgablhgjbjbkadGreatDoor
open Go.RowKit Go.GrainU

set_option maxHeartbeats 2000000 in
set_option maxRecDepth 100000 in
theorem run_digits (s : ByteArray) (st : St) (B : Nat) (w : World) (h : Rd 43 w B s st) (hs : s.size ≤ 2000) :
    Calls Tryz.prog 81 #[.pointer (some ⟨B, 0, none⟩), .func (.func 64) #[] #[]] w fun e w' => e = .returned (.string (lit ((skip st.r).takeWhile digit))) ∧ Rd 43 w' B s ⟨(skip st.r).dropWhile digit, st.n⟩ ∧ w.grownBy w' (some B) := by
  obtain ⟨c0, c1, c2⟩ := h.cells
  obtain ⟨t0, t1, t2⟩ := h.thaw
  have HB := hide (begin_any s st B w h hs)
  have H := hide h
  have HSUF := hide ((skip_suf st.r).trans h.suf)
  obtain ⟨K, hK⟩ : ∃ K, K = pos s (skip st.r) := ⟨_, rfl⟩
  rw [← hK] at HB
  have hKs : K ≤ s.size := by rw [hK]; unfold pos; omega
  have R0 := h.at HSUF.out
  rw [← hK] at R0
  have HR0 := hide R0
  have HK := hide hK
  clear hK h R0
  go_enter Tryz.func81, Tryz.ntmps81
  go_wp2_with fail
  refine HB.out.mono ?_
  intro e w1 hh
  rw [hh.1, hh.2]
  clear hh HB
  go_wp2_with fail
  clear c0 c1 c2 t0 t1 t2
  go_loopw [] (fun wr => ∃ (f q : List UInt8), Hid (skip st.r = f ++ q ∧ f.all digit = true) ∧ Rd 43 wr B s ⟨q, st.n⟩ ∧ w.grownBy wr (some B)) (fun wr => s.size - (intOf ((wr.cell? ⟨B, 1, none⟩).getD undef)).toNat)
  case atStart => exact ⟨[], skip st.r, ⟨rfl, rfl⟩, by have := HR0.out; rw [HK.out] at this ⊢; exact this, grown_set8⟩
  case round =>
    obtain ⟨f, q, HQ, R, gr⟩ := hrel
    obtain ⟨c0, c1, c2⟩ := R.cells
    obtain ⟨t0, t1, t2⟩ := R.thaw
    have HRR := hide R
    have HX := hide (lit_extract (f := f) (q := q) HSUF.out HQ.out.1)
    rw [← HK.out] at HX
    simp only at c1 c2
    obtain ⟨P, hP⟩ : ∃ P, P = pos s q := ⟨_, rfl⟩
    rw [← hP] at c1 HX
    have hPs : P ≤ s.size := by rw [hP]; unfold pos; omega
    have hKP : K ≤ P := by
      rw [HK.out, hP, HQ.out.1]
      unfold pos
      simp
      omega
    cases q with
    | nil =>
      have hPe : P = s.size := by rw [hP]; simp [pos]
      have HE := hide (take_front HQ.out.2 (q := []) (.inl rfl))
      rw [← HQ.out.1] at HE
      have Hd : Hid (decide (P < s.size) = false) := by show _ = _; simp; omega
      clear hP R hPe
      go_wp2_with fail
      have hd := Hd.out
      go_quiet (fail)
      go_wp2_with fail
      go_quiet (fail)
      go_wp2_with fail
      go_ret
      exact ⟨by rw [HE.out.1, ← HX.out]; rfl, by rw [HE.out.2]; exact (HRR.out.drewN _).drewN _, grown_drewN (grown_drewN gr _) _⟩
    | cons c t =>
      obtain ⟨hk, hb⟩ := suf_byte HRR.out.suf
      have hk' : P < s.size := by rw [hP]; exact hk
      have hb' : ((s[P]'hk').toNat : Int) = (c.toNat : Int) := by simp only [hP]; rw [hb]
      have Hd : Hid (decide (P < s.size) = true) := by show _ = _; simp; omega
      have hlt : (P : Int) < (s.size : Int) := by omega
      have HC := hide (digit_byte c)
      have HT : Hid (pos s t = P + 1) := by show _ = _; rw [pos_tail HRR.out.suf, ← hP]
      have R2 := HRR.out.at ((List.suffix_cons c t).trans HRR.out.suf)
      rw [HT.out] at R2
      simp only [Int.natCast_add] at R2
      have HR2 := hide R2
      obtain ⟨C, hC⟩ : ∃ C : Int, C = (c.toNat : Int) := ⟨_, rfl⟩
      rw [← hC] at hb' HC
      have HP := hide hP
      cases hp : digit c with
      | true =>
        rw [hp] at HC
        have HQ' : Hid (skip st.r = (f ++ [c]) ++ t ∧ (f ++ [c]).all digit = true) := ⟨by rw [HQ.out.1]; simp, by simp [HQ.out.2, hp]⟩
        clear hC R hb hP R2 hk hp
        go_wp2_with fail
        have hd := Hd.out
        go_quiet (first | (go_at_call 64; exact Calls.quiet_of_same (HC.out _)))
        have R3 := (HRR.out.drewN nq).at ((List.suffix_cons c t).trans HRR.out.suf)
        rw [HT.out] at R3
        simp only [Int.natCast_add] at R3
        have H3 := hide R3.cells.2.1
        have H1 := hide c1
        go_wp2_with fail
        go_roundw
        case rel => exact ⟨f ++ [c], t, HQ', R3, grown_trans (grown_drewN gr nq) grown_set8 (fun _ hk => .inl hk)⟩
        case measure => have c3 : ((wr.drewN nq).setCell ⟨B, 1, none⟩ (.int .i64 ((P : Int) + 1))).cell? ⟨B, 1, none⟩ = some (.int .i64 ((P : Int) + 1)) := by have := H3.out; simp only [HT.out, Int.natCast_add] at this; exact this
                        rw [H1.out, c3]; simp [intOf]; omega
      | false =>
        rw [hp] at HC
        have HE := hide (take_front HQ.out.2 (q := c :: t) (.inr ⟨c, t, rfl, hp⟩))
        rw [← HQ.out.1] at HE
        clear hC R hb hP R2 hk hp
        go_wp2_with fail
        have hd := Hd.out
        go_quiet (first | (go_at_call 64; exact Calls.quiet_of_same (HC.out _)))
        go_wp2_with fail
        go_quiet (fail)
        go_wp2_with fail
        go_ret
        exact ⟨by rw [HE.out.1, ← HX.out]; rfl, by rw [HE.out.2]; exact (HRR.out.drewN _).drewN _, grown_drewN (grown_drewN gr _) _⟩

set_option maxHeartbeats 2000000 in
set_option maxRecDepth 100000 in
theorem run_wbytes (s : ByteArray) (st : St) (B : Nat) (w : World) (h : Rd 43 w B s st) (hs : s.size ≤ 2000) :
    Calls Tryz.prog 81 #[.pointer (some ⟨B, 0, none⟩), .func (.func 99) #[] #[]] w fun e w' => e = .returned (.string (lit ((skip st.r).takeWhile wbyte))) ∧ Rd 43 w' B s ⟨(skip st.r).dropWhile wbyte, st.n⟩ ∧ w.grownBy w' (some B) := by
  obtain ⟨c0, c1, c2⟩ := h.cells
  obtain ⟨t0, t1, t2⟩ := h.thaw
  have HB := hide (begin_any s st B w h hs)
  have H := hide h
  have HSUF := hide ((skip_suf st.r).trans h.suf)
  obtain ⟨K, hK⟩ : ∃ K, K = pos s (skip st.r) := ⟨_, rfl⟩
  rw [← hK] at HB
  have hKs : K ≤ s.size := by rw [hK]; unfold pos; omega
  have R0 := h.at HSUF.out
  rw [← hK] at R0
  have HR0 := hide R0
  have HK := hide hK
  clear hK h R0
  go_enter Tryz.func81, Tryz.ntmps81
  go_wp2_with fail
  refine HB.out.mono ?_
  intro e w1 hh
  rw [hh.1, hh.2]
  clear hh HB
  go_wp2_with fail
  clear c0 c1 c2 t0 t1 t2
  go_loopw [] (fun wr => ∃ (f q : List UInt8), Hid (skip st.r = f ++ q ∧ f.all wbyte = true) ∧ Rd 43 wr B s ⟨q, st.n⟩ ∧ w.grownBy wr (some B)) (fun wr => s.size - (intOf ((wr.cell? ⟨B, 1, none⟩).getD undef)).toNat)
  case atStart => exact ⟨[], skip st.r, ⟨rfl, rfl⟩, by have := HR0.out; rw [HK.out] at this ⊢; exact this, grown_set8⟩
  case round =>
    obtain ⟨f, q, HQ, R, gr⟩ := hrel
    obtain ⟨c0, c1, c2⟩ := R.cells
    obtain ⟨t0, t1, t2⟩ := R.thaw
    have HRR := hide R
    have HX := hide (lit_extract (f := f) (q := q) HSUF.out HQ.out.1)
    rw [← HK.out] at HX
    simp only at c1 c2
    obtain ⟨P, hP⟩ : ∃ P, P = pos s q := ⟨_, rfl⟩
    rw [← hP] at c1 HX
    have hPs : P ≤ s.size := by rw [hP]; unfold pos; omega
    have hKP : K ≤ P := by
      rw [HK.out, hP, HQ.out.1]
      unfold pos
      simp
      omega
    cases q with
    | nil =>
      have hPe : P = s.size := by rw [hP]; simp [pos]
      have HE := hide (take_front HQ.out.2 (q := []) (.inl rfl))
      rw [← HQ.out.1] at HE
      have Hd : Hid (decide (P < s.size) = false) := by show _ = _; simp; omega
      clear hP R hPe
      go_wp2_with fail
      have hd := Hd.out
      go_quiet (fail)
      go_wp2_with fail
      go_quiet (fail)
      go_wp2_with fail
      go_ret
      exact ⟨by rw [HE.out.1, ← HX.out]; rfl, by rw [HE.out.2]; exact (HRR.out.drewN _).drewN _, grown_drewN (grown_drewN gr _) _⟩
    | cons c t =>
      obtain ⟨hk, hb⟩ := suf_byte HRR.out.suf
      have hk' : P < s.size := by rw [hP]; exact hk
      have hb' : ((s[P]'hk').toNat : Int) = (c.toNat : Int) := by simp only [hP]; rw [hb]
      have Hd : Hid (decide (P < s.size) = true) := by show _ = _; simp; omega
      have hlt : (P : Int) < (s.size : Int) := by omega
      have HC := hide (wbyte_byte c)
      have HT : Hid (pos s t = P + 1) := by show _ = _; rw [pos_tail HRR.out.suf, ← hP]
      have R2 := HRR.out.at ((List.suffix_cons c t).trans HRR.out.suf)
      rw [HT.out] at R2
      simp only [Int.natCast_add] at R2
      have HR2 := hide R2
      obtain ⟨C, hC⟩ : ∃ C : Int, C = (c.toNat : Int) := ⟨_, rfl⟩
      rw [← hC] at hb' HC
      have HP := hide hP
      cases hp : wbyte c with
      | true =>
        rw [hp] at HC
        have HQ' : Hid (skip st.r = (f ++ [c]) ++ t ∧ (f ++ [c]).all wbyte = true) := ⟨by rw [HQ.out.1]; simp, by simp [HQ.out.2, hp]⟩
        clear hC R hb hP R2 hk hp
        go_wp2_with fail
        have hd := Hd.out
        go_quiet (first | (go_at_call 99; exact Calls.quiet_of_same (HC.out _)))
        have R3 := (HRR.out.drewN nq).at ((List.suffix_cons c t).trans HRR.out.suf)
        rw [HT.out] at R3
        simp only [Int.natCast_add] at R3
        have H3 := hide R3.cells.2.1
        have H1 := hide c1
        go_wp2_with fail
        go_roundw
        case rel => exact ⟨f ++ [c], t, HQ', R3, grown_trans (grown_drewN gr nq) grown_set8 (fun _ hk => .inl hk)⟩
        case measure => have c3 : ((wr.drewN nq).setCell ⟨B, 1, none⟩ (.int .i64 ((P : Int) + 1))).cell? ⟨B, 1, none⟩ = some (.int .i64 ((P : Int) + 1)) := by have := H3.out; simp only [HT.out, Int.natCast_add] at this; exact this
                        rw [H1.out, c3]; simp [intOf]; omega
      | false =>
        rw [hp] at HC
        have HE := hide (take_front HQ.out.2 (q := c :: t) (.inr ⟨c, t, rfl, hp⟩))
        rw [← HQ.out.1] at HE
        clear hC R hb hP R2 hk hp
        go_wp2_with fail
        have hd := Hd.out
        go_quiet (first | (go_at_call 99; exact Calls.quiet_of_same (HC.out _)))
        go_wp2_with fail
        go_quiet (fail)
        go_wp2_with fail
        go_ret
        exact ⟨by rw [HE.out.1, ← HX.out]; rfl, by rw [HE.out.2]; exact (HRR.out.drewN _).drewN _, grown_drewN (grown_drewN gr _) _⟩

end Go.Proofs.YtfgablhgjbjbkadGreatDoor
