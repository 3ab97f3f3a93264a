/-
  The walk of CodecTurns.
-/
import Derived.Test.YtlepdjfkgingpaaMovedW
import Derived.Test.YtlepdjfkgingpaaMathD
import Derived.Test.YtlepdjfkgingpaaSame
import Derived.Laws.BytesArg
namespace Go.Proofs.Ytlepdjfkgingpaa
open Go.RowKit Go.GrainU

/-- what Parse answers: samples, and what is wrong -/
def prs (bs : List Int) : List (Int × Int) × Int :=
  match Grain.rd bs with
  | some (l, []) => if (Grain.wrong l).1 = 0 then (l, 0) else ([], (Grain.wrong l).1)
  | _ => ([], 2)

theorem prs_ok {bs : List Int} {l : List (Int × Int)} (h : Grain.rd bs = some (l, [])) (hw : (Grain.wrong l).1 = 0) : prs bs = (l, 0) := by simp [prs, h, hw]
theorem prs_bad {bs : List Int} {l : List (Int × Int)} (h : Grain.rd bs = some (l, [])) (hw : (Grain.wrong l).1 ≠ 0) : prs bs = ([], (Grain.wrong l).1) := by simp [prs, h, hw]
theorem prs_form {bs : List Int} (h : ∀ l, Grain.rd bs ≠ some (l, [])) : prs bs = ([], 2) := by
  unfold prs
  split
  · rename_i l hl; exact absurd hl (h l)
  · rfl

theorem prs_cases (bs : List Int) : (∃ l, Grain.rd bs = some (l, []) ∧ (Grain.wrong l).1 = 0 ∧ prs bs = (l, 0)) ∨ ((prs bs).1 = [] ∧ (prs bs).2 ≠ 0) := by
  by_cases h : ∃ l, Grain.rd bs = some (l, [])
  · obtain ⟨l, hl⟩ := h
    by_cases hw : (Grain.wrong l).1 = 0
    · exact .inl ⟨l, hl, hw, prs_ok hl hw⟩
    · right; rw [prs_bad hl hw]; exact ⟨rfl, hw⟩
  · right; rw [prs_form (fun l hl => h ⟨l, hl⟩)]; exact ⟨rfl, by decide⟩

theorem parse_all (bs : List Int) (ao : Option Addr) (n0 cap : Nat) (w : World) (hs : Seg w ao (bcells bs)) (hn : n0 = bs.length) (hc : n0 ≤ cap) (hm : cap ≤ maxLen) (hbs : Grain.AllB bs) :
    Calls Try.prog 11 #[.slice ao n0 cap] w fun e w' => ∃ o N c, e = .returned (.tuple #[.slice o N c, .int .i64 (prs bs).2]) ∧ w'.ownsRow w.heap.size 36 2 (.slice o N c) N (scells (prs bs).1) ∧ Below w.heap.size w w' := by
  by_cases h : ∃ l, Grain.rd bs = some (l, [])
  · obtain ⟨l, hl⟩ := h
    by_cases hw : (Grain.wrong l).1 = 0
    · refine (parse_ok bs ao n0 cap w hs hn hc hm hbs l hl hw).mono ?_
      rintro e w' ⟨g, N, c, rfl, own, bel⟩
      rw [prs_ok hl hw]
      exact ⟨_, N, c, rfl, own, bel⟩
    · refine (parse_bad bs ao n0 cap w hs hn hc hm hbs l hl hw).mono ?_
      rintro e w' ⟨rfl, bel⟩
      rw [prs_bad hl hw]
      exact ⟨none, 0, 0, rfl, World.ownsRow_nil _ _ _ _, bel⟩
  · have h' := fun l hl => h ⟨l, hl⟩
    refine (parse_form bs ao n0 cap w hs hn hc hm hbs h').mono ?_
    rintro e w' ⟨rfl, bel⟩
    rw [prs_form h']
    exact ⟨none, 0, 0, rfl, World.ownsRow_nil _ _ _ _, bel⟩

/-- bytes as a string -/
theorem run_str {w : World} {ao : Option Addr} {n cap : Nat} {bs : List Int} (h : Seg w ao (bcells bs)) (hn : n = bs.length) :
    (convert 23 9 (.slice ao n cap)).run Try.prog w = .ok (.string (strOfNums bs)) w := by
  subst hn
  rcases h with h | ⟨b, off, rfl, h⟩
  · have hb : bs = [] := by have := congrArg List.length h; simpa [bcells] using this
    subst hb
    cases ao with
    | none => rw [run_convert_bytes_nil w 23 5 Try.underlying23 Try.underlying5 _ _ 9 Try.underlying9]; rfl
    | some a =>
      rw [run_convert_bytes_string w 23 9 5 _ _ _ Try.underlying23 Try.underlying5 Try.underlying9, run_bytesToString w a _ cap [] (by simp [loadCells, loadCellsFrom])]
      rfl
  · refine run_convert_bytes_arg w 23 5 Try.underlying23 Try.underlying5 b off _ cap bs rfl (fun i hi => ?_) 9 Try.underlying9
    rw [h i (by simpa [bcells] using hi)]
    simp [bcells, List.getElem?_eq_getElem hi, List.getD]

theorem own_o_seg {w : World} {base e size n cap : Nat} {o : Option Addr} {xs : List Value} (h : w.ownsRow base e size (.slice o n cap) n xs) : Seg w o xs ∧ n ≤ cap ∧ cap ≤ maxLen := by
  rcases h.2 with ⟨h0, h1⟩ | ⟨g, cap', cur, h0, _⟩
  · simp at h0
    obtain ⟨rfl, _, rfl⟩ := h0
    have : xs = [] := by have := h.1; rw [h1] at this; simpa using this
    exact ⟨.inl this, by omega, by unfold maxLen; omega⟩
  · simp at h0
    obtain ⟨rfl, rfl⟩ := h0
    exact ⟨own_seg h, (own_cap h).1, (own_cap h).2⟩

set_option maxHeartbeats 2000000 in
theorem turns_any (l : List (Int × Int)) (ao : Option Addr) (n cap : Nat) (bs : List Int) (bo : Option Addr) (m mc : Nat) (w : World) (hs : Seg w ao (scells l)) (hn : n = l.length)
    (hb : Seg w bo (bcells bs)) (hm : m = bs.length) (hc : m ≤ mc) (hmc : mc ≤ maxLen) (hbs : Grain.AllB bs) :
    Calls Try.prog 4 #[.slice ao n cap, .slice bo m mc] w fun e w' => e = .returned (.bool true) ∧ Below w.heap.size w w' := by
  have HN := hide hn
  have HM := hide hm
  clear hn hm
  by_cases hw : (Grain.wrong l).1 = 0
  · have hR := Grain.right_of hw
    have HW := hide hw
    have h5 : n ≤ 500 := by rw [HN.out]; exact hR.few
    clear hw
    go_enter Try.func4, Try.ntmps4
    go_wp2_with (go_at_call 14; refine (alive_any _).mono ?_; rintro e w1 ⟨rfl, hb1⟩)
    refine (bytes_yes_len l ao n cap _ (hs.below hb1) HN.out HW.out).mono ?_
    rintro e w2 ⟨g2, N2, c2, rfl, own2, hb2⟩
    have bel2 : Below w.heap.size w w2 := hb1.trans (hb2.mono hb1.size)
    have hs2 := bel2.size
    have HL2 := hide (own_len own2)
    obtain ⟨k1, k2⟩ := own_cap own2
    go_wp2_with fail
    refine (parse_ok (Grain.bytes l) (some ⟨g2, 0, none⟩) N2 c2 _ (own_seg (own2.alloc _)) HL2.out k1 k2 (Grain.bytes_AllB hR) l (Grain.rd_bytes hR) HW.out).mono ?_
    rintro e w3 ⟨g3, N3, c3, rfl, own3, hb3⟩
    have bel3 : Below w.heap.size w w3 := (bel2.alloc hs2 _).trans (hb3.mono (by simp; omega))
    have hN3 : N3 = n := by rw [HN.out]; exact own_slen own3
    subst hN3
    have seg3 := own_seg own3
    clear hb1 hb2 hb3 own2 own3 k1 k2
    go_wp2_with fail
    refine (same_any l (some ⟨g3, 0, none⟩) ao N3 c3 cap _ seg3 (hs.below bel3) HN.out (by omega)).mono ?_
    rintro e w4 ⟨rfl, hb4⟩
    have bel4 : Below w.heap.size w w4 := bel3.trans (hb4.mono bel3.size)
    clear hb4 seg3
    go_wp2_with fail
    refine (parse_all bs bo m mc _ (hb.below bel4) HM.out hc hmc hbs).mono ?_
    rintro e w5 ⟨o5, N5, c5, rfl, own5, hb5⟩
    have bel5 : Below w.heap.size w w5 := bel4.trans (hb5.mono bel4.size)
    have hs5 := bel5.size
    rcases prs_cases bs with ⟨l5, hl5, hw5, hp5⟩ | ⟨hp5, hq5⟩
    · rw [hp5] at own5 ⊢
      have HB5 := hide (Grain.rd_back hbs hl5)
      have HW5 := hide hw5
      have HL5 := hide (own_slen own5)
      have hR5 := Grain.right_of hw5
      obtain ⟨seg5, _, _⟩ := own_o_seg own5
      clear hl5 hw5 hp5 own5
      go_wp2_with fail
      refine (bytes_yes_len l5 o5 N5 c5 _ seg5 HL5.out HW5.out).mono ?_
      rintro e w6 ⟨g6, N6, c6, rfl, own6, hb6⟩
      have bel6 : Below w.heap.size w w6 := bel5.trans (hb6.mono hs5)
      have hs6 := bel6.size
      have cv1 := run_str (w := w6.alloc (.cells #[.int .i64 0, .int .i64 0] 26)) (cap := c6) (own_seg (own6.alloc _)) (own_len own6)
      have bel7 : Below w.heap.size w (w6.alloc (.cells #[.int .i64 0, .int .i64 0] 26)) := bel6.alloc hs6 _
      have cv2 := run_str (cap := mc) (hb.below bel7) HM.out
      rw [← HB5.out] at cv1
      clear own6 hb6 seg5
      go_wp2
      go_ret
      exact ⟨rfl, bel7⟩
    · have hN5 : N5 = 0 := by rw [hp5] at own5; exact own_slen own5
      subst hN5
      have z5 : ((prs bs).2 != 0) = true := by simpa using hq5
      clear hp5 hq5 own5
      go_wp2
      go_ret
      exact ⟨rfl, bel5⟩
  · go_enter Try.func4, Try.ntmps4
    go_wp2_with (go_at_call 14; refine (alive_any _).mono ?_; rintro e w1 ⟨rfl, hb1⟩)
    refine (bytes_no_len l ao n cap _ (hs.below hb1) HN.out hw).mono ?_
    rintro e w2 ⟨rfl, hb2⟩
    have bel2 : Below w.heap.size w w2 := hb1.trans (hb2.mono hb1.size)
    have bel3 : Below w.heap.size w (w2.alloc (.cells #[.int .i64 (Grain.wrong l).1, .int .i64 (Grain.wrong l).2] 26)) := bel2.alloc bel2.size _
    have zz : ((Grain.wrong l).1 == 0) = false := by simpa using hw
    clear hb1 hb2 hw
    go_wp2_with fail
    refine (parse_all bs bo m mc _ (hb.below bel3) HM.out hc hmc hbs).mono ?_
    rintro e w5 ⟨o5, N5, c5, rfl, own5, hb5⟩
    have bel5 : Below w.heap.size w w5 := bel3.trans (hb5.mono bel3.size)
    have hs5 := bel5.size
    rcases prs_cases bs with ⟨l5, hl5, hw5, hp5⟩ | ⟨hp5, hq5⟩
    · rw [hp5] at own5 ⊢
      have HB5 := hide (Grain.rd_back hbs hl5)
      have HW5 := hide hw5
      have HL5 := hide (own_slen own5)
      have hR5 := Grain.right_of hw5
      obtain ⟨seg5, _, _⟩ := own_o_seg own5
      clear hl5 hw5 hp5 own5
      go_wp2_with fail
      refine (bytes_yes_len l5 o5 N5 c5 _ seg5 HL5.out HW5.out).mono ?_
      rintro e w6 ⟨g6, N6, c6, rfl, own6, hb6⟩
      have bel6 : Below w.heap.size w w6 := bel5.trans (hb6.mono hs5)
      have hs6 := bel6.size
      have cv1 := run_str (w := w6.alloc (.cells #[.int .i64 0, .int .i64 0] 26)) (cap := c6) (own_seg (own6.alloc _)) (own_len own6)
      have bel7 : Below w.heap.size w (w6.alloc (.cells #[.int .i64 0, .int .i64 0] 26)) := bel6.alloc hs6 _
      have cv2 := run_str (cap := mc) (hb.below bel7) HM.out
      rw [← HB5.out] at cv1
      clear own6 hb6 seg5
      go_wp2
      go_ret
      exact ⟨rfl, bel7⟩
    · have hN5 : N5 = 0 := by rw [hp5] at own5; exact own_slen own5
      subst hN5
      have z5 : ((prs bs).2 != 0) = true := by simpa using hq5
      clear hp5 hq5 own5
      go_wp2
      go_ret
      exact ⟨rfl, bel5⟩

end Go.Proofs.Ytlepdjfkgingpaa
