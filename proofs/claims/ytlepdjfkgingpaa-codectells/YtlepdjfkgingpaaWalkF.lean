/-
  The walks of readSamples, whatever the bytes, and of Parse.
-/
import Derived.Test.YtlepdjfkgingpaaWalkA
import Derived.Test.YtlepdjfkgingpaaWalkE
namespace Go.Proofs.Ytlepdjfkgingpaa
open Go.RowKit Go.GrainU

set_option maxHeartbeats 400000 in
theorem readSamples_no (bs : List Int) (ao : Option Addr) (n0 cap : Nat) (w : World) (hs : Seg w ao (bcells bs)) (hn : n0 = bs.length) (hc : n0 ≤ cap) (hm : cap ≤ maxLen) (hbs : Grain.AllB bs) (h : Grain.rd bs = none)
    (hq : ∀ n r, Grain.getNum bs = some (n, r) → n < 0 ∨ (r.length : Int) / 2 < n) :
    Calls Try.prog 18 #[.slice ao n0 cap] w fun e w' => RdS w (Grain.rd bs) e w' := by
  have HN := hide hn
  have HH := hide h
  clear hn h
  cases hg : Grain.getNum bs with
  | none =>
    have HG := hide hg
    clear hg hq
    go_enter Try.func18, Try.ntmps18
    go_wp2_with fail
    refine (readNumber_none bs ao n0 cap w hs HN.out hc hm hbs HG.out).mono ?_
    rintro e w1 ⟨rfl, hb1⟩
    go_wp2
    go_ret2
    rw [HH.out]
    exact ⟨rfl, hb1⟩
  | some p =>
    obtain ⟨n, r⟩ := p
    have hq := hq n r hg
    have HG := hide hg
    obtain ⟨d0, d1⟩ := Grain.getNum_bd hg
    clear hg
    by_cases hneg : n < 0
    · clear hq
      go_enter Try.func18, Try.ntmps18
      go_wp2_with fail
      refine (readNumber_some bs ao n0 cap w w hs (Below.refl _ _) HN.out hc hm hbs HG.out).mono ?_
      rintro e w1 ⟨ao1, m1, c1, rfl, hb1, hs1, hm1, hc1, hcm1, hB1, _⟩
      clear hm1
      unfold maxLen at hcm1
      go_wp2
      go_ret2
      rw [HH.out]
      exact ⟨rfl, hb1⟩
    · have hq : (r.length : Int) / 2 < n := by rcases hq with h | h; · exact absurd h hneg
                                               · exact h
      go_enter Try.func18, Try.ntmps18
      go_wp2_with fail
      refine (readNumber_some bs ao n0 cap w w hs (Below.refl _ _) HN.out hc hm hbs HG.out).mono ?_
      rintro e w1 ⟨ao1, m1, c1, rfl, hb1, hs1, hm1, hc1, hcm1, hB1, _⟩
      have hq' : (m1 : Int) / 2 < n := by rw [hm1]; exact hq
      clear hm1 hq
      unfold maxLen at hcm1
      go_wp2
      go_ret2
      rw [HH.out]
      exact ⟨rfl, hb1⟩

theorem readSamples_any (bs : List Int) (ao : Option Addr) (n0 cap : Nat) (w : World) (hs : Seg w ao (bcells bs)) (hn : n0 = bs.length) (hc : n0 ≤ cap) (hm : cap ≤ maxLen) (hbs : Grain.AllB bs) :
    Calls Try.prog 18 #[.slice ao n0 cap] w fun e w' => RdS w (Grain.rd bs) e w' := by
  cases hg : Grain.getNum bs with
  | none => exact readSamples_no bs ao n0 cap w hs hn hc hm hbs (by simp [Grain.rd, hg]) (fun n r h => by rw [hg] at h; cases h)
  | some p =>
    obtain ⟨n, r⟩ := p
    by_cases hq : n < 0 ∨ (r.length : Int) / 2 < n
    · exact readSamples_no bs ao n0 cap w hs hn hc hm hbs (by simp [Grain.rd, hg, hq]) (fun n' r' h => by rw [hg] at h; cases h; exact hq)
    · have h0 : 0 ≤ n := by omega
      obtain ⟨k, rfl⟩ := Int.eq_ofNat_of_zero_le h0
      have e1 : Grain.rd bs = Grain.rdAll k r 0 0 0 := by simp only [Grain.rd, hg, if_neg hq, Int.toNat_natCast]
      rw [e1]
      exact readSamples_loop bs ao n0 cap w hs hn hc hm hbs k r hg (by omega)

set_option maxHeartbeats 400000 in
theorem parse_form (bs : List Int) (ao : Option Addr) (n0 cap : Nat) (w : World) (hs : Seg w ao (bcells bs)) (hn : n0 = bs.length) (hc : n0 ≤ cap) (hm : cap ≤ maxLen) (hbs : Grain.AllB bs)
    (h : ∀ l, Grain.rd bs ≠ some (l, [])) :
    Calls Try.prog 11 #[.slice ao n0 cap] w fun e w' => e = .returned (.tuple #[.slice none 0 0, .int .i64 2]) ∧ Below w.heap.size w w' := by
  have HN := hide hn
  clear hn
  cases hr : Grain.rd bs with
  | none =>
    have HR := hide hr
    clear hr h
    go_enter Try.func11, Try.ntmps11
    go_wp2_with fail
    refine (readSamples_any bs ao n0 cap w hs HN.out hc hm hbs).mono ?_
    intro e w1 h1
    rw [HR.out] at h1
    obtain ⟨rfl, hb1⟩ := h1
    go_wp2
    go_ret2
    exact ⟨rfl, hb1⟩
  | some p =>
    obtain ⟨l, q⟩ := p
    have hq : decide (q = []) = false := by
      simp; intro e; exact h l (by rw [hr, e])
    have HR := hide hr
    clear hr h
    go_enter Try.func11, Try.ntmps11
    go_wp2_with fail
    refine (readSamples_any bs ao n0 cap w hs HN.out hc hm hbs).mono ?_
    intro e w1 h1
    rw [HR.out] at h1
    obtain ⟨g, N, cp, rfl, _, hb1⟩ := h1
    rw [hq]
    go_wp2
    go_ret2
    exact ⟨rfl, hb1⟩

set_option maxHeartbeats 400000 in
theorem parse_bad (bs : List Int) (ao : Option Addr) (n0 cap : Nat) (w : World) (hs : Seg w ao (bcells bs)) (hn : n0 = bs.length) (hc : n0 ≤ cap) (hm : cap ≤ maxLen) (hbs : Grain.AllB bs)
    (l : List (Int × Int)) (h : Grain.rd bs = some (l, [])) (hw : (Grain.wrong l).1 ≠ 0) :
    Calls Try.prog 11 #[.slice ao n0 cap] w fun e w' => e = .returned (.tuple #[.slice none 0 0, .int .i64 (Grain.wrong l).1]) ∧ Below w.heap.size w w' := by
  have HN := hide hn
  have HR := hide h
  have hE : ((Grain.wrong l).1 == 0) = false := by simpa using hw
  clear hn h hw
  go_enter Try.func11, Try.ntmps11
  go_wp2_with fail
  refine (readSamples_any bs ao n0 cap w hs HN.out hc hm hbs).mono ?_
  intro e w1 h1
  rw [HR.out] at h1
  obtain ⟨g, N, cp, rfl, own1, hb1⟩ := h1
  have HL := hide (own_slen own1)
  rw [show decide (([] : List Int) = []) = true from by simp]
  go_wp2_with fail
  refine (wrong_len (l.take 501) _ N cp _ (own_seg own1) HL.out).mono ?_
  rw [Grain.wrong_take]
  rintro e w2 ⟨rfl, hb2⟩
  have bel2 : Below w.heap.size w w2 := hb1.trans (hb2.mono hb1.size)
  clear hb1 hb2 own1
  go_wp2
  go_quiet (fail)
  go_wp2
  go_ret2
  exact ⟨rfl, below_drewN (bel2.alloc bel2.size _) _⟩

set_option maxHeartbeats 400000 in
theorem parse_ok (bs : List Int) (ao : Option Addr) (n0 cap : Nat) (w : World) (hs : Seg w ao (bcells bs)) (hn : n0 = bs.length) (hc : n0 ≤ cap) (hm : cap ≤ maxLen) (hbs : Grain.AllB bs)
    (l : List (Int × Int)) (h : Grain.rd bs = some (l, [])) (hw : (Grain.wrong l).1 = 0) :
    Calls Try.prog 11 #[.slice ao n0 cap] w fun e w' => ∃ g N cp, e = .returned (.tuple #[.slice (some ⟨g, 0, none⟩) N cp, .int .i64 0]) ∧ w'.ownsRow w.heap.size 36 2 (.slice (some ⟨g, 0, none⟩) N cp) N (scells l) ∧ Below w.heap.size w w' := by
  have HN := hide hn
  have HR := hide h
  have HW := hide (Grain.wrong_zero hw)
  have HT := hide (List.take_of_length_le (i := 501) (l := l) (by have := (Grain.right_of hw).few; omega))
  clear hn h hw
  go_enter Try.func11, Try.ntmps11
  go_wp2_with fail
  refine (readSamples_any bs ao n0 cap w hs HN.out hc hm hbs).mono ?_
  intro e w1 h1
  rw [HR.out] at h1
  obtain ⟨g, N, cp, rfl, own1, hb1⟩ := h1
  rw [HT.out] at own1
  have HL := hide (own_slen own1)
  rw [show decide (([] : List Int) = []) = true from by simp]
  go_wp2_with fail
  refine (wrong_len l _ N cp _ (own_seg own1) HL.out).mono ?_
  rw [HW.out]
  rintro e w2 ⟨rfl, hb2⟩
  have bel2 : Below w.heap.size w w2 := hb1.trans (hb2.mono hb1.size)
  have own2 := own_below own1 hb2
  clear hb1 hb2 own1 HT HW HR
  go_wp2
  go_ret2
  exact ⟨g, _, cp, rfl, own2.alloc _, bel2.alloc bel2.size _⟩

end Go.Proofs.Ytlepdjfkgingpaa
