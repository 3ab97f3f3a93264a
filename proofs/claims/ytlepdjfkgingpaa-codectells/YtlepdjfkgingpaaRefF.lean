/-
  The walk of the document's Parse, whatever the bytes.
-/
import Derived.Test.YtlepdjfkgingpaaRefE
namespace Go.Proofs.Ytlepdjfkgingpaa
open Go.RowKit Go.GrainU

set_option maxHeartbeats 1000000 in
theorem rparse_no (bs : List Int) (ao : Option Addr) (n0 cap : Nat) (w : World) (hs : Seg w ao (bcells bs)) (hn : n0 = bs.length) (hbs : Grain.AllB bs) (hnn : n0 ≤ 140737488355328) (h : Grain.rd bs = none)
    (hq : ∀ n r, Grain.getNum bs = some (n, r) → n < 0 ∨ (r.length : Int) / 2 < n) :
    Calls Try.prog 12 #[.slice ao n0 cap] w fun e w' => PR w (Grain.rd bs) e w' := by
  have HN := hide hn
  have HH := hide h
  clear hn h
  cases hg : Grain.getNum bs with
  | none =>
    have HG : Hid (Grain.getNum (bs.drop 0) = none) := by rw [List.drop_zero]; exact hg
    clear hg hq
    go_enter Try.func12, Try.ntmps12
    go_wp2_with fail
    refine (rget_none bs ao n0 cap 0 w hs HN.out hbs (by omega) (by omega) HG.out).mono ?_
    rintro e w1 ⟨rfl, hw1⟩
    rw [hw1]; clear hw1
    go_wp2
    go_ret2
    rw [HH.out]
    exact PR_no (fun l h => by cases h) (Below.refl _ _)
  | some p =>
    obtain ⟨n, r⟩ := p
    have hq := hq n r hg
    obtain ⟨d0, d1⟩ := Grain.getNum_bd hg
    have HG : Hid (Grain.getNum (bs.drop 0) = some (n, r)) := by rw [List.drop_zero]; exact hg
    clear hg
    go_enter Try.func12, Try.ntmps12
    go_wp2_with fail
    refine (rget_some bs ao n0 cap 0 w hs HN.out hbs (by omega) (by omega) HG.out).mono ?_
    rintro e w1 ⟨p1, rfl, hw1, hr1, _, hp1⟩
    rw [hw1]
    clear hw1
    have hq : n < 0 ∨ (n0 : Int) - p1 < 2 * n := by
      rcases hq with h | h
      · exact .inl h
      · right; rw [hr1, List.length_drop, ← HN.out] at h; omega
    clear hr1
    by_cases hneg : n < 0
    · clear hq
      go_wp2
      go_ret2
      rw [HH.out]
      exact PR_no (fun l h => by cases h) (Below.refl _ _)
    · have hq : (n0 : Int) - p1 < 2 * n := by omega
      go_wp2
      go_ret2
      rw [HH.out]
      exact PR_no (fun l h => by cases h) (Below.refl _ _)

theorem rparse_any (bs : List Int) (ao : Option Addr) (n0 cap : Nat) (w : World) (hs : Seg w ao (bcells bs)) (hn : n0 = bs.length) (hbs : Grain.AllB bs) (hnn : n0 ≤ 140737488355328) :
    Calls Try.prog 12 #[.slice ao n0 cap] w fun e w' => PR w (Grain.rd bs) e w' := by
  cases hg : Grain.getNum bs with
  | none => exact rparse_no bs ao n0 cap w hs hn hbs hnn (by simp [Grain.rd, hg]) (fun n r h => by rw [hg] at h; cases h)
  | some p =>
    obtain ⟨n, r⟩ := p
    by_cases hq : n < 0 ∨ (r.length : Int) / 2 < n
    · exact rparse_no bs ao n0 cap w hs hn hbs hnn (by simp [Grain.rd, hg, hq]) (fun n' r' h => by rw [hg] at h; cases h; exact hq)
    · have h0 : 0 ≤ n := by omega
      obtain ⟨k, rfl⟩ := Int.eq_ofNat_of_zero_le h0
      have e1 : Grain.rd bs = Grain.rdAll k r 0 0 0 := by simp only [Grain.rd, hg, if_neg hq, Int.toNat_natCast]
      rw [e1]
      exact rparse_loop bs ao n0 cap w hs hn hbs hnn k r hg (by omega)

end Go.Proofs.Ytlepdjfkgingpaa
