/-
  The walk of SameBuckets, at the same buckets.
-/
import Derived.Test.YtcgcefnfelmmkaaRollU
namespace Go.Proofs.Ytcgcefnfelmmkaa
open Go.RowKit Go.GrainU

set_option maxHeartbeats 1000000 in
theorem ksame_any (l : List Grain.Bk) (ao bo : Option Addr) (n c c' : Nat) (w : World) (ha : Seg w ao (kcells l)) (hb : Seg w bo (kcells l)) (hn : n = l.length) (hc : n ≤ 1000000) :
    Calls Try.prog 13 #[.slice ao n c, .slice bo n c'] w fun e w' => e = .returned (.bool true) ∧ Below w.heap.size w w' := by
  have HN := hide hn
  clear hn
  have hz : ((n : Int) != (n : Int)) = false := by simp
  go_enter Try.func13, Try.ntmps13
  go_wp2
  go_loopw [13] (fun i wr => ∃ (k : Nat), k ≤ n ∧ i = .int .i64 k ∧ Below w.heap.size w wr) (fun i _ => n - (intOf i).toNat)
  case atStart => exact ⟨0, Nat.zero_le _, rfl, Below.refl _ _⟩
  case round =>
    obtain ⟨k, hk, rfl, bel⟩ := hrel
    by_cases hlt : k < n
    · have hlt' : k < l.length := by rw [← HN.out]; exact hlt
      obtain ⟨b, off, rfl, hbl, hcell⟩ := seg_bucket ha hlt'
      obtain ⟨b', off', rfl, hbl', hcell'⟩ := seg_bucket hb hlt'
      obtain ⟨K, hK⟩ : ∃ K, K = Grain.bk l k := ⟨_, rfl⟩
      have q := (hcell k hlt').below bel hbl
      have q' := (hcell' k hlt').below bel hbl'
      rw [← hK] at q q'
      obtain ⟨c0, c1, c2, c3, c4, c5, c6, c7⟩ := q
      obtain ⟨d0, d1, d2, d3, d4, d5, d6, d7⟩ := q'
      clear hcell hcell' hlt' hK
      go_wp2
      go_quiet (fail)
      go_wp2
      go_roundw
      case rel => exact ⟨k + 1, by omega, by go_num, below_drewN bel _⟩
      case measure => simp [intOf]; omega
    · go_wp2
      go_ret
      exact ⟨rfl, bel⟩

end Go.Proofs.Ytcgcefnfelmmkaa
