/-
  The walk of SameSamples, at the same samples.
-/
import Derived.Test.YtlepdjfkgingpaaRows
import Derived.Test.YtlepdjfkgingpaaUtil
namespace Go.Proofs.Ytlepdjfkgingpaa
open Go.RowKit Go.GrainU

set_option maxHeartbeats 400000 in
theorem same_any (l : List (Int × Int)) (ao bo : Option Addr) (n c c' : Nat) (w : World) (ha : Seg w ao (scells l)) (hb : Seg w bo (scells l)) (hn : n = l.length) (hc : n ≤ 9223372036854775807) :
    Calls Try.prog 13 #[.slice ao n c, .slice bo n c'] w fun e w' => e = .returned (.bool true) ∧ Below w.heap.size w w' := by
  have HN := hide hn
  clear hn
  have hz : ((n : Int) != (n : Int)) = false := by simp
  go_enter Try.func13, Try.ntmps13
  go_wp2
  go_loopw [13] (fun i wr => ∃ (k : Nat), k ≤ n ∧ i = .int .i64 k ∧ Below w.heap.size w wr) (fun i _ => n - (intOf i).toNat)
  case atStart => exact ⟨0, Nat.zero_le _, rfl, Below.refl _ _⟩
  case round =>
    obtain ⟨k, hk, rfl, bel⟩ := hrel
    by_cases hlt : k < n
    · have hlt' : k < l.length := by rw [← HN.out]; exact hlt
      obtain ⟨b, off, rfl, hcell⟩ := ha.sample hlt'
      obtain ⟨b', off', rfl, hcell'⟩ := hb.sample hlt'
      have hbl : b < w.heap.size := World.block_lt_of_cell? w ⟨b, off + k * 2, none⟩ (hcell k hlt').1
      have hbl' : b' < w.heap.size := World.block_lt_of_cell? w ⟨b', off' + k * 2, none⟩ (hcell' k hlt').1
      have c0 : wr.cell? ⟨b, off + k * 2, none⟩ = some (.int .i64 (Grain.tm l k)) := (bel.cell (by exact hbl)).trans (hcell k hlt').1
      have c1 : wr.cell? ⟨b, off + k * 2 + 1, none⟩ = some (.int .i64 (Grain.vl l k)) := (bel.cell (by exact hbl)).trans (hcell k hlt').2
      have d0 : wr.cell? ⟨b', off' + k * 2, none⟩ = some (.int .i64 (Grain.tm l k)) := (bel.cell (by exact hbl')).trans (hcell' k hlt').1
      have d1 : wr.cell? ⟨b', off' + k * 2 + 1, none⟩ = some (.int .i64 (Grain.vl l k)) := (bel.cell (by exact hbl')).trans (hcell' k hlt').2
      clear hcell hcell' hlt'
      go_wp2
      go_quiet (fail)
      go_wp2
      go_roundw
      case rel => exact ⟨k + 1, by omega, by go_num, below_drewN bel _⟩
      case measure => simp [intOf]; omega
    · go_wp2
      go_ret
      exact ⟨rfl, bel⟩

end Go.Proofs.Ytlepdjfkgingpaa
