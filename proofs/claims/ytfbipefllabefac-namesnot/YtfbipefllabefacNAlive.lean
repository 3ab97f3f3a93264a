/-
  The walk of alive.
-/
import Derived.Test.YtfbipefllabefacNCmp
import Derived.Test.YtfbipefllabefacNWrong
import Derived.Test.YtfbipefllabefacNMatch
namespace Go.GrainU
open Go.RowKit

theorem al_find : find [(⟨#[104, 111, 115, 116]⟩, ⟨#[97]⟩)] ⟨#[104, 111, 115, 116]⟩ = some ⟨#[97]⟩ := by simp [find]
theorem al_named : Grain.named ⟨#[65]⟩ = false := by decide +kernel
theorem al_wrong : wrongS [(⟨#[104, 111, 115, 116]⟩, ⟨#[97]⟩)] = 0 := by decide +kernel
theorem al_cmp : cmpS [(⟨#[104, 111, 115, 116]⟩, ⟨#[97]⟩)] [(⟨#[104, 111, 115, 116]⟩, ⟨#[98]⟩)] = -1 := by
  rw [cmpS_L]
  have h : cmpW ⟨#[97]⟩ ⟨#[98]⟩ = -1 := cmpW_lt (by rw [ByteArray.toList_eq, ByteArray.toList_eq]; decide)
  simp [cmpL, cmpW_self, h]
theorem al_says : says [(⟨#[104, 111, 115, 116]⟩, ⟨#[97]⟩)] [⟨1, ⟨#[104, 111, 115, 116]⟩, ⟨#[97]⟩⟩] = true := by simp [says, find, sayM]
theorem al_fits : (⟨#[65]⟩ : ByteArray).size ≤ 9223372036854775807 := by decide
theorem al_fitsL : Fits [(⟨#[104, 111, 115, 116]⟩, ⟨#[97]⟩)] := by
  intro k hk
  have : k = 0 := by simp at hk; omega
  subst this
  decide

end Go.GrainU
namespace Go.Proofs.Ytfbipefllabefac
open Go.RowKit Go.GrainU

theorem host_any (s : ByteArray) (w : World) :
    Calls Try.prog 42 #[.string s] w fun e w' => ∃ b, e = .returned (.slice (some ⟨b, 0, none⟩) 1 1) ∧ Seg w' (some ⟨b, 0, none⟩) (lcells [(⟨#[104, 111, 115, 116]⟩, s)]) ∧ Below w.heap.size w w' := by
  have bel : Below w.heap.size w (w.alloc (.cells #[.string ⟨#[104, 111, 115, 116]⟩, .string s] 49)) := (Below.refl _ _).alloc (Nat.le_refl _) _
  have hs := seg_new w #[.string ⟨#[104, 111, 115, 116]⟩, .string s] 49
  go_enter Try.func42, Try.ntmps42
  go_wp2
  go_ret
  exact ⟨w.heap.size, rfl, hs, bel⟩

set_option maxHeartbeats 2000000 in
theorem alive_any (w : World) :
    Calls Try.prog 23 #[] w fun e w' => e = .returned (.bool true) ∧ Below w.heap.size w w' := by
  go_enter Try.func23, Try.ntmps23
  go_wp2_with fail
  refine (host_any _ w).mono ?_
  rintro e w1 ⟨b1, rfl, s1, k1⟩
  have z1 := k1.size
  go_wp2_with fail
  refine (nget_any _ _ _ 1 1 w1 s1 rfl (by decide)).mono ?_
  rintro e w2 ⟨rfl, k2⟩
  rw [al_find]
  have K2 : Below w.heap.size w w2 := k1.trans (k2.mono z1)
  have z2 := K2.size
  clear k1 k2 s1 z1
  go_wp2_with fail
  refine (host_any _ w2).mono ?_
  rintro e w3 ⟨b3, rfl, s3, k3⟩
  have K3 : Below w.heap.size w w3 := K2.trans (k3.mono z2)
  have z3 := K3.size
  clear k3 K2 z2
  go_wp2_with fail
  refine (nwrong_any _ _ 1 1 w3 s3 rfl al_fitsL).mono ?_
  rintro e w4 ⟨rfl, k4⟩
  rw [al_wrong]
  have K4 : Below w.heap.size w w4 := K3.trans (k4.mono z3)
  have z4 := K4.size
  clear k4 K3 z3 s3
  go_wp2_with fail
  refine (host_any _ w4).mono ?_
  rintro e w5 ⟨b5, rfl, s5, k5⟩
  have K5 : Below w.heap.size w w5 := K4.trans (k5.mono z4)
  have z5 := K5.size
  clear k5 K4 z4
  go_wp2_with fail
  refine (host_any _ w5).mono ?_
  rintro e w6 ⟨b6, rfl, s6, k6⟩
  have s5' := s5.below k6
  have K6 : Below w.heap.size w w6 := K5.trans (k6.mono z5)
  have z6 := K6.size
  clear k6 K5 z5 s5
  go_wp2_with fail
  refine (ncmp_any _ _ _ _ 1 1 1 1 w6 s5' s6 rfl rfl (by decide)).mono ?_
  rintro e w7 ⟨rfl, k7⟩
  rw [al_cmp]
  have K7 : Below w.heap.size w w7 := K6.trans (k7.mono z6)
  have z7 := K7.size
  clear k7 K6 z6 s5' s6
  go_wp2_with fail
  refine (host_any _ w7).mono ?_
  rintro e w8 ⟨b8, rfl, s8, k8⟩
  have K8 : Below w.heap.size w w8 := K7.trans (k8.mono z7)
  have z8 := K8.size
  clear k8 K7 z7
  have b9 : Below w8.heap.size w8 (w8.alloc (.cells #[.int .i64 1, .string ⟨#[104, 111, 115, 116]⟩, .string ⟨#[97]⟩] 53)) := (Below.refl _ _).alloc (Nat.le_refl _) _
  have s9 := seg_new w8 #[.int .i64 1, .string ⟨#[104, 111, 115, 116]⟩, .string ⟨#[97]⟩] 53
  go_wp2_with fail
  refine (nmatches_any [(⟨#[104, 111, 115, 116]⟩, ⟨#[97]⟩)] [⟨1, ⟨#[104, 111, 115, 116]⟩, ⟨#[97]⟩⟩] _ _ 1 1 1 1 _ (s8.below b9) s9 rfl rfl (by decide) (by decide)).mono ?_
  rintro e w9 ⟨rfl, k9⟩
  rw [al_says]
  have K9 : Below w.heap.size w w9 := (K8.alloc z8 _).trans (k9.mono (by simp; omega))
  clear k9 K8 z8 s8 s9 b9
  go_wp2_with fail
  refine (nnamed_any _ w9 al_fits).mono ?_
  rintro e w10 ⟨rfl, hw⟩
  rw [al_named, hw]
  go_wp2
  go_ret
  exact ⟨rfl, K9⟩

end Go.Proofs.Ytfbipefllabefac
