import Derived.Test.YtoldmigappbjcaaGreatDoorL02
import Derived.Test.YtoldmigappbjcaaGreatDoorL03
import Derived.Test.YtoldmigappbjcaaGreatDoorRows
namespace Go.Proofs.YtoldmigappbjcaaGreatDoor
open Go.RowKit Go.GrainU
set_option maxRecDepth 20000 in
set_option maxHeartbeats 2000000 in
theorem search_any (p : Nat → Bool) (F : Nat) (caps : Array Value) (n : Nat) (w : World) (hn : n ≤ 1000000)
  (hE : Hid (∀ (args : Array Value) (W : World), (callFunc F args).run Tryz.prog W = .ok (.enter F args) W))
  (hF : ∀ W i, i < n → Below w.heap.size w W → Calls Tryz.prog F (#[.int .i64 (i : Nat)] ++ caps) W fun e W' => e = .returned (.bool (p i)) ∧ Below W.heap.size W W')
  (hmono : ∀ a b, a ≤ b → b < n → p a = true → p b = true) :
  Calls Tryz.prog 238 #[.int .i64 n, .func (.func F) #[] caps] w fun e w' => ∃ r : Nat, r ≤ n ∧ Hid ((∀ t, t < r → p t = false) ∧ ∀ t, r ≤ t → t < n → p t = true) ∧ e = .returned (.int .i64 r) ∧ Below w.heap.size w w' := by
 have HF := hide hF
 have M := hide hmono
 clear hF hmono
 go_enter Tryz.func238, Tryz.ntmps238
 go_wp2
 go_loopw [5, 6] (fun s5 s6 wr => ∃ lo hi : Nat, s5 = .int .i64 lo ∧ s6 = .int .i64 hi ∧ lo ≤ hi ∧ hi ≤ n ∧ Below w.heap.size w wr ∧ Hid ((∀ t, t < lo → p t = false) ∧ ∀ t, hi ≤ t → t < n → p t = true)) (fun s5 s6 _ => (intOf s6).toNat - (intOf s5).toNat)
 case atStart => exact ⟨0, n, rfl, rfl, Nat.zero_le _, Nat.le_refl _, Below.refl _ _, (⟨fun t ht => absurd ht (Nat.not_lt_zero _), fun t h1 h2 => by omega⟩ : (∀ t, t < 0 → p t = false) ∧ ∀ t, n ≤ t → t < n → p t = true)⟩
 case round =>
  obtain ⟨lo, hi, rfl, rfl, hlh, hin, bel, I⟩ := hrel
  have hsz := bel.size
  by_cases hlt : lo < hi
  ·have hc := HF.out wr ((lo + hi) / 2) (by omega) bel
   rw [show (((lo + hi) / 2 : Nat) : Int) = ((lo : Int) + (hi : Int)) / 2 by omega] at hc
   have HC := hide hc
   clear hc
   go_wp2_with fail
   rw [hE.out, Oper.upon_enter]
   refine HC.out.mono ?_
   rintro e w1 ⟨rfl, hb1⟩
   have bel1 : Below w.heap.size w w1 := bel.trans (hb1.mono hsz)
   clear hb1 bel HC
   cases hp : p ((lo + hi) / 2)
   ·have I2 : Hid ((∀ t, t < (lo + hi) / 2 + 1 → p t = false) ∧ ∀ t, hi ≤ t → t < n → p t = true) := ⟨fun t ht => (by
     cases h : p t with
     | false => rfl
     | true => have := M.out t ((lo + hi) / 2) (by omega) (by omega) h; rw [hp] at this; cases this), I.out.2⟩
    clear hp I
    go_wp2
    go_roundw
    case rel => exact ⟨(lo + hi) / 2 + 1, hi, by go_num, rfl, by omega, hin, bel1, I2⟩
    case measure => simp [intOf]; omega
   ·have I2 : Hid ((∀ t, t < lo → p t = false) ∧ ∀ t, (lo + hi) / 2 ≤ t → t < n → p t = true) := ⟨I.out.1, fun t ht htn => M.out ((lo + hi) / 2) t ht htn hp⟩
    clear hp I
    go_wp2
    go_roundw
    case rel => exact ⟨lo, (lo + hi) / 2, rfl, by go_num, by omega, by omega, bel1, I2⟩
    case measure => simp [intOf]; omega
  ·obtain rfl : hi = lo := by omega
   go_wp2
   go_ret
   exact ⟨hi, hin, I, rfl, bel⟩
end Go.Proofs.YtoldmigappbjcaaGreatDoor
