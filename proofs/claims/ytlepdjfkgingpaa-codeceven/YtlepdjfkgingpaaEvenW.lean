/-
  The walk of CodecEven.
-/
import Derived.Test.YtlepdjfkgingpaaWalkG
import Derived.Test.YtlepdjfkgingpaaMathB
import Derived.Test.YtlepdjfkgingpaaUtilB
namespace Go.Proofs.Ytlepdjfkgingpaa
open Go.RowKit Go.GrainU

set_option maxHeartbeats 1000000 in
theorem even_out (a s n v : Int) (w : World) (h : n < 3 ∨ 100 < n ∨ s < 1 ∨ 1000 < s ∨ a < 0 ∨ 100000 < a ∨ v < -1000 ∨ 1000 < v) :
    Calls Try.prog 5 #[.int .i64 a, .int .i64 s, .int .i64 n, .int .i64 v] w fun e w' => e = .returned (.bool true) ∧ Below w.heap.size w w' := by
  have h' : n < 3 ∨ (3 ≤ n ∧ 100 < n) ∨ (3 ≤ n ∧ n ≤ 100 ∧ s < 1) ∨ (3 ≤ n ∧ n ≤ 100 ∧ 1 ≤ s ∧ 1000 < s) ∨ (3 ≤ n ∧ n ≤ 100 ∧ 1 ≤ s ∧ s ≤ 1000 ∧ a < 0) ∨ (3 ≤ n ∧ n ≤ 100 ∧ 1 ≤ s ∧ s ≤ 1000 ∧ 0 ≤ a ∧ 100000 < a) ∨
      (3 ≤ n ∧ n ≤ 100 ∧ 1 ≤ s ∧ s ≤ 1000 ∧ 0 ≤ a ∧ a ≤ 100000 ∧ v < -1000) ∨ (3 ≤ n ∧ n ≤ 100 ∧ 1 ≤ s ∧ s ≤ 1000 ∧ 0 ≤ a ∧ a ≤ 100000 ∧ -1000 ≤ v ∧ 1000 < v) := by omega
  clear h
  rcases h' with h1 | ⟨h1, h2⟩ | ⟨h1, h2, h3⟩ | ⟨h1, h2, h3, h4⟩ | ⟨h1, h2, h3, h4, h5⟩ | ⟨h1, h2, h3, h4, h5, h6⟩ | ⟨h1, h2, h3, h4, h5, h6, h7⟩ | ⟨h1, h2, h3, h4, h5, h6, h7, h8⟩
  all_goals
    go_enter Try.func5, Try.ntmps5
    go_wp2_with (go_at_call 14; refine (alive_any _).mono ?_; rintro e w1 ⟨rfl, hb1⟩)
    go_ret
    exact ⟨rfl, hb1⟩

set_option maxHeartbeats 1000000 in
theorem even_in (a s v : Int) (n : Nat) (w : World) (h1 : 3 ≤ n) (h2 : n ≤ 100) (h3 : 1 ≤ s) (h4 : s ≤ 1000) (h5 : 0 ≤ a) (h6 : a ≤ 100000) (h7 : -1000 ≤ v) (h8 : v ≤ 1000) :
    Calls Try.prog 5 #[.int .i64 a, .int .i64 s, .int .i64 n, .int .i64 v] w fun e w' => e = .returned (.bool true) ∧ Below w.heap.size w w' := by
  obtain ⟨i0, hi, hz0, hz1, hz2⟩ := info_parts Try.info36
  go_enter Try.func5, Try.ntmps5
  go_wp2_with (go_at_call 14; refine (alive_any _).mono ?_; rintro e w1 ⟨rfl, hb1⟩)
  go_loopw [9, 48] (fun lst i wr => ∃ (k : Nat), k ≤ n ∧ i = .int .i64 k ∧ wr.ownsRow w.heap.size 36 2 lst k (scells (Grain.ev a s v k)) ∧ Below w.heap.size w wr) (fun _ i _ => n - (intOf i).toNat)
  case atStart => exact ⟨0, Nat.zero_le _, rfl, World.ownsRow_nil _ _ _ _, hb1⟩
  case round =>
    obtain ⟨k, hk, rfl, own, bel⟩ := hrel
    have hsz := bel.size
    by_cases hlt : k < n
    · have m1 : (k : Int) * s ≤ 100 * 1000 := Int.mul_le_mul (by omega) h4 (by omega) (by omega)
      have m2 : 0 ≤ (k : Int) * s := Int.mul_nonneg (by omega) (by omega)
      go_wp2_with (at_builtin; refine wpList_append_lies _ rfl _ _ 22 rfl w.heap.size 36 i0 (.agg #[.int .i64 0, .int .i64 0]) 2 16 Try.underlying22 hi hz0 hz1 hz2 rfl (by decide) _ _ _ rfl (own.alloc _) ⟨wr.heap.size, 0, none⟩ 1 1 [.int .i64 (a + k * s), .int .i64 v] rfl rfl (news_two rfl _ _ _) (by simp [Value.oneCell']) (by decide) (by unfold maxLen; omega) (by omega) (by simp; omega) (wr.heap.size + 1) (by simp) ?_)
      intro g1 cp1 w5 own6 gr6 hat6 hlt6
      have own7 : w5.ownsRow w.heap.size 36 2 (.slice (some ⟨g1, 0, none⟩) (k + 1) cp1) (k + 1) (scells (Grain.ev a s v (k + 1))) := by
        rw [Grain.ev_succ, scells_append]; exact own6
      have bel7 : Below w.heap.size w w5 := (bel.alloc hsz _).grown gr6 (by simp; omega) (fun j hj => (own.lt j hj).1)
      clear own6 gr6 hat6 own
      go_wp2
      go_roundw
      case rel => exact ⟨k + 1, by omega, by go_num, own7, bel7⟩
      case measure => simp [intOf]; omega
    · have he : k = n := by omega
      subst he
      obtain ⟨g, cp, rfl, hg1, hg2⟩ := own.form (by omega)
      go_wp2_with fail
      refine (bytes_yes_len (Grain.ev a s v k) (some ⟨g, 0, none⟩) k cp _ (own_seg own) (Grain.ev_len _ _ _ _).symm (by rw [Grain.wrong_of_right (Grain.ev_right h5 h6 h3 h4 h2 h7 h8)])).mono ?_
      rintro e w2 ⟨g2, N2, c2, rfl, own2, hb2⟩
      have hcp := (own_cap own).1
      have bel2 := bel.trans (hb2.mono hsz)
      have hs2 := bel2.size
      have seg2 : Seg (w2.alloc (.cells #[.int .i64 0, .int .i64 0] 26)) (some ⟨g, 0, none⟩) (scells (Grain.ev a s v 2)) := by
        rw [← Grain.ev_take (n := k) (by omega), scells_take]
        exact (own_seg ((own_below own hb2).alloc _)).take _
      have HN2 := hide (own_len own2)
      clear own own2 hb2
      go_wp2_with fail
      refine (bytes_yes_len (Grain.ev a s v 2) (some ⟨g, 0, none⟩) 2 cp _ seg2 (Grain.ev_len _ _ _ _).symm (by rw [Grain.wrong_of_right (Grain.ev_right h5 h6 h3 h4 (by omega) h7 h8)])).mono ?_
      rintro e w3 ⟨g3, N3, c3, rfl, own3, hb3⟩
      have hN3 := own_len own3
      have F3 := below_block hb3 (heap_alloc_new w2 (.cells #[.int .i64 0, .int .i64 0] 26))
      have bel3 : Below w.heap.size w w3 := (bel2.alloc hs2 _).trans (hb3.mono (by simp; omega))
      have hs3 := bel3.size
      obtain ⟨f0, _, _, _⟩ := two_cells F3
      have lt3 := lt_of_block F3
      have hN2 := HN2.out
      obtain ⟨b1, b2⟩ := Grain.ev_bytes (a := a) (s := s) (v := v) h1 h2
      rw [← hN2, ← hN3] at b1 b2
      have q1 : 2 * ((k : Int) - 2) ≤ (N2 : Int) - N3 := by omega
      have q2 : (N2 : Int) - N3 ≤ 2 * ((k : Int) - 2) + 1 := by omega
      have q3 : N2 ≤ 3000 := by
        have := Grain.upTo_len (Grain.ev a s v k) k
        rw [hN2]; unfold Grain.bytes; rw [Grain.ev_len]; omega
      have q4 : N3 ≤ 3000 := by omega
      clear own3 hb3 hN2 hN3 HN2 b1 b2 F3 seg2
      go_wp2
      go_ret
      exact ⟨ret_bool (by simp), bel3.alloc hs3 _⟩

end Go.Proofs.Ytlepdjfkgingpaa
