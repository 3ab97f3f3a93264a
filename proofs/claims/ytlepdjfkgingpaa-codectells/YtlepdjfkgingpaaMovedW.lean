/-
  The walk of CodecMoved.
-/
import Derived.Test.YtlepdjfkgingpaaWalkG
import Derived.Test.YtlepdjfkgingpaaMathC
import Derived.Test.YtlepdjfkgingpaaUtilB
namespace Go.Proofs.Ytlepdjfkgingpaa
open Go.RowKit Go.GrainU

set_option maxHeartbeats 1000000 in
theorem moved_out (ao : Option Addr) (n cap : Nat) (d : Int) (w : World) (h : d < 0 ∨ 1000000 < d ∨ n < 1) :
    Calls Try.prog 6 #[.slice ao n cap, .int .i64 d] w fun e w' => e = .returned (.bool true) ∧ Below w.heap.size w w' := by
  have h' : d < 0 ∨ (0 ≤ d ∧ 1000000 < d) ∨ (0 ≤ d ∧ d ≤ 1000000 ∧ n < 1) := by omega
  clear h
  rcases h' with h1 | ⟨h1, h2⟩ | ⟨h1, h2, h3⟩
  all_goals
    go_enter Try.func6, Try.ntmps6
    go_wp2_with (go_at_call 14; refine (alive_any _).mono ?_; rintro e w1 ⟨rfl, hb1⟩)
    go_ret
    exact ⟨rfl, hb1⟩

/-- samples' bytes, or none where they are wrong -/
def bytesR (l : List (Int × Int)) : List Int := if (Grain.wrong l).1 = 0 then Grain.bytes l else []

theorem bytes_all (l : List (Int × Int)) (ao : Option Addr) (n cap : Nat) (w : World) (hs : Seg w ao (scells l)) (hn : n = l.length) :
    Calls Try.prog 7 #[.slice ao n cap] w fun e w' => ∃ o N c, e = .returned (.tuple #[.slice o N c, .agg #[.int .i64 (Grain.wrong l).1, .int .i64 (Grain.wrong l).2]]) ∧
      w'.ownsRow w.heap.size 5 1 (.slice o N c) N (bcells (bytesR l)) ∧ Below w.heap.size w w' := by
  by_cases h : (Grain.wrong l).1 = 0
  · refine (bytes_yes_len l ao n cap w hs hn h).mono ?_
    rintro e w' ⟨g, N, c, rfl, own, bel⟩
    rw [Grain.wrong_zero h]
    exact ⟨_, N, c, rfl, by unfold bytesR; rw [if_pos h]; exact own, bel⟩
  · refine (bytes_no_len l ao n cap w hs hn h).mono ?_
    rintro e w' ⟨rfl, bel⟩
    exact ⟨none, 0, 0, rfl, by unfold bytesR; rw [if_neg h]; exact World.ownsRow_nil _ _ _ _, bel⟩

set_option maxHeartbeats 2000000 in
theorem moved_in (l : List (Int × Int)) (ao : Option Addr) (n cap : Nat) (d : Int) (w : World) (hs : Seg w ao (scells l)) (hn : n = l.length) (hr : n * 16 ≤ 140737488351232) (h1 : 0 ≤ d) (h2 : d ≤ 1000000) (h3 : 1 ≤ n) :
    Calls Try.prog 6 #[.slice ao n cap, .int .i64 d] w fun e w' => e = .returned (.bool true) ∧ Below w.heap.size w w' := by
  obtain ⟨i0, hi, hz0, hz1, hz2⟩ := info_parts Try.info36
  have HN := hide hn
  clear hn
  go_enter Try.func6, Try.ntmps6
  go_wp2_with (go_at_call 14; refine (alive_any _).mono ?_; rintro e w1 ⟨rfl, hb1⟩)
  go_loopw [5, 27] (fun lst i wr => ∃ (k : Nat), k ≤ n ∧ i = .int .i64 k ∧ wr.ownsRow w.heap.size 36 2 lst k (scells (Grain.mv d (l.take k))) ∧ Below w.heap.size w wr) (fun _ i _ => n - (intOf i).toNat)
  case atStart => exact ⟨0, Nat.zero_le _, rfl, World.ownsRow_nil _ _ _ _, hb1⟩
  case round =>
    obtain ⟨k, hk, rfl, own, bel⟩ := hrel
    have hsz := bel.size
    by_cases hlt : k < n
    · obtain ⟨b, off, rfl, hcell⟩ := hs.sample (k := k) (by rw [← HN.out]; exact hlt)
      have hb : b < w.heap.size := World.block_lt_of_cell? w ⟨b, off + k * 2, none⟩ (hcell k (by rw [← HN.out]; exact hlt)).1
      have c0 : wr.cell? ⟨b, off + k * 2, none⟩ = some (.int .i64 (Grain.tm l k)) := (bel.cell (by exact hb)).trans (hcell k (by rw [← HN.out]; exact hlt)).1
      have c1 : wr.cell? ⟨b, off + k * 2 + 1, none⟩ = some (.int .i64 (Grain.vl l k)) := (bel.cell (by exact hb)).trans (hcell k (by rw [← HN.out]; exact hlt)).2
      have HT := hide (Grain.mv_take_succ (d := d) (l := l) (k := k) (by rw [← HN.out]; exact hlt))
      clear hcell
      by_cases ht : 1000000 < Grain.tm l k
      · go_wp2
        go_ret
        exact ⟨rfl, bel.alloc hsz _⟩
      · by_cases ht' : Grain.tm l k < 0
        · go_wp2
          go_ret
          exact ⟨rfl, bel.alloc hsz _⟩
        · go_wp2_with (at_builtin; refine wpList_append_lies _ rfl _ _ 22 rfl w.heap.size 36 i0 (.agg #[.int .i64 0, .int .i64 0]) 2 16 Try.underlying22 hi hz0 hz1 hz2 rfl (by decide) _ _ _ rfl ((own.alloc _).alloc _) ⟨wr.heap.size + 1, 0, none⟩ 1 1 [.int .i64 (Grain.tm l k + d), .int .i64 (Grain.vl l k)] rfl rfl (news_two (by simp) _ _ _) (by simp [Value.oneCell']) (by decide) (by unfold maxLen; omega) (by omega) (by simp; omega) (wr.heap.size + 2) (by simp) ?_)
          intro g1 cp1 w5 own6 gr6 hat6 hlt6
          have own7 : w5.ownsRow w.heap.size 36 2 (.slice (some ⟨g1, 0, none⟩) (k + 1) cp1) (k + 1) (scells (Grain.mv d (l.take (k + 1)))) := by
            rw [HT.out, scells_append]; exact own6
          have bel7 : Below w.heap.size w w5 := ((bel.alloc hsz _).alloc (by simp; omega) _).grown gr6 (by simp; omega) (fun j hj => (own.lt j hj).1)
          clear own6 gr6 hat6 own HT
          go_wp2
          go_roundw
          case rel => exact ⟨k + 1, by omega, by go_num, own7, bel7⟩
          case measure => simp [intOf]; omega
    · have he : k = n := by omega
      subst he
      obtain ⟨g, cp, rfl, hg1, hg2⟩ := own.form (by omega)
      have HT := hide (List.take_of_length_le (i := k) (l := l) (by rw [← HN.out]; omega))
      rw [HT.out] at own
      go_wp2_with fail
      refine (bytes_all l ao k cap _ (hs.below bel) HN.out).mono ?_
      rintro e w2 ⟨o2, N2, c2, rfl, own2, hb2⟩
      have bel2 := bel.trans (hb2.mono hsz)
      have hs2 := bel2.size
      have seg2 : Seg (w2.alloc (.cells #[.int .i64 (Grain.wrong l).1, .int .i64 (Grain.wrong l).2] 26)) (some ⟨g, 0, none⟩) (scells (Grain.mv d l)) := own_seg ((own_below own hb2).alloc _)
      have HN2 := hide (own_len own2)
      clear own own2 hb2
      go_wp2_with fail
      refine (bytes_all (Grain.mv d l) (some ⟨g, 0, none⟩) k cp _ seg2 (by rw [Grain.mv_len]; exact HN.out)).mono ?_
      rintro e w3 ⟨o3, N3, c3, rfl, own3, hb3⟩
      have HN3 := hide (own_len own3)
      have F3 := below_block hb3 (heap_alloc_new w2 (.cells #[.int .i64 (Grain.wrong l).1, .int .i64 (Grain.wrong l).2] 26))
      have bel3 : Below w.heap.size w w3 := (bel2.alloc hs2 _).trans (hb3.mono (by simp; omega))
      have hs3 := bel3.size
      obtain ⟨f0, _, _, _⟩ := two_cells F3
      have lt3 := lt_of_block F3
      clear own3 hb3 F3 seg2
      by_cases e1 : (Grain.wrong l).1 = 0
      · by_cases e2 : (Grain.wrong (Grain.mv d l)).1 = 0
        · have r1 := Grain.right_of e1
          have r2 := Grain.right_of e2
          have b1 := Grain.mv_bytes r1 r2
          have b2 := Grain.bytes_len r1
          have b3 := Grain.bytes_len r2
          have n2 := HN2.out
          have n3 := HN3.out
          unfold bytesR at n2 n3
          rw [if_pos e1] at n2
          rw [if_pos e2] at n3
          rw [← n2] at b1 b2
          rw [← n3] at b1 b3
          have q1 := b1.1
          have q2 := b1.2
          have z1 : ((Grain.wrong l).1 != 0) = false := by simpa using e1
          have z2 : ((Grain.wrong (Grain.mv d l)).1 != 0) = false := by simpa using e2
          clear n2 n3 HN2 HN3 e1 e2 b1
          go_wp2
          go_ret
          refine ⟨ret_bool ?_, bel3.alloc hs3 _⟩
          simp
          try omega
        · have z1 : ((Grain.wrong l).1 != 0) = false := by simpa using e1
          have z2 : ((Grain.wrong (Grain.mv d l)).1 != 0) = true := by simpa using e2
          clear e1 e2
          go_wp2
          go_ret
          exact ⟨rfl, bel3.alloc hs3 _⟩
      · have z1 : ((Grain.wrong l).1 != 0) = true := by simpa using e1
        clear e1
        go_wp2
        go_ret
        exact ⟨rfl, bel3.alloc hs3 _⟩

end Go.Proofs.Ytlepdjfkgingpaa
