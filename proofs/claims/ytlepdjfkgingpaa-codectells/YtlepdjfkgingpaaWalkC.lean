/-
  The walk of Bytes.
-/
import Derived.Test.YtlepdjfkgingpaaWalkB
namespace Go.Proofs.Ytlepdjfkgingpaa
open Go.RowKit Go.GrainU

set_option maxHeartbeats 400000 in
theorem bytes_no (l : List (Int × Int)) (ao : Option Addr) (cap : Nat) (w : World) (hs : Seg w ao (scells l)) (hw : (Grain.wrong l).1 ≠ 0) :
    Calls Try.prog 7 #[.slice ao l.length cap] w fun e w' => e = .returned (.tuple #[.slice none 0 0, .agg #[.int .i64 (Grain.wrong l).1, .int .i64 (Grain.wrong l).2]]) ∧ Below w.heap.size w w' := by
  have hE : ((Grain.wrong l).1 == 0) = false := by simpa using hw
  go_enter Try.func7, Try.ntmps7
  go_wp2_with fail
  refine (wrong_any l ao cap _ (hs.below (by go_grown))).mono ?_
  rintro e w1 ⟨rfl, hb1⟩
  have hbel : Below w.heap.size w w1 := ((Below.refl _ _).alloc (Nat.le_refl _) _).trans (hb1.mono (by simp))
  have hres : w1.heap[w.heap.size]? = some (.cells #[.int .i64 0, .int .i64 0] 26 (0, 0)) := by
    rw [hb1.block _ (by simp)]; exact heap_alloc_new w _
  obtain ⟨r0, r1, r2, r3⟩ := two_cells hres
  have hB := lt_of_block hres
  clear hb1
  go_wp2
  go_region
  all_goals
    go_wp2
    refine bodyPost_ret (v := .tuple #[.slice none 0 0, .agg #[.int .i64 (Grain.wrong l).1, .int .i64 (Grain.wrong l).2]]) (by simp [results, Try.results7, go_sem, r0, r1, World.cell?_alloc_past, hB]) rfl ⟨rfl, ?_⟩
    go_grown

/-- what holds at the head of each round of Bytes -/
structure BInv (w : World) (l : List (Int × Int)) (A k g N c : Nat) (wr : World) : Prop where
  own : wr.ownsRow w.heap.size 5 1 (.slice (some ⟨g, 0, none⟩) N c) N (bcells (Grain.upTo l k))
  ahead : wr.heap[A]? = some (.cells #[.int .i64 (Grain.tp l k), .int .i64 (Grain.vp l k)] 36 (0, 0))
  res : wr.heap[w.heap.size]? = some (.cells #[.int .i64 0, .int .i64 0] 26 (0, 0))
  bel : Below w.heap.size w wr

theorem BInv.next {w : World} {l : List (Int × Int)} {A k g N c : Nat} {w4 : World}
    (own4 : w4.ownsRow w.heap.size 5 1 (.slice (some ⟨g, 0, none⟩) N c) N (bcells (Grain.upTo l k ++ Grain.num (Grain.tm l k - Grain.tp l k - Grain.sp l k) ++ Grain.num (Grain.vl l k - Grain.vp l k))))
    {x y : Value} (A4 : w4.heap[A]? = some (.cells #[x, y] 36 (0, 0))) (R4 : w4.heap[w.heap.size]? = some (.cells #[.int .i64 0, .int .i64 0] 26 (0, 0))) (B4 : Below w.heap.size w w4) (hA : w.heap.size ≤ A) :
    BInv w l A (k + 1) g N c ((w4.setCell ⟨A, 0, none⟩ (.int .i64 (Grain.tm l k))).setCell ⟨A, 1, none⟩ (.int .i64 (Grain.vl l k))) := by
  have hg := own_ne own4 A4 (by decide)
  have hr := blocks_ne R4 A4 (by decide)
  refine ⟨?_, two_set A4 _ _, ?_, (B4.setCell hA _).setCell hA _⟩
  · exact ownsRow_setCell_other (ownsRow_setCell_other own4 (by simp [Value.ownBlock]; omega) _) (by simp [Value.ownBlock]; omega) _
  · rw [setCell_far hr, setCell_far hr]; exact R4

set_option maxHeartbeats 1000000 in
theorem bytes_yes (l : List (Int × Int)) (ao : Option Addr) (cap : Nat) (w : World) (hs : Seg w ao (scells l)) (hw : (Grain.wrong l).1 = 0) :
    Calls Try.prog 7 #[.slice ao l.length cap] w fun e w' => ∃ g N cap', e = .returned (.tuple #[.slice (some ⟨g, 0, none⟩) N cap', .agg #[.int .i64 0, .int .i64 0]]) ∧
      w'.ownsRow w.heap.size 5 1 (.slice (some ⟨g, 0, none⟩) N cap') N (bcells (Grain.bytes l)) ∧ Below w.heap.size w w' := by
  have hR := Grain.right_of hw
  have h5 := hR.few
  have hz := Grain.wrong_zero hw
  clear hw
  go_enter Try.func7, Try.ntmps7
  go_wp2_with fail
  refine (wrong_any l ao cap _ (hs.below (by go_grown))).mono ?_
  rintro e w1 ⟨rfl, hb1⟩
  rw [hz]
  clear hz
  have hbel : Below w.heap.size w w1 := ((Below.refl _ _).alloc (Nat.le_refl _) _).trans (hb1.mono (by simp))
  have hres : w1.heap[w.heap.size]? = some (.cells #[.int .i64 0, .int .i64 0] 26 (0, 0)) := by
    rw [hb1.block _ (by simp)]; exact heap_alloc_new w _
  have hB := lt_of_block hres
  clear hb1
  go_wp2_with fail
  refine (appendNumber_any w.heap.size 0 (.slice none 0 0) [] l.length _ (World.ownsRow_nil _ _ _ _) (by simp; omega) (by omega) (by omega) (by omega)).mono ?_
  rintro e w2 ⟨g, N, c2, rfl, hown2, hgr2, hat2, hlt2⟩
  have hA : w.heap.size ≤ w2.heap.size := Nat.le_trans (Nat.le_trans (Nat.le_of_lt hB) (by simp)) hgr2.size
  have I0 : BInv w l w2.heap.size 0 g N c2 (w2.alloc (.cells #[.int .i64 0, .int .i64 0] 36)) := by
    have hr2 : w2.heap[w.heap.size]? = some (.cells #[.int .i64 0, .int .i64 0] 26 (0, 0)) := by
      rw [hgr2.block _ (by simp; omega) (by simp [Value.ownBlock]), Below.heap_alloc _ _ _ hB]; exact hres
    refine ⟨?_, heap_alloc_new w2 _, ?_, ?_⟩
    · simpa [Grain.upTo] using hown2.alloc _
    · rw [Below.heap_alloc _ _ _ (lt_of_block hr2)]; exact hr2
    · exact ((hbel.alloc (by omega) _).grown hgr2 (by simp; omega) (by simp [Value.ownBlock])).alloc hA _
  clear hown2 hgr2 hat2 hlt2 hbel hres hB
  go_wp2
  go_loopw [5, 7, 22] (fun b st i wr => ∃ k g N c : Nat, k ≤ l.length ∧ i = .int .i64 k ∧ b = .slice (some ⟨g, 0, none⟩) N c ∧ st = .int .i64 (Grain.sp l k) ∧ BInv w l w2.heap.size k g N c wr) (fun _ _ i _ => l.length - (intOf i).toNat)
  case atStart => exact ⟨0, g, N, c2, Nat.zero_le _, rfl, rfl, rfl, I0⟩
  case round =>
    clear I0
    obtain ⟨k, g, N, c, hk, rfl, rfl, rfl, I⟩ := hrel
    by_cases hlt : k < l.length
    · obtain ⟨t0, t1, v0, v1⟩ := hR.rng k hlt
      obtain ⟨p0, p1, q0, q1, s0, s1⟩ := hR.ahead k hlt
      obtain ⟨b, off, rfl, hcell⟩ := hs.sample hlt
      have hb : b < w.heap.size := World.block_lt_of_cell? w ⟨b, off + k * 2, none⟩ (hcell k hlt).1
      have c0 : wr.cell? ⟨b, off + k * 2, none⟩ = some (.int .i64 (Grain.tm l k)) := (I.bel.cell (by exact hb)).trans (hcell k hlt).1
      have c1 : wr.cell? ⟨b, off + k * 2 + 1, none⟩ = some (.int .i64 (Grain.vl l k)) := (I.bel.cell (by exact hb)).trans (hcell k hlt).2
      obtain ⟨a0, a1, a2, a3⟩ := two_cells I.ahead
      have hAl := lt_of_block I.ahead
      have hN : N ≤ 10010 := by have h1 := own_len I.own; have h2 := Grain.upTo_len l k; omega
      have hBl := lt_of_block I.res
      clear hcell
      go_wp2_with fail
      refine (appendNumber_any w.heap.size N _ (Grain.upTo l k) _ _ (I.own.alloc _) (by simp; omega) (by omega) (by omega) (by omega)).mono ?_
      rintro e w3 ⟨g3, N3, c3, rfl, own3, gr3, at3, lt3⟩
      have X3 := keep_other (I.own.alloc _) (heap_alloc_new wr (.cells #[.int .i64 (Grain.tm l k), .int .i64 (Grain.vl l k)] 36)) (by decide) gr3
      have A3 := keep_other (I.own.alloc _) ((Below.heap_alloc wr (.cells #[.int .i64 (Grain.tm l k), .int .i64 (Grain.vl l k)] 36) _ hAl).trans I.ahead) (by decide) gr3
      have R3 := keep_other (I.own.alloc _) ((Below.heap_alloc wr (.cells #[.int .i64 (Grain.tm l k), .int .i64 (Grain.vl l k)] 36) _ hBl).trans I.res) (by decide) gr3
      have B3 : Below w.heap.size w w3 := (I.bel.alloc (Nat.le_of_lt hBl) _).grown gr3 (by simp; omega) (fun j hj => by simp [Value.ownBlock] at hj; have := (own_block I.own).1; omega)
      have hN3 : N3 ≤ 10030 := by have h1 := own_len own3; have h2 := Grain.upTo_len l k; have h3 := Grain.num_len (Grain.tm l k - Grain.tp l k - Grain.sp l k); simp at h1; omega
      obtain ⟨x0, x1, _, _⟩ := two_cells X3
      clear a0 a1 a2 a3 I gr3 at3 c0 c1
      obtain ⟨a0, a1, a2, a3⟩ := two_cells A3
      have hs3 := lt_of_block R3
      go_wp2_with fail
      refine (appendNumber_any w.heap.size N3 _ (Grain.upTo l k ++ Grain.num (Grain.tm l k - Grain.tp l k - Grain.sp l k)) _ _ own3 (by omega) (by omega) (by omega) (by omega)).mono ?_
      rintro e w4 ⟨g4, N4, c4, rfl, own4, gr4, at4, lt4⟩
      have X4 := keep_other own3 X3 (by decide) gr4
      have A4 := keep_other own3 A3 (by decide) gr4
      have R4 := keep_other own3 R3 (by decide) gr4
      have B4 : Below w.heap.size w w4 := B3.grown gr4 (Nat.le_of_lt hs3) (fun j hj => by simp [Value.ownBlock] at hj; have := (own_block own3).1; omega)
      clear a0 a1 a2 a3 x0 x1 gr4 at4 own3 X3 A3 R3 B3
      obtain ⟨x0, x1, _, _⟩ := two_cells X4
      obtain ⟨a0, a1, a2, a3⟩ := two_cells A4
      go_wp2
      go_roundw
      case rel => exact ⟨k + 1, g4, N4, c4, by omega, by go_num, rfl, rfl, BInv.next own4 A4 R4 B4 hA⟩
      case measure => simp [intOf]; omega
    · obtain ⟨r0, r1, r2, r3⟩ := two_cells I.res
      have he : k = l.length := by omega
      subst he
      go_wp2
      refine bodyPost_ret (v := .tuple #[.slice (some ⟨g, 0, none⟩) N c, .agg #[.int .i64 0, .int .i64 0]]) (by simp [results, Try.results7, go_sem, r0, r1]) rfl ⟨g, N, c, rfl, ?_, (I.bel.setCell (Nat.le_refl _) _).setCell (Nat.le_refl _) _⟩
      have hg := own_ne I.own I.res (by decide)
      exact ownsRow_setCell_other (ownsRow_setCell_other I.own (by simp [Value.ownBlock]; omega) _) (by simp [Value.ownBlock]; omega) _

theorem bytes_yes_len (l : List (Int × Int)) (ao : Option Addr) (n cap : Nat) (w : World) (hs : Seg w ao (scells l)) (hn : n = l.length) (hw : (Grain.wrong l).1 = 0) :
    Calls Try.prog 7 #[.slice ao n cap] w fun e w' => ∃ g N cap', e = .returned (.tuple #[.slice (some ⟨g, 0, none⟩) N cap', .agg #[.int .i64 0, .int .i64 0]]) ∧
      w'.ownsRow w.heap.size 5 1 (.slice (some ⟨g, 0, none⟩) N cap') N (bcells (Grain.bytes l)) ∧ Below w.heap.size w w' := by
  subst hn; exact bytes_yes l ao cap w hs hw

theorem bytes_no_len (l : List (Int × Int)) (ao : Option Addr) (n cap : Nat) (w : World) (hs : Seg w ao (scells l)) (hn : n = l.length) (hw : (Grain.wrong l).1 ≠ 0) :
    Calls Try.prog 7 #[.slice ao n cap] w fun e w' => e = .returned (.tuple #[.slice none 0 0, .agg #[.int .i64 (Grain.wrong l).1, .int .i64 (Grain.wrong l).2]]) ∧ Below w.heap.size w w' := by
  subst hn; exact bytes_no l ao cap w hs hw

end Go.Proofs.Ytlepdjfkgingpaa
