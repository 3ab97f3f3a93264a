/-
  The walk of AggBounds.
-/
import Derived.Test.YthbllehncjeolabAggAlive
import Derived.Test.YthbllehncjeolabValueB
import Derived.Test.YthbllehncjeolabBoundsM
namespace Go.Proofs.Ythbllehncjeolab
open Go.RowKit Go.GrainU

/-- what the second loop of AggBounds keeps -/
structure BInv (w w2 : World) (J : Grain.Sm) (wr : World) : Prop where
  sum : SumAt wr w2.heap.size J
  wds : wr.heap[w2.heap.size + 1]? = some (.cells #[.string ⟨#[97, 118, 103]⟩, .string ⟨#[102, 105, 114, 115, 116]⟩, .string ⟨#[108, 97, 115, 116]⟩] 9 (0, 0))
  bel : Below w.heap.size w wr

theorem BInv.start {w w2 : World} (bel : Below w.heap.size w w2) (J : Grain.Sm) : BInv w w2 J ((w2.alloc (.cells #[.int .i64 J.c, .int .i64 J.t, .int .i64 J.mn, .int .i64 J.mx, .int .i64 J.f, .int .i64 J.l, .int .i64 J.r] 23)).alloc (.cells #[.string ⟨#[97, 118, 103]⟩, .string ⟨#[102, 105, 114, 115, 116]⟩, .string ⟨#[108, 97, 115, 116]⟩] 9)) := by
  have hs := bel.size
  refine ⟨?_, ?_, (bel.alloc hs _).alloc (by simp; omega) _⟩
  · show ((w2.alloc _).alloc _).heap[w2.heap.size]? = _
    rw [Below.heap_alloc _ _ _ (by simp)]; exact heap_alloc_new w2 _
  · have := heap_alloc_new (w2.alloc (.cells #[.int .i64 J.c, .int .i64 J.t, .int .i64 J.mn, .int .i64 J.mx, .int .i64 J.f, .int .i64 J.l, .int .i64 J.r] 23)) (.cells #[.string ⟨#[97, 118, 103]⟩, .string ⟨#[102, 105, 114, 115, 116]⟩, .string ⟨#[108, 97, 115, 116]⟩] 9)
    rw [show (w2.alloc (.cells #[.int .i64 J.c, .int .i64 J.t, .int .i64 J.mn, .int .i64 J.mx, .int .i64 J.f, .int .i64 J.l, .int .i64 J.r] 23)).heap.size = w2.heap.size + 1 from by simp] at this
    exact this

theorem BInv.call {w w2 wr w' : World} {J : Grain.Sm} (I : BInv w w2 J wr) (hb : Below wr.heap.size wr w') : BInv w w2 J w' :=
  ⟨I.sum.below hb, below_block hb I.wds, I.bel.trans (hb.mono I.bel.size)⟩

theorem BInv.words {w w2 wr : World} {J : Grain.Sm} (I : BInv w w2 J wr) : wr.cell? ⟨w2.heap.size + 1, 0, none⟩ = some (.string ⟨#[97, 118, 103]⟩) ∧ wr.cell? ⟨w2.heap.size + 1, 1, none⟩ = some (.string ⟨#[102, 105, 114, 115, 116]⟩) ∧ wr.cell? ⟨w2.heap.size + 1, 2, none⟩ = some (.string ⟨#[108, 97, 115, 116]⟩) := by
  have h := I.wds
  simp [World.cell?, h]

set_option maxHeartbeats 2000000 in
theorem bounds_any (l : List (Int × Int)) (ao : Option Addr) (n cap : Nat) (w : World) (hs : Seg w ao (scells l)) (hn : n = l.length) (hL : n ≤ 1048576) :
    Calls Try.prog 4 #[.slice ao n cap] w fun e w' => e = .returned (.bool true) ∧ Below w.heap.size w w' := by
  have Hn := hide hn
  clear hn
  go_enter Try.func4, Try.ntmps4
  go_wp2_with (go_at_call 6; refine (alive_any _).mono ?_; rintro e w1 ⟨rfl, hb1⟩)
  go_loopw [14] (fun i wr => ∃ (k : Nat), k ≤ n ∧ i = .int .i64 k ∧ Hid (∀ j, j < k → -1000000000 ≤ Grain.vl l j ∧ Grain.vl l j ≤ 1000000000) ∧ Below w.heap.size w wr) (fun i _ => n - (intOf i).toNat)
  case atStart => exact ⟨0, Nat.zero_le _, rfl, (fun j hj => by omega), hb1⟩
  case round =>
    obtain ⟨k, hk, rfl, HR, bel⟩ := hrel
    have hsz := bel.size
    by_cases hlt : k < n
    · obtain ⟨b, off, rfl, hcell⟩ := hs.sample (k := k) (by rw [← Hn.out]; exact hlt)
      have hk' : k < l.length := by rw [← Hn.out]; exact hlt
      have hb : b < w.heap.size := World.block_lt_of_cell? w ⟨b, off + k * 2, none⟩ (hcell k hk').1
      have c0 : wr.cell? ⟨b, off + k * 2, none⟩ = some (.int .i64 (Grain.tm l k)) := (bel.cell (by exact hb)).trans (hcell k hk').1
      have c1 : wr.cell? ⟨b, off + k * 2 + 1, none⟩ = some (.int .i64 (Grain.vl l k)) := (bel.cell (by exact hb)).trans (hcell k hk').2
      clear hcell hk'
      by_cases h1 : Grain.vl l k < -1000000000
      · go_wp2
        go_ret
        exact ⟨rfl, bel.alloc hsz _⟩
      · by_cases h2 : 1000000000 < Grain.vl l k
        · go_wp2
          go_ret
          exact ⟨rfl, bel.alloc hsz _⟩
        · have HR' : Hid (∀ j, j < k + 1 → -1000000000 ≤ Grain.vl l j ∧ Grain.vl l j ≤ 1000000000) := by
            intro j hj
            rcases (show j < k ∨ j = k from by omega) with h | h
            · exact HR.out j h
            · subst h; omega
          have bel' := bel.alloc hsz (.cells #[.int .i64 (Grain.tm l k), .int .i64 (Grain.vl l k)] 29)
          clear HR
          go_wp2
          go_roundw
          case rel => exact ⟨k + 1, by omega, by go_num, HR', bel'⟩
          case measure => simp [intOf]; omega
    · have he : k = n := by omega
      subst he
      go_wp2_with fail
      refine (of_len l ao k cap _ (hs.below bel) Hn.out (by omega)).mono ?_
      rintro e w2 ⟨J, HJ, rfl, hb2⟩
      have bel2 := bel.trans (hb2.mono hsz)
      have hs2 := bel2.size
      clear hb2 bel hb1
      rcases Nat.eq_zero_or_pos k with h0 | h0
      · subst h0
        have hJ : J = Grain.zero := by rw [HJ.out]; unfold Grain.of; rw [← Hn.out]; rfl
        subst hJ
        simp only [Grain.zero]
        go_wp2
        go_ret
        exact ⟨rfl, bel2.alloc hs2 _⟩
      · have B : Grain.Bd k J := by
          rw [HJ.out]; unfold Grain.of; rw [← Hn.out]
          exact Grain.ofN_bd l k h0 (by omega) HR.out
        have hq : (((k : Nat) : Int) == 0) = false := by simp; omega
        have hc1 : 1 ≤ J.c := by rw [B.c]; omega
        obtain ⟨a0, a1⟩ := B.avg h0
        obtain ⟨g, lo, hi, ft0, ft1, l0, l1⟩ : J.c = k ∧ J.mn * J.c ≤ J.t ∧ J.t ≤ J.mx * J.c ∧ (J.mn ≤ J.f ∧ J.f ≤ J.mx) ∧ (J.mn ≤ J.l ∧ J.l ≤ J.mx) ∧ -1000000000 ≤ J.mn ∧ J.mx ≤ 1000000000 :=
          ⟨B.c, by rw [B.c]; exact B.lo, by rw [B.c]; exact B.hi, ⟨B.f0, B.f1⟩, ⟨B.l0, B.l1⟩, B.m0, B.m1⟩
        have r0 : -1048576000000000 ≤ J.mn * J.c ∧ J.mn * J.c ≤ 1048576000000000 := by rw [B.c]; exact Grain.mul_room l0 (by omega) hL
        have r1 : -1048576000000000 ≤ J.mx * J.c ∧ J.mx * J.c ≤ 1048576000000000 := by rw [B.c]; exact Grain.mul_room (by omega) l1 hL
        clear HR HJ B
        obtain ⟨jc, jt, jn, jx, jf, jl, jr⟩ := J
        simp only at hc1 a0 a1 g lo hi ft0 ft1 l0 l1 r0 r1 ⊢
        subst g
        have IS := BInv.start bel2 ⟨k, jt, jn, jx, jf, jl, jr⟩
        simp only at IS
        clear bel2
        go_wp2
        go_loopw [37] (fun i wr => ∃ (m : Nat), m ≤ 3 ∧ i = .int .i64 m ∧ BInv w w2 ⟨k, jt, jn, jx, jf, jl, jr⟩ wr) (fun i _ => 3 - (intOf i).toNat)
        case atStart => exact ⟨0, Nat.zero_le _, rfl, IS⟩
        case round =>
          obtain ⟨m, hm, rfl, I⟩ := hrel
          obtain ⟨s0, s1, s2, s3, s4, s5, s6⟩ := I.sum.cells
          obtain ⟨y0, y1, y2⟩ := I.words
          simp only at s0 s1 s2 s3 s4 s5 s6
          rcases (show m = 0 ∨ m = 1 ∨ m = 2 ∨ m = 3 from by omega) with h | h | h | h
          · subst h
            go_wp2_with fail
            refine (value_avg ⟨k, jt, jn, jx, jf, jl, jr⟩ _ hc1 (by show -9223372036854775808 ≤ jt; omega) (by show jt ≤ 9223372036854775807; omega)).mono ?_
            rintro e w3 ⟨rfl, hb3⟩
            have I3 := I.call hb3
            have z2 := I3.sum.cells.2.2.1
            have z3 := I3.sum.cells.2.2.2.1
            simp only at z2 z3
            clear hb3 I s0 s1 s2 s3 s4 s5 s6 y0 y1 y2
            go_wp2
            go_roundw
            case rel => exact ⟨0 + 1, by omega, by go_num, I3⟩
            case measure => simp [intOf]
          · subst h
            go_wp2_with fail
            refine (value_first ⟨k, jt, jn, jx, jf, jl, jr⟩ _ hc1).mono ?_
            rintro e w3 ⟨rfl, hb3⟩
            have I3 := I.call hb3
            have z2 := I3.sum.cells.2.2.1
            have z3 := I3.sum.cells.2.2.2.1
            simp only at z2 z3
            clear hb3 I s0 s1 s2 s3 s4 s5 s6 y0 y1 y2
            go_wp2
            go_roundw
            case rel => exact ⟨1 + 1, by omega, by go_num, I3⟩
            case measure => simp [intOf]
          · subst h
            go_wp2_with fail
            refine (value_last ⟨k, jt, jn, jx, jf, jl, jr⟩ _ hc1).mono ?_
            rintro e w3 ⟨rfl, hb3⟩
            have I3 := I.call hb3
            have z2 := I3.sum.cells.2.2.1
            have z3 := I3.sum.cells.2.2.2.1
            simp only at z2 z3
            clear hb3 I s0 s1 s2 s3 s4 s5 s6 y0 y1 y2
            go_wp2
            go_roundw
            case rel => exact ⟨2 + 1, by omega, by go_num, I3⟩
            case measure => simp [intOf]
          · subst h
            have belZ := I.bel
            clear I
            go_wp2
            go_ret
            exact ⟨ret_bool (by simp), belZ⟩

end Go.Proofs.Ythbllehncjeolab
