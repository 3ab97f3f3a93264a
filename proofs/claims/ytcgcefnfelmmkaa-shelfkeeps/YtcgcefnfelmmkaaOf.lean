/-
  The walk of Of: what samples come to, one by one.
-/
import Derived.Test.YtcgcefnfelmmkaaJoin
namespace Go.Proofs.Ytcgcefnfelmmkaa
open Go.RowKit Go.GrainU

theorem join_let (a b : Grain.Sm) (w : World) :
    Calls Try.prog 39 #[sv a, sv b] w fun e w' => ∃ J : Grain.Sm, Hid (J = Grain.join a b) ∧ e = .returned (.agg #[.int .i64 J.c, .int .i64 J.t, .int .i64 J.mn, .int .i64 J.mx, .int .i64 J.f, .int .i64 J.l, .int .i64 J.r]) ∧ Below w.heap.size w w' :=
  (join_any a b w).mono fun _ _ h => ⟨_, rfl, h.1, h.2⟩

/-- a block that holds a sum -/
def SumAt (w : World) (B : Nat) (s : Grain.Sm) : Prop :=
  w.heap[B]? = some (.cells #[.int .i64 s.c, .int .i64 s.t, .int .i64 s.mn, .int .i64 s.mx, .int .i64 s.f, .int .i64 s.l, .int .i64 s.r] 47 (0, 0))

theorem SumAt.below {w w' : World} {B : Nat} {s : Grain.Sm} (h : SumAt w B s) (hb : Below w.heap.size w w') : SumAt w' B s := below_block hb h

/-- what the cells of a sum hold -/
def SumCells (w : World) (B : Nat) (s : Grain.Sm) : Prop :=
  w.cell? ⟨B, 0, none⟩ = some (.int .i64 s.c) ∧ w.cell? ⟨B, 1, none⟩ = some (.int .i64 s.t) ∧ w.cell? ⟨B, 2, none⟩ = some (.int .i64 s.mn) ∧ w.cell? ⟨B, 3, none⟩ = some (.int .i64 s.mx) ∧ w.cell? ⟨B, 4, none⟩ = some (.int .i64 s.f) ∧ w.cell? ⟨B, 5, none⟩ = some (.int .i64 s.l) ∧ w.cell? ⟨B, 6, none⟩ = some (.int .i64 s.r)

theorem SumAt.cells {w : World} {B : Nat} {s : Grain.Sm} (h : SumAt w B s) : SumCells w B s := seven_cells h

theorem SumAt.set {w : World} {B : Nat} {s : Grain.Sm} (h : SumAt w B s) (J : Grain.Sm) :
    SumAt (((((((w.setCell ⟨B, 0, none⟩ (.int .i64 J.c)).setCell ⟨B, 1, none⟩ (.int .i64 J.t)).setCell ⟨B, 2, none⟩ (.int .i64 J.mn)).setCell ⟨B, 3, none⟩ (.int .i64 J.mx)).setCell ⟨B, 4, none⟩ (.int .i64 J.f)).setCell ⟨B, 5, none⟩ (.int .i64 J.l)).setCell ⟨B, 6, none⟩ (.int .i64 J.r)) B J := by
  unfold SumAt at h ⊢
  simp [World.setCell, Array.getElem?_modify, h]

theorem SumAt.far {w : World} {B C : Nat} {s : Grain.Sm} (h : SumAt w C s) (hn : C ≠ B) (v0 v1 v2 v3 v4 v5 v6 : Value) :
    SumAt (((((((w.setCell ⟨B, 0, none⟩ v0).setCell ⟨B, 1, none⟩ v1).setCell ⟨B, 2, none⟩ v2).setCell ⟨B, 3, none⟩ v3).setCell ⟨B, 4, none⟩ v4).setCell ⟨B, 5, none⟩ v5).setCell ⟨B, 6, none⟩ v6) C s := by
  unfold SumAt at h ⊢
  rw [setCell_far hn, setCell_far hn, setCell_far hn, setCell_far hn, setCell_far hn, setCell_far hn, setCell_far hn]
  exact h

theorem below_set7 {w W : World} {A C : Nat} (bel : Below A w W) (hC : A ≤ C) (v0 v1 v2 v3 v4 v5 v6 : Value) :
    Below A w (((((((W.setCell ⟨C, 0, none⟩ v0).setCell ⟨C, 1, none⟩ v1).setCell ⟨C, 2, none⟩ v2).setCell ⟨C, 3, none⟩ v3).setCell ⟨C, 4, none⟩ v4).setCell ⟨C, 5, none⟩ v5).setCell ⟨C, 6, none⟩ v6) :=
  ((((((bel.setCell hC _).setCell hC _).setCell hC _).setCell hC _).setCell hC _).setCell hC _).setCell hC _

/-- what the loop of Of keeps -/
structure OfInv (w wr : World) (s : Grain.Sm) : Prop where
  res : SumAt wr w.heap.size Grain.zero
  cur : SumAt wr (w.heap.size + 1) s
  bel : Below w.heap.size w wr

theorem OfInv.start (w : World) : OfInv w ((w.alloc (.cells #[.int .i64 0, .int .i64 0, .int .i64 0, .int .i64 0, .int .i64 0, .int .i64 0, .int .i64 0] 47)).alloc (.cells #[.int .i64 0, .int .i64 0, .int .i64 0, .int .i64 0, .int .i64 0, .int .i64 0, .int .i64 0] 47)) Grain.zero := by
  refine ⟨?_, ?_, ?_⟩
  · show ((w.alloc _).alloc _).heap[w.heap.size]? = _
    rw [Below.heap_alloc _ _ _ (by simp)]; exact heap_alloc_new w _
  · have := heap_alloc_new (w.alloc (.cells #[.int .i64 0, .int .i64 0, .int .i64 0, .int .i64 0, .int .i64 0, .int .i64 0, .int .i64 0] 47)) (.cells #[.int .i64 0, .int .i64 0, .int .i64 0, .int .i64 0, .int .i64 0, .int .i64 0, .int .i64 0] 47)
    have e : (w.alloc (.cells #[.int .i64 0, .int .i64 0, .int .i64 0, .int .i64 0, .int .i64 0, .int .i64 0, .int .i64 0] 47)).heap.size = w.heap.size + 1 := by simp
    rw [e] at this
    exact this
  · exact ((Below.refl _ _).alloc (Nat.le_refl _) _).alloc (by simp) _

theorem OfInv.next {w wr : World} {s : Grain.Sm} (I : OfInv w wr s) (t v : Value) : ∃ V, V = wr.alloc (.cells #[t, v] 29) ∧ OfInv w V s ∧ V.heap[wr.heap.size]? = some (.cells #[t, v] 29 (0, 0)) ∧ w.heap.size + 2 ≤ wr.heap.size ∧ V.heap.size = wr.heap.size + 1 := by
  have h2 := lt_of_block I.cur
  have h1 := lt_of_block I.res
  refine ⟨_, rfl, ⟨?_, ?_, I.bel.alloc (by omega) _⟩, heap_alloc_new wr _, by omega, by simp⟩
  · show (wr.alloc _).heap[_]? = _
    rw [Below.heap_alloc _ _ _ h1]; exact I.res
  · show (wr.alloc _).heap[_]? = _
    rw [Below.heap_alloc _ _ _ h2]; exact I.cur

theorem OfInv.call {w V w' : World} {s : Grain.Sm} (I : OfInv w V s) (hb : Below V.heap.size V w') : OfInv w w' s :=
  ⟨I.res.below hb, I.cur.below hb, I.bel.trans (hb.mono I.bel.size)⟩

theorem OfInv.drew {w V : World} {s : Grain.Sm} (I : OfInv w V s) : OfInv w V.drew s := ⟨I.res, I.cur, below_drewN I.bel 1⟩

theorem OfInv.store {w V : World} {s : Grain.Sm} (I : OfInv w V s) (J : Grain.Sm) : OfInv w (((((((V.setCell ⟨w.heap.size + 1, 0, none⟩ (.int .i64 J.c)).setCell ⟨w.heap.size + 1, 1, none⟩ (.int .i64 J.t)).setCell ⟨w.heap.size + 1, 2, none⟩ (.int .i64 J.mn)).setCell ⟨w.heap.size + 1, 3, none⟩ (.int .i64 J.mx)).setCell ⟨w.heap.size + 1, 4, none⟩ (.int .i64 J.f)).setCell ⟨w.heap.size + 1, 5, none⟩ (.int .i64 J.l)).setCell ⟨w.heap.size + 1, 6, none⟩ (.int .i64 J.r)) J :=
  ⟨I.res.far (by omega) _ _ _ _ _ _ _, I.cur.set J, below_set7 I.bel (by omega) _ _ _ _ _ _ _⟩

/-- the sample's value is as it was, behind the store -/
theorem ofx {w wr V w2 : World} {s : Grain.Sm} {v : Value} (hb : Below V.heap.size V w2) (_ : OfInv w w2 s) (hV : V.heap.size = wr.heap.size + 1) (hsz : w.heap.size + 2 ≤ wr.heap.size) (x1 : V.cell? ⟨wr.heap.size, 1, none⟩ = some v) (v0 v1 v2 v3 v4 v5 v6 : Value) :
    (((((((w2.setCell ⟨w.heap.size + 1, 0, none⟩ v0).setCell ⟨w.heap.size + 1, 1, none⟩ v1).setCell ⟨w.heap.size + 1, 2, none⟩ v2).setCell ⟨w.heap.size + 1, 3, none⟩ v3).setCell ⟨w.heap.size + 1, 4, none⟩ v4).setCell ⟨w.heap.size + 1, 5, none⟩ v5).setCell ⟨w.heap.size + 1, 6, none⟩ v6).cell? ⟨wr.heap.size, 1, none⟩ = some v := by
  have hn : wr.heap.size ≠ w.heap.size + 1 := by omega
  have h2 : w2.cell? ⟨wr.heap.size, 1, none⟩ = some v := (hb.cell (p := ⟨wr.heap.size, 1, none⟩) (by simp; omega)).trans x1
  rw [← h2]
  simp only [World.cell?]
  rw [setCell_far hn, setCell_far hn, setCell_far hn, setCell_far hn, setCell_far hn, setCell_far hn, setCell_far hn]

set_option maxHeartbeats 2000000 in
theorem of_any (l : List (Int × Int)) (ao : Option Addr) (cap : Nat) (w : World) (hs : Seg w ao (scells l)) (hL : l.length ≤ 1152921504606846975) :
    Calls Try.prog 15 #[.slice ao l.length cap] w fun e w' => e = .returned (sv (Grain.of l)) ∧ Below w.heap.size w w' := by
  go_enter Try.func15, Try.ntmps15
  go_wp2
  go_loopw [8] (fun i wr => ∃ (k : Nat) (s : Grain.Sm), k ≤ l.length ∧ i = .int .i64 k ∧ Hid (s = Grain.ofN l k) ∧ OfInv w wr s) (fun i _ => l.length - (intOf i).toNat)
  case atStart => exact ⟨0, _, Nat.zero_le _, rfl, rfl, OfInv.start w⟩
  case round =>
    obtain ⟨k, s, hk, rfl, HS, I⟩ := hrel
    by_cases hlt : k < l.length
    · obtain ⟨b, off, rfl, hcell⟩ := hs.sample hlt
      have hb : b < w.heap.size := World.block_lt_of_cell? w ⟨b, off + k * 2, none⟩ (hcell k hlt).1
      have c0 : wr.cell? ⟨b, off + k * 2, none⟩ = some (.int .i64 (Grain.tm l k)) := (I.bel.cell (by exact hb)).trans (hcell k hlt).1
      have c1 : wr.cell? ⟨b, off + k * 2 + 1, none⟩ = some (.int .i64 (Grain.vl l k)) := (I.bel.cell (by exact hb)).trans (hcell k hlt).2
      obtain ⟨V, hV, I1, G, hsz, hVs⟩ := I.next (.int .i64 (Grain.tm l k)) (.int .i64 (Grain.vl l k))
      have HV := hide hV
      have HVs := hide hVs
      have HG := hide G
      clear hV I hVs G
      go_wp2_with fail
      rw [← HV.out]
      obtain ⟨v, hv⟩ : ∃ v : Int, v = Grain.vl l k := ⟨_, rfl⟩
      have Hv := hide hv
      have x1 : V.cell? ⟨wr.heap.size, 1, none⟩ = some (.int .i64 v) := by rw [hv]; exact (two_cells HG.out).2.1
      obtain ⟨s0, s1, s2, s3, s4, s5, s6⟩ := I1.cur.cells
      clear hv c0 c1
      have hX : Hid (∀ w' : World, Below V.heap.size V w' → w'.cell? ⟨wr.heap.size, 1, none⟩ = some (.int .i64 v)) := by
        intro w' hb'
        have := HVs.out
        exact (hb'.cell (p := ⟨wr.heap.size, 1, none⟩) (by simp; omega)).trans x1
      go_region_with
        (first
          | (go_at_call 38; refine (one_any _ _).mono ?_; rintro e w1 ⟨rfl, hb1⟩; have hb1' : Below V.heap.size V w1 := (below_drewN (Below.refl _ V) 1).trans hb1; have I2 := I1.call hb1'; obtain ⟨p0, p1, p2, p3, p4, p5, p6⟩ := I2.cur.cells)
          | (go_at_call 39; refine (join_let s (Grain.one v) _).mono ?_; rintro e w2 ⟨J, HJ, rfl, hb2⟩; have hb2' : Below V.heap.size V w2 := hb1'.trans (hb2.mono hb1'.size); have I3 := I1.call hb2'; obtain ⟨q0, q1, q2, q3, q4, q5, q6⟩ := I3.cur.cells; obtain ⟨r0, r1, r2, r3, r4, r5, r6⟩ := seven_thaw I3.cur)) 
      all_goals
        have I4 := I3.store J
        have HK : Hid (J = Grain.ofN l (k + 1)) := by
          show J = Grain.ofN l (k + 1)
          rw [HJ.out, HS.out, Hv.out]; rfl
        clear HJ HS Hv hX s0 s1 s2 s3 s4 s5 s6 p0 p1 p2 p3 p4 p5 p6 q0 q1 q2 q3 q4 q5 q6 r0 r1 r2 r3 r4 r5 r6 x1 hb1 hb1' hb2 hb2' I1 I2 I3
        go_wp2
        go_roundw
        case rel => exact ⟨k + 1, J, by omega, by go_num, HK, I4⟩
        case measure => simp [intOf]; omega
    · have he : k = l.length := by omega
      subst he
      obtain ⟨s0, s1, s2, s3, s4, s5, s6⟩ := I.cur.cells
      obtain ⟨z0, z1, z2, z3, z4, z5, z6⟩ := seven_cells I.res
      obtain ⟨r0, r1, r2, r3, r4, r5, r6⟩ := seven_thaw I.res
      go_wp2
      exact bodyPost_ret (v := sv s) (by simp [results, Try.results15, go_sem, sv, z0, z1, z2, z3, z4, z5, z6]) rfl ⟨by rw [HS.out]; rfl, below_set7 I.bel (Nat.le_refl _) _ _ _ _ _ _ _⟩

theorem of_len (l : List (Int × Int)) (ao : Option Addr) (N cap : Nat) (w : World) (hs : Seg w ao (scells l)) (hN : N = l.length) (hL : N ≤ 1152921504606846975) :
    Calls Try.prog 15 #[.slice ao N cap] w fun e w' => ∃ J : Grain.Sm, Hid (J = Grain.of l) ∧ e = .returned (.agg #[.int .i64 J.c, .int .i64 J.t, .int .i64 J.mn, .int .i64 J.mx, .int .i64 J.f, .int .i64 J.l, .int .i64 J.r]) ∧ Below w.heap.size w w' := by
  subst hN
  exact (of_any l ao cap w hs hL).mono fun _ _ h => ⟨_, rfl, h.1, h.2⟩

end Go.Proofs.Ytcgcefnfelmmkaa
