/-
  The walk of put, where the last bucket is the one.
-/
import Derived.Test.YtcgcefnfelmmkaaRollPut
namespace Go.Proofs.Ytcgcefnfelmmkaa
open Go.RowKit Go.GrainU

theorem kjoin_let (a b : Grain.Sm) (w : World) :
    Calls Try.prog 39 #[sv a, sv b] w fun e w' => ∃ J : Grain.Sm, Hid (J = Grain.join a b) ∧ e = .returned (.agg #[.int .i64 J.c, .int .i64 J.t, .int .i64 J.mn, .int .i64 J.mx, .int .i64 J.f, .int .i64 J.l, .int .i64 J.r]) ∧ Below w.heap.size w w' :=
  (join_any a b w).mono fun _ _ h => ⟨_, rfl, h.1, h.2⟩

theorem own_thaw {w : World} {base e size g n cap : Nat} {xs : List Value} (h : w.ownsRow base e size (.slice (some ⟨g, 0, none⟩) n cap) n xs) (j : Nat) : w.frozen? ⟨g, j, none⟩ = false := by
  rcases h with ⟨hl, ⟨h0, _⟩ | ⟨g', cap', cur, h0, hb, hg, _⟩⟩
  · simp at h0
  · simp at h0
    obtain ⟨rfl, rfl⟩ := h0
    simp [World.frozen?, hg]

/-- the cells of the last bucket of an owned row -/
theorem own_last {w : World} {base e g n cap : Nat} {R : List Grain.Bk} {b : Grain.Bk} (h : w.ownsRow base e 8 (.slice (some ⟨g, 0, none⟩) n cap) n (kcells (R ++ [b]))) : Cells8 w g (R.length * 8) b := by
  obtain ⟨bb, off, e1, _, hc⟩ := seg_bucket (own_seg h) (k := R.length) (by simp)
  simp at e1
  obtain ⟨rfl, rfl⟩ := e1
  have := hc R.length (by simp)
  rw [Nat.zero_add] at this
  have eb : Grain.bk (R ++ [b]) R.length = b := by simp [Grain.bk]
  rw [eb] at this
  exact this

set_option maxHeartbeats 2000000 in
theorem put_old (R : List Grain.Bk) (A : Int) (q s : Grain.Sm) (base n g cap : Nat) (w : World) (own : w.ownsRow base 67 8 (.slice (some ⟨g, 0, none⟩) n cap) n (kcells (R ++ [⟨A, q⟩]))) (hn : n ≤ 1000000) :
    Calls Try.prog 36 #[.slice (some ⟨g, 0, none⟩) n cap, .int .i64 A, sv s] w (PutPost base (.slice (some ⟨g, 0, none⟩) n cap) w (R ++ [⟨A, Grain.join q s⟩])) := by
  have HL := own_klen own
  have hlen : n = R.length + 1 := by simpa using HL
  subst hlen
  clear HL
  have hgw := (own_block own).2
  have own1 := own.alloc (.cells #[.int .i64 s.c, .int .i64 s.t, .int .i64 s.mn, .int .i64 s.mx, .int .i64 s.f, .int .i64 s.l, .int .i64 s.r] 47)
  obtain ⟨W, hW⟩ : ∃ W, W = w.alloc (.cells #[.int .i64 s.c, .int .i64 s.t, .int .i64 s.mn, .int .i64 s.mx, .int .i64 s.f, .int .i64 s.l, .int .i64 s.r] 47) := ⟨_, rfl⟩
  have hsb : W.heap[w.heap.size]? = some (.cells #[.int .i64 s.c, .int .i64 s.t, .int .i64 s.mn, .int .i64 s.mx, .int .i64 s.f, .int .i64 s.l, .int .i64 s.r] 47 (0, 0)) := by rw [hW]; exact heap_alloc_new w _
  rw [← hW] at own1
  have gr1 : w.grownBy W (some g) := by rw [hW]; exact World.grownBy_alloc w _ _
  have HW := hide hW
  have hgs : W.heap.size = w.heap.size + 1 := by rw [hW]; simp
  clear hW
  obtain ⟨c0, c1, c2, c3, c4, c5, c6, c7⟩ := own_last own1
  obtain ⟨s0, s1, s2, s3, s4, s5, s6⟩ := seven_cells hsb
  simp only at c0 c1 c2 c3 c4 c5 c6 c7
  have l0 : w.cell? ⟨g, R.length * 8, none⟩ = some (.int .i64 A) := (own_last own).1
  simp only [sv]
  go_enter Try.func36, Try.ntmps36
  go_wp2_with fail
  rw [← HW.out]
  clear own l0 HW
  have hw1 : IntKind.i64.wrap ((R.length : Int) + 1 - 1) = (R.length : Int) := by rw [IntKind.wrap_i64]; omega
  have hw2 : IntKind.i64.wrap (R.length : Int) = (R.length : Int) := by rw [IntKind.wrap_i64]; omega
  go_region_with
    (first
      | (go_at_call 39; refine (kjoin_let q s _).mono ?_; rintro e w2 ⟨J, HJ, rfl, hb2⟩; have hb2' : Below W.heap.size W w2 := (below_drewN (Below.refl _ W) 1).trans hb2; have own2 := own_below own1 hb2'; obtain ⟨p0, p1, p2, p3, p4, p5, p6, p7⟩ := own_last own2; have t1 := own_thaw own2 (R.length * 8 + 1); have t2 := own_thaw own2 (R.length * 8 + 2); have t3 := own_thaw own2 (R.length * 8 + 3); have t4 := own_thaw own2 (R.length * 8 + 4); have t5 := own_thaw own2 (R.length * 8 + 5); have t6 := own_thaw own2 (R.length * 8 + 6); have t7 := own_thaw own2 (R.length * 8 + 7); simp only at p0 p1 p2 p3 p4 p5 p6 p7))
  all_goals
    have F : Hid (PutPost base (.slice (some ⟨g, 0, none⟩) (R.length + 1) cap) w (R ++ [⟨A, Grain.join q s⟩]) (.returned (.slice (some ⟨g, 0, none⟩) (R.length + 1) cap)) (Set7 w2 g (R.length * 8) J)) := by
      rw [← HJ.out]
      exact ⟨g, _, cap, rfl, own_set7 own2 rfl J, grown_set7 (grown_call gr1 hb2')⟩
    obtain ⟨W3, hW3⟩ : ∃ W3, W3 = Set7 w2 g (R.length * 8) J := ⟨_, rfl⟩
    rw [← hW3] at F
    rw [show ((((((((w2.setCell ⟨g, R.length * 8 + 1, none⟩ (.int .i64 J.c)).setCell ⟨g, R.length * 8 + 1 + 1, none⟩ (.int .i64 J.t)).setCell ⟨g, R.length * 8 + 1 + 2, none⟩ (.int .i64 J.mn)).setCell ⟨g, R.length * 8 + 1 + 3, none⟩ (.int .i64 J.mx)).setCell ⟨g, R.length * 8 + 1 + 4, none⟩ (.int .i64 J.f)).setCell ⟨g, R.length * 8 + 1 + 5, none⟩ (.int .i64 J.l)).setCell ⟨g, R.length * 8 + 1 + 6, none⟩ (.int .i64 J.r))) = W3 from hW3.symm]
    clear own1 own2 hb2 hb2' hW3 HJ gr1 hw1 hw2 hgs hsb hgw c0 c1 c2 c3 c4 c5 c6 c7 s0 s1 s2 s3 s4 s5 s6 p0 p1 p2 p3 p4 p5 p6 p7 t1 t2 t3 t4 t5 t6 t7
    go_wp2
    go_ret
    exact F.out

/-- put, whatever the buckets -/
theorem put_any (X : List Grain.Bk) (A : Int) (s : Grain.Sm) (base n cap : Nat) (ao : Option Addr) (w : World) (own : w.ownsRow base 67 8 (.slice ao n cap) n (kcells X)) (hb : base ≤ w.heap.size) (hn : n ≤ 1000000) :
    Calls Try.prog 36 #[.slice ao n cap, .int .i64 A, sv s] w (PutPost base (.slice ao n cap) w (Grain.put X A s)) := by
  rcases Grain.put_cases X A with ho | ⟨R, q, rfl⟩
  · rw [Grain.put_off ho]
    exact put_new X A s base n cap ao w own hb hn ho
  · rw [Grain.put_same]
    rcases own.2 with ⟨h0, h1⟩ | ⟨g, cap', cur, h0, _⟩
    · have := own_klen own
      simp at this
      omega
    · simp at h0
      obtain ⟨rfl, rfl⟩ := h0
      exact put_old R A q s base n g cap w own hn

end Go.Proofs.Ytcgcefnfelmmkaa
