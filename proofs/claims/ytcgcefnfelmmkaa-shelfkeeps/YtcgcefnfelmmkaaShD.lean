/-
  The walks of boundsFit, entriesFit and Wrong.
-/
import Derived.Test.YtcgcefnfelmmkaaShA
import Derived.Test.YtcgcefnfelmmkaaShC
import Derived.Test.YtcgcefnfelmmkaaCodecWrong
import Derived.Test.YtcgcefnfelmmkaaNWrong
namespace Go.GrainU
open Go.RowKit

theorem within_bk (B : List Grain.Bk) (f t : Int) : (!B.any fun b => (decide (b.a < f) || decide (t ≤ b.a))) = Grain.within B f t := by
  unfold Grain.within
  induction B with
  | nil => rfl
  | cons b r ih =>
    rw [List.any_cons, List.all_cons, Bool.not_or, ih]
    congr 1
    rw [Bool.eq_iff_iff]
    simp

theorem raw_any (l : List (Int × Int)) (f : Int) : (!l.any fun x => decide (x.1 < f)) = l.all fun x => decide (f ≤ x.1) := by
  induction l with
  | nil => rfl
  | cons b r ih =>
    rw [List.any_cons, List.all_cons, Bool.not_or, ih]
    congr 1
    rw [Bool.eq_iff_iff]
    simp

end Go.GrainU
namespace Go.Proofs.Ytcgcefnfelmmkaa
open Go.RowKit Go.GrainU

/-- a shelf as a block -/
def so (x : ShT) : Obj := .cells #[.slice x.a0 x.s.se.length x.c0, .slice x.a1 x.s.ra.length x.c1, .slice x.a2 x.s.fi.length x.c2, .slice x.a3 x.s.co.length x.c3, .int .i64 x.s.rf, .int .i64 x.s.ff, .int .i64 x.s.ft, .int .i64 x.s.cf, .int .i64 x.s.ct] 27

/-- the nine cells of a block that holds a shelf -/
def At9 (w : World) (B : Nat) (x : ShT) : Prop :=
  w.cell? ⟨B, 0, none⟩ = some (.slice x.a0 x.s.se.length x.c0) ∧ w.cell? ⟨B, 1, none⟩ = some (.slice x.a1 x.s.ra.length x.c1) ∧ w.cell? ⟨B, 2, none⟩ = some (.slice x.a2 x.s.fi.length x.c2) ∧ w.cell? ⟨B, 3, none⟩ = some (.slice x.a3 x.s.co.length x.c3) ∧
  w.cell? ⟨B, 4, none⟩ = some (.int .i64 x.s.rf) ∧ w.cell? ⟨B, 5, none⟩ = some (.int .i64 x.s.ff) ∧ w.cell? ⟨B, 6, none⟩ = some (.int .i64 x.s.ft) ∧ w.cell? ⟨B, 7, none⟩ = some (.int .i64 x.s.cf) ∧ w.cell? ⟨B, 8, none⟩ = some (.int .i64 x.s.ct)

theorem nine_cells {w : World} {B : Nat} {x : ShT} (h : w.heap[B]? = some (so x)) : At9 w B x := by
  unfold so at h
  simp [At9, World.cell?, h]

set_option maxHeartbeats 1000000 in
theorem bfit_any (x : ShT) (w : World) :
    Calls Try.prog 21 #[x.v] w fun e w' => e = .returned (.bool (Grain.bfit x.s)) ∧ Below w.heap.size w w' := by
  obtain ⟨⟨se, ra, fi, co, rf, ff, ft, cf, ct⟩, a0, c0, a1, c1, a2, c2, a3, c3⟩ := x
  have HB : Hid (Grain.bfit ⟨se, ra, fi, co, rf, ff, ft, cf, ct⟩ = (Grain.span ff ft 10 && (Grain.span cf ct 60 && decide (0 ≤ rf ∧ rf ≤ ft ∧ ff ≤ ct ∧ ct ≤ ft)))) := rfl
  have bel : ∀ o, Below w.heap.size w (w.alloc o) := fun o => (Below.refl _ _).alloc (Nat.le_refl _) _
  have BE := hide bel
  clear bel
  simp only [ShT.v]
  cases h1 : Grain.span ff ft 10
  · rw [h1] at HB
    have H1 := hide h1
    clear h1
    go_enter Try.func21, Try.ntmps21
    go_wp2_with fail
    refine (span_any ff ft 10 _ (.inl rfl)).mono ?_
    intro e w1 hh
    rw [hh.1, hh.2, H1.out]
    clear hh
    go_wp2
    go_ret
    exact ⟨by rw [HB.out]; rfl, BE.out _⟩
  · cases h2 : Grain.span cf ct 60
    · rw [h1, h2] at HB
      have H1 := hide h1
      have H2 := hide h2
      clear h1 h2
      go_enter Try.func21, Try.ntmps21
      go_wp2_with fail
      refine (span_any ff ft 10 _ (.inl rfl)).mono ?_
      intro e w1 hh
      rw [hh.1, hh.2, H1.out]
      clear hh
      go_wp2_with fail
      refine (span_any cf ct 60 _ (.inr rfl)).mono ?_
      intro e w1 hh
      rw [hh.1, hh.2, H2.out]
      clear hh
      go_wp2
      go_ret
      exact ⟨by rw [HB.out]; rfl, BE.out _⟩
    · rw [h1, h2] at HB
      have H1 := hide h1
      have H2 := hide h2
      clear h1 h2
      go_enter Try.func21, Try.ntmps21
      go_wp2_with fail
      refine (span_any ff ft 10 _ (.inl rfl)).mono ?_
      intro e w1 hh
      rw [hh.1, hh.2, H1.out]
      clear hh
      go_wp2_with fail
      refine (span_any cf ct 60 _ (.inr rfl)).mono ?_
      intro e w1 hh
      rw [hh.1, hh.2, H2.out]
      clear hh
      go_wp2
      all_goals
        go_ret
        refine ⟨?_, BE.out _⟩
        rw [HB.out]
        refine ret_bool ?_
        rw [Bool.eq_iff_iff]
        simp
        try omega

theorem ef1_any (t v rf : Int) (B : Nat) (w : World) (hB : w.cell? ⟨B, 4, none⟩ = some (.int .i64 rf)) :
    Calls Try.prog 46 #[.agg #[.int .i64 t, .int .i64 v], .pointer (some ⟨B, 0, none⟩)] w fun e w' => e = .returned (.bool (decide (t < rf))) ∧ Below w.heap.size w w' := by
  have hl : B < w.heap.size := World.block_lt_of_cell? w _ hB
  have bel : Below w.heap.size w (w.alloc (.cells #[.int .i64 t, .int .i64 v] 29)) := (Below.refl _ _).alloc (Nat.le_refl _) _
  go_enter Try.func46, Try.ntmps46
  go_wp2
  go_ret
  exact ⟨rfl, bel⟩

theorem aw1_any (K : Grain.Bk) (f t : Int) (B1 B2 : Nat) (w : World) (h1 : w.cell? ⟨B1, 0, none⟩ = some (.int .i64 f)) (h2 : w.cell? ⟨B2, 0, none⟩ = some (.int .i64 t)) :
    Calls Try.prog 56 #[kv K, .pointer (some ⟨B1, 0, none⟩), .pointer (some ⟨B2, 0, none⟩)] w fun e w' => e = .returned (.bool (decide (K.a < f) || decide (t ≤ K.a))) ∧ Below w.heap.size w w' := by
  have hl1 : B1 < w.heap.size := World.block_lt_of_cell? w _ h1
  have hl2 : B2 < w.heap.size := World.block_lt_of_cell? w _ h2
  have bel : Below w.heap.size w (w.alloc (ko K)) := (Below.refl _ _).alloc (Nat.le_refl _) _
  unfold ko at bel
  unfold kv
  go_enter Try.func56, Try.ntmps56
  go_wp2
  all_goals
    go_ret
    refine ⟨ret_bool ?_, bel⟩
    (rw [Bool.eq_iff_iff]) <;> simp <;> try omega

set_option maxHeartbeats 1000000 in
theorem aw_any (l : List Grain.Bk) (f t : Int) (ao : Option Addr) (n c : Nat) (w : World) (ha : Seg w ao (kcells l)) (hn : n = l.length) (hc : n ≤ 9223372036854775807) :
    Calls Try.prog 48 #[.slice ao n c, .int .i64 f, .int .i64 t] w fun e w' => e = .returned (.bool (Grain.within l f t)) ∧ Below w.heap.size w w' := by
  obtain ⟨V, hV⟩ : ∃ V, V = (w.alloc (.cells #[.int .i64 f] 3)).alloc (.cells #[.int .i64 t] 3) := ⟨_, rfl⟩
  have bel : Below w.heap.size w V := by rw [hV]; exact ((Below.refl _ _).alloc (Nat.le_refl _) _).alloc (by simp) _
  have hVs : V.heap.size = w.heap.size + 2 := by rw [hV]; simp
  have q1 : V.cell? ⟨w.heap.size, 0, none⟩ = some (.int .i64 f) := by rw [hV]; simp
  have q2 : V.cell? ⟨w.heap.size + 1, 0, none⟩ = some (.int .i64 t) := by rw [hV]; simp
  have HV := hide hV
  have HN := hide hn
  have haV := ha.below bel
  have hE := hide (enters (P := Try.prog) Try.func56 (by kernel_rfl) (by kernel_rfl))
  have hF : ∀ W K, Below V.heap.size V W → Calls Try.prog 56 (#[kv K] ++ #[.pointer (some ⟨w.heap.size, 0, none⟩), .pointer (some ⟨w.heap.size + 1, 0, none⟩)]) W fun e W' => e = .returned (.bool (decide (K.a < f) || decide (t ≤ K.a))) ∧ Below W.heap.size W W' := by
    intro W K hb
    have := aw1_any K f t w.heap.size (w.heap.size + 1) W ((hb.cell (p := ⟨w.heap.size, 0, none⟩) (by show w.heap.size < V.heap.size; omega)).trans q1) ((hb.cell (p := ⟨w.heap.size + 1, 0, none⟩) (by show w.heap.size + 1 < V.heap.size; omega)).trans q2)
    simpa using this
  have HF := hide hF
  clear hV hn hF q1 q2
  go_enter Try.func48, Try.ntmps48
  go_wp2_with fail
  rw [← HV.out]
  refine (kcont_any l (fun K => decide (K.a < f) || decide (t ≤ K.a)) 56 _ ao n c V haV HN.out hc hE HF.out).mono ?_
  rintro e w1 ⟨rfl, hb1⟩
  have bel1 : Below w.heap.size w w1 := bel.trans (hb1.mono bel.size)
  have HW := hide (within_bk l f t)
  generalize (l.any fun x => (decide (x.a < f) || decide (t ≤ x.a))) = A at HW ⊢
  clear hb1 HV
  go_wp2
  go_ret
  exact ⟨by rw [← HW.out]; rfl, bel1⟩

end Go.Proofs.Ytcgcefnfelmmkaa
