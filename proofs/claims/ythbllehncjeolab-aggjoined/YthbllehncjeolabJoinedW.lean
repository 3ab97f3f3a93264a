/-
  The walk of AggJoined, in range.
-/
import Derived.Test.YthbllehncjeolabJoined
namespace Go.Proofs.Ythbllehncjeolab
open Go.RowKit Go.GrainU

/-- three sums at their places, behind what only makes memory -/
def ThreeAt (A : Nat) (a b c : Grain.Sm) (w : World) : Prop := SumAt w A a ∧ SumAt w (A + 1) b ∧ SumAt w (A + 1 + 1) c

theorem ThreeAt.below {A : Nat} {a b c : Grain.Sm} {w w' : World} (h : ThreeAt A a b c w) (hb : Below w.heap.size w w') : ThreeAt A a b c w' := ⟨h.1.below hb, h.2.1.below hb, h.2.2.below hb⟩

theorem join_k (a b c K : Grain.Sm) (h1 : K = Grain.join a (Grain.join b c)) (h2 : K = Grain.join (Grain.join a b) c) (X Y : Value) (h : (X = .agg #[.int .i64 a.c, .int .i64 a.t, .int .i64 a.mn, .int .i64 a.mx, .int .i64 a.f, .int .i64 a.l, .int .i64 a.r] ∧ Y = sv (Grain.join b c)) ∨ (X = sv (Grain.join a b) ∧ Y = .agg #[.int .i64 c.c, .int .i64 c.t, .int .i64 c.mn, .int .i64 c.mx, .int .i64 c.f, .int .i64 c.l, .int .i64 c.r])) (w : World) :
    Calls Try.prog 7 #[X, Y] w fun e w' => e = .returned (.agg #[.int .i64 K.c, .int .i64 K.t, .int .i64 K.mn, .int .i64 K.mx, .int .i64 K.f, .int .i64 K.l, .int .i64 K.r]) ∧ Below w.heap.size w w' := by
  rcases h with ⟨rfl, rfl⟩ | ⟨rfl, rfl⟩
  · exact (join_any a (Grain.join b c) w).mono fun _ _ h => ⟨by rw [h.1, h1]; rfl, h.2⟩
  · exact (join_any (Grain.join a b) c w).mono fun _ _ h => ⟨by rw [h.1, h2]; rfl, h.2⟩

theorem join_az (a : Grain.Sm) (hn : a.c ≠ 0) (w : World) :
    Calls Try.prog 7 #[.agg #[.int .i64 a.c, .int .i64 a.t, .int .i64 a.mn, .int .i64 a.mx, .int .i64 a.f, .int .i64 a.l, .int .i64 a.r], .agg #[.int .i64 0, .int .i64 0, .int .i64 0, .int .i64 0, .int .i64 0, .int .i64 0, .int .i64 0]] w fun e w' => e = .returned (.agg #[.int .i64 a.c, .int .i64 a.t, .int .i64 a.mn, .int .i64 a.mx, .int .i64 a.f, .int .i64 a.l, .int .i64 a.r]) ∧ Below w.heap.size w w' :=
  (join_any a Grain.zero w).mono fun _ _ h => ⟨by rw [h.1, Grain.join_zero_right a _ hn rfl]; rfl, h.2⟩
theorem join_za (a : Grain.Sm) (w : World) :
    Calls Try.prog 7 #[.agg #[.int .i64 0, .int .i64 0, .int .i64 0, .int .i64 0, .int .i64 0, .int .i64 0, .int .i64 0], .agg #[.int .i64 a.c, .int .i64 a.t, .int .i64 a.mn, .int .i64 a.mx, .int .i64 a.f, .int .i64 a.l, .int .i64 a.r]] w fun e w' => e = .returned (.agg #[.int .i64 a.c, .int .i64 a.t, .int .i64 a.mn, .int .i64 a.mx, .int .i64 a.f, .int .i64 a.l, .int .i64 a.r]) ∧ Below w.heap.size w w' :=
  (join_any Grain.zero a w).mono fun _ _ h => ⟨by rw [h.1, Grain.join_zero_left _ a rfl]; rfl, h.2⟩

theorem join_a (a : Grain.Sm) (hn : a.c ≠ 0) (X Y : Value) (h : (X = .agg #[.int .i64 a.c, .int .i64 a.t, .int .i64 a.mn, .int .i64 a.mx, .int .i64 a.f, .int .i64 a.l, .int .i64 a.r] ∧ Y = .agg #[.int .i64 0, .int .i64 0, .int .i64 0, .int .i64 0, .int .i64 0, .int .i64 0, .int .i64 0]) ∨ (X = .agg #[.int .i64 0, .int .i64 0, .int .i64 0, .int .i64 0, .int .i64 0, .int .i64 0, .int .i64 0] ∧ Y = .agg #[.int .i64 a.c, .int .i64 a.t, .int .i64 a.mn, .int .i64 a.mx, .int .i64 a.f, .int .i64 a.l, .int .i64 a.r])) (w : World) :
    Calls Try.prog 7 #[X, Y] w fun e w' => e = .returned (.agg #[.int .i64 a.c, .int .i64 a.t, .int .i64 a.mn, .int .i64 a.mx, .int .i64 a.f, .int .i64 a.l, .int .i64 a.r]) ∧ Below w.heap.size w w' := by
  rcases h with ⟨rfl, rfl⟩ | ⟨rfl, rfl⟩
  · exact join_az a hn w
  · exact join_za a w

set_option maxHeartbeats 4000000 in
theorem joined_in (a b c : Grain.Sm) (w : World) (h1 : 0 ≤ a.c) (h2 : 0 ≤ b.c) (h3 : 0 ≤ c.c) (h4 : a.c ≤ 1099511627776) (h5 : b.c ≤ 1099511627776) (h6 : c.c ≤ 1099511627776) :
    Calls Try.prog 3 #[sv a, sv b, sv c] w fun e w' => e = .returned (.bool true) ∧ Below w.heap.size w w' := by
  obtain ⟨W, hW, A, B, C, bel⟩ := three_sums w a b c
  have HW := hide hW
  clear hW
  have hE := hide (Grain.join_assoc a b c (by omega) (by omega) (by omega))
  simp only [sv]
  go_enter Try.func3, Try.ntmps3
  go_wp2_with fail
  rw [← HW.out]
  refine (alive_any _).mono ?_
  rintro e w1 ⟨rfl, hb1⟩
  have a0 := (A.below hb1).cells.1
  have b0 := (B.below hb1).cells.1
  have c0 := (C.below hb1).cells.1
  have T1 : ThreeAt w.heap.size a b c w1 := ⟨A.below hb1, B.below hb1, C.below hb1⟩
  have bel1 := bel.trans (hb1.mono bel.size)
  have hs1 := bel1.size
  obtain ⟨V, hV, N, TV, belV⟩ : ∃ V, V = w1.alloc (.cells #[.int .i64 0, .int .i64 0, .int .i64 0, .int .i64 0, .int .i64 0, .int .i64 0, .int .i64 0] 23) ∧ SumAt V w1.heap.size Grain.zero ∧ ThreeAt w.heap.size a b c V ∧ Below w.heap.size w V :=
    ⟨_, rfl, sum_new w1 Grain.zero, ⟨T1.1.alloc _, T1.2.1.alloc _, T1.2.2.alloc _⟩, bel1.alloc hs1 _⟩
  have HV := hide hV
  clear A B C hV
  have HSA : Hid (∀ w' : World, Below V.heap.size V w' → w'.cell? ⟨w.heap.size, 0, none⟩ = some (.int .i64 a.c) ∧ w'.cell? ⟨w.heap.size, 1, none⟩ = some (.int .i64 a.t) ∧ w'.cell? ⟨w.heap.size, 2, none⟩ = some (.int .i64 a.mn) ∧ w'.cell? ⟨w.heap.size, 3, none⟩ = some (.int .i64 a.mx) ∧ w'.cell? ⟨w.heap.size, 4, none⟩ = some (.int .i64 a.f) ∧ w'.cell? ⟨w.heap.size, 5, none⟩ = some (.int .i64 a.l) ∧ w'.cell? ⟨w.heap.size, 6, none⟩ = some (.int .i64 a.r) ∧ w'.cell? ⟨w1.heap.size, 0, none⟩ = some (.int .i64 0) ∧ w'.cell? ⟨w1.heap.size, 1, none⟩ = some (.int .i64 0) ∧ w'.cell? ⟨w1.heap.size, 2, none⟩ = some (.int .i64 0) ∧ w'.cell? ⟨w1.heap.size, 3, none⟩ = some (.int .i64 0) ∧ w'.cell? ⟨w1.heap.size, 4, none⟩ = some (.int .i64 0) ∧ w'.cell? ⟨w1.heap.size, 5, none⟩ = some (.int .i64 0) ∧ w'.cell? ⟨w1.heap.size, 6, none⟩ = some (.int .i64 0)) := by
    intro w' hb
    have x := (TV.1.below hb).cells
    have y := (N.below hb).cells
    exact ⟨x.1, x.2.1, x.2.2.1, x.2.2.2.1, x.2.2.2.2.1, x.2.2.2.2.2.1, x.2.2.2.2.2.2, y⟩
  have R0 : Below V.heap.size V V.drew := below_drewN (Below.refl _ V) 1
  clear T1 bel1 N
  by_cases hp : 0 < a.c
  · have hd : decide (0 < a.c) = true := by simpa using hp
    have hn : a.c ≠ 0 := by omega
    go_wp2_with fail
    rw [← HV.out]
    clear a0 b0 c0 h1 h2 h3 h4 h5 h6 HW
    go_region_held3 (fun w' => w'.cell? ⟨w.heap.size, 0, none⟩ = some (.int .i64 a.c) ∧ w'.cell? ⟨w.heap.size, 1, none⟩ = some (.int .i64 a.t) ∧ w'.cell? ⟨w.heap.size, 2, none⟩ = some (.int .i64 a.mn) ∧ w'.cell? ⟨w.heap.size, 3, none⟩ = some (.int .i64 a.mx) ∧ w'.cell? ⟨w.heap.size, 4, none⟩ = some (.int .i64 a.f) ∧ w'.cell? ⟨w.heap.size, 5, none⟩ = some (.int .i64 a.l) ∧ w'.cell? ⟨w.heap.size, 6, none⟩ = some (.int .i64 a.r) ∧ w'.cell? ⟨w1.heap.size, 0, none⟩ = some (.int .i64 0) ∧ w'.cell? ⟨w1.heap.size, 1, none⟩ = some (.int .i64 0) ∧ w'.cell? ⟨w1.heap.size, 2, none⟩ = some (.int .i64 0) ∧ w'.cell? ⟨w1.heap.size, 3, none⟩ = some (.int .i64 0) ∧ w'.cell? ⟨w1.heap.size, 4, none⟩ = some (.int .i64 0) ∧ w'.cell? ⟨w1.heap.size, 5, none⟩ = some (.int .i64 0) ∧ w'.cell? ⟨w1.heap.size, 6, none⟩ = some (.int .i64 0))
      (exact HSA.out _ (by assumption))
      (first
        | (go_at_call 7; refine (join_a a hn _ _ (by first | exact .inl ⟨rfl, rfl⟩ | exact .inr ⟨rfl, rfl⟩) _).mono ?_; rintro e w2 ⟨rfl, hb2⟩; have R2 := below_step hb2 (by assumption)))
    obtain ⟨U, hU, TU, belU⟩ : ∃ U : World, U = w2 ∧ ThreeAt w.heap.size a b c U ∧ Below w.heap.size w U := ⟨_, rfl, ⟨TV.1.below R2, TV.2.1.below R2, TV.2.2.below R2⟩, belV.trans (R2.mono belV.size)⟩
    rw [← hU]
    clear hU
    go_wp2_with fail
    have HSB : Hid (∀ w' : World, Below U.heap.size U w' → w'.cell? ⟨w.heap.size, 0, none⟩ = some (.int .i64 a.c) ∧ w'.cell? ⟨w.heap.size, 1, none⟩ = some (.int .i64 a.t) ∧ w'.cell? ⟨w.heap.size, 2, none⟩ = some (.int .i64 a.mn) ∧ w'.cell? ⟨w.heap.size, 3, none⟩ = some (.int .i64 a.mx) ∧ w'.cell? ⟨w.heap.size, 4, none⟩ = some (.int .i64 a.f) ∧ w'.cell? ⟨w.heap.size, 5, none⟩ = some (.int .i64 a.l) ∧ w'.cell? ⟨w.heap.size, 6, none⟩ = some (.int .i64 a.r) ∧ w'.cell? ⟨w.heap.size + 1, 0, none⟩ = some (.int .i64 b.c) ∧ w'.cell? ⟨w.heap.size + 1, 1, none⟩ = some (.int .i64 b.t) ∧ w'.cell? ⟨w.heap.size + 1, 2, none⟩ = some (.int .i64 b.mn) ∧ w'.cell? ⟨w.heap.size + 1, 3, none⟩ = some (.int .i64 b.mx) ∧ w'.cell? ⟨w.heap.size + 1, 4, none⟩ = some (.int .i64 b.f) ∧ w'.cell? ⟨w.heap.size + 1, 5, none⟩ = some (.int .i64 b.l) ∧ w'.cell? ⟨w.heap.size + 1, 6, none⟩ = some (.int .i64 b.r) ∧ w'.cell? ⟨w.heap.size + 1 + 1, 0, none⟩ = some (.int .i64 c.c) ∧ w'.cell? ⟨w.heap.size + 1 + 1, 1, none⟩ = some (.int .i64 c.t) ∧ w'.cell? ⟨w.heap.size + 1 + 1, 2, none⟩ = some (.int .i64 c.mn) ∧ w'.cell? ⟨w.heap.size + 1 + 1, 3, none⟩ = some (.int .i64 c.mx) ∧ w'.cell? ⟨w.heap.size + 1 + 1, 4, none⟩ = some (.int .i64 c.f) ∧ w'.cell? ⟨w.heap.size + 1 + 1, 5, none⟩ = some (.int .i64 c.l) ∧ w'.cell? ⟨w.heap.size + 1 + 1, 6, none⟩ = some (.int .i64 c.r)) := by
      intro w' hb
      have x := (TU.1.below hb).cells
      have y := (TU.2.1.below hb).cells
      have z := (TU.2.2.below hb).cells
      exact ⟨x.1, x.2.1, x.2.2.1, x.2.2.2.1, x.2.2.2.2.1, x.2.2.2.2.2.1, x.2.2.2.2.2.2, y.1, y.2.1, y.2.2.1, y.2.2.2.1, y.2.2.2.2.1, y.2.2.2.2.2.1, y.2.2.2.2.2.2, z⟩
    have Q0 : Below U.heap.size U U.drew := below_drewN (Below.refl _ U) 1
    obtain ⟨K, k1, k2⟩ : ∃ K : Grain.Sm, Hid (K = Grain.join a (Grain.join b c)) ∧ Hid (K = Grain.join (Grain.join a b) c) := ⟨_, rfl, hE.out⟩
    clear hE TU TV R0 HSA HV belV hb1
    go_region_held3 (fun w' => w'.cell? ⟨w.heap.size, 0, none⟩ = some (.int .i64 a.c) ∧ w'.cell? ⟨w.heap.size, 1, none⟩ = some (.int .i64 a.t) ∧ w'.cell? ⟨w.heap.size, 2, none⟩ = some (.int .i64 a.mn) ∧ w'.cell? ⟨w.heap.size, 3, none⟩ = some (.int .i64 a.mx) ∧ w'.cell? ⟨w.heap.size, 4, none⟩ = some (.int .i64 a.f) ∧ w'.cell? ⟨w.heap.size, 5, none⟩ = some (.int .i64 a.l) ∧ w'.cell? ⟨w.heap.size, 6, none⟩ = some (.int .i64 a.r) ∧ w'.cell? ⟨w.heap.size + 1, 0, none⟩ = some (.int .i64 b.c) ∧ w'.cell? ⟨w.heap.size + 1, 1, none⟩ = some (.int .i64 b.t) ∧ w'.cell? ⟨w.heap.size + 1, 2, none⟩ = some (.int .i64 b.mn) ∧ w'.cell? ⟨w.heap.size + 1, 3, none⟩ = some (.int .i64 b.mx) ∧ w'.cell? ⟨w.heap.size + 1, 4, none⟩ = some (.int .i64 b.f) ∧ w'.cell? ⟨w.heap.size + 1, 5, none⟩ = some (.int .i64 b.l) ∧ w'.cell? ⟨w.heap.size + 1, 6, none⟩ = some (.int .i64 b.r) ∧ w'.cell? ⟨w.heap.size + 1 + 1, 0, none⟩ = some (.int .i64 c.c) ∧ w'.cell? ⟨w.heap.size + 1 + 1, 1, none⟩ = some (.int .i64 c.t) ∧ w'.cell? ⟨w.heap.size + 1 + 1, 2, none⟩ = some (.int .i64 c.mn) ∧ w'.cell? ⟨w.heap.size + 1 + 1, 3, none⟩ = some (.int .i64 c.mx) ∧ w'.cell? ⟨w.heap.size + 1 + 1, 4, none⟩ = some (.int .i64 c.f) ∧ w'.cell? ⟨w.heap.size + 1 + 1, 5, none⟩ = some (.int .i64 c.l) ∧ w'.cell? ⟨w.heap.size + 1 + 1, 6, none⟩ = some (.int .i64 c.r))
      (exact HSB.out _ (by assumption))
      (first
        | (go_at_call 7; refine (join_k a b c K k1.out k2.out _ _ (by first | exact .inl ⟨rfl, rfl⟩ | exact .inr ⟨rfl, rfl⟩) _).mono ?_; rintro e w2 ⟨rfl, hb2⟩; have R2 := below_step hb2 (by assumption))
        | (go_at_call 7; refine (join_any _ _ _).mono ?_; rintro e w2 ⟨rfl, hb2⟩; have R2 := below_step hb2 (by assumption)))
    have belZ := belU.trans (R2.mono belU.size)
    go_wp2
    go_ret
    exact ⟨by simp, belZ⟩
  · have hd : decide (0 < a.c) = false := by simpa using hp
    go_wp2_with fail
    rw [← HV.out]
    have v0 := TV.1.cells.1
    go_quiet (fail)
    obtain ⟨U, hU, TU, belU⟩ : ∃ U : World, U = V.drewN nq ∧ ThreeAt w.heap.size a b c U ∧ Below w.heap.size w U := ⟨_, rfl, TV, below_drewN belV _⟩
    rw [← hU]
    clear hU
    go_wp2_with fail
    have HSB : Hid (∀ w' : World, Below U.heap.size U w' → w'.cell? ⟨w.heap.size, 0, none⟩ = some (.int .i64 a.c) ∧ w'.cell? ⟨w.heap.size, 1, none⟩ = some (.int .i64 a.t) ∧ w'.cell? ⟨w.heap.size, 2, none⟩ = some (.int .i64 a.mn) ∧ w'.cell? ⟨w.heap.size, 3, none⟩ = some (.int .i64 a.mx) ∧ w'.cell? ⟨w.heap.size, 4, none⟩ = some (.int .i64 a.f) ∧ w'.cell? ⟨w.heap.size, 5, none⟩ = some (.int .i64 a.l) ∧ w'.cell? ⟨w.heap.size, 6, none⟩ = some (.int .i64 a.r) ∧ w'.cell? ⟨w.heap.size + 1, 0, none⟩ = some (.int .i64 b.c) ∧ w'.cell? ⟨w.heap.size + 1, 1, none⟩ = some (.int .i64 b.t) ∧ w'.cell? ⟨w.heap.size + 1, 2, none⟩ = some (.int .i64 b.mn) ∧ w'.cell? ⟨w.heap.size + 1, 3, none⟩ = some (.int .i64 b.mx) ∧ w'.cell? ⟨w.heap.size + 1, 4, none⟩ = some (.int .i64 b.f) ∧ w'.cell? ⟨w.heap.size + 1, 5, none⟩ = some (.int .i64 b.l) ∧ w'.cell? ⟨w.heap.size + 1, 6, none⟩ = some (.int .i64 b.r) ∧ w'.cell? ⟨w.heap.size + 1 + 1, 0, none⟩ = some (.int .i64 c.c) ∧ w'.cell? ⟨w.heap.size + 1 + 1, 1, none⟩ = some (.int .i64 c.t) ∧ w'.cell? ⟨w.heap.size + 1 + 1, 2, none⟩ = some (.int .i64 c.mn) ∧ w'.cell? ⟨w.heap.size + 1 + 1, 3, none⟩ = some (.int .i64 c.mx) ∧ w'.cell? ⟨w.heap.size + 1 + 1, 4, none⟩ = some (.int .i64 c.f) ∧ w'.cell? ⟨w.heap.size + 1 + 1, 5, none⟩ = some (.int .i64 c.l) ∧ w'.cell? ⟨w.heap.size + 1 + 1, 6, none⟩ = some (.int .i64 c.r)) := by
      intro w' hb
      have x := (TU.1.below hb).cells
      have y := (TU.2.1.below hb).cells
      have z := (TU.2.2.below hb).cells
      exact ⟨x.1, x.2.1, x.2.2.1, x.2.2.2.1, x.2.2.2.2.1, x.2.2.2.2.2.1, x.2.2.2.2.2.2, y.1, y.2.1, y.2.2.1, y.2.2.2.1, y.2.2.2.2.1, y.2.2.2.2.2.1, y.2.2.2.2.2.2, z⟩
    have Q0 : Below U.heap.size U U.drew := below_drewN (Below.refl _ U) 1
    obtain ⟨K, k1, k2⟩ : ∃ K : Grain.Sm, Hid (K = Grain.join a (Grain.join b c)) ∧ Hid (K = Grain.join (Grain.join a b) c) := ⟨_, rfl, hE.out⟩
    clear hE TU TV R0 HSA HV belV hb1
    go_region_held3 (fun w' => w'.cell? ⟨w.heap.size, 0, none⟩ = some (.int .i64 a.c) ∧ w'.cell? ⟨w.heap.size, 1, none⟩ = some (.int .i64 a.t) ∧ w'.cell? ⟨w.heap.size, 2, none⟩ = some (.int .i64 a.mn) ∧ w'.cell? ⟨w.heap.size, 3, none⟩ = some (.int .i64 a.mx) ∧ w'.cell? ⟨w.heap.size, 4, none⟩ = some (.int .i64 a.f) ∧ w'.cell? ⟨w.heap.size, 5, none⟩ = some (.int .i64 a.l) ∧ w'.cell? ⟨w.heap.size, 6, none⟩ = some (.int .i64 a.r) ∧ w'.cell? ⟨w.heap.size + 1, 0, none⟩ = some (.int .i64 b.c) ∧ w'.cell? ⟨w.heap.size + 1, 1, none⟩ = some (.int .i64 b.t) ∧ w'.cell? ⟨w.heap.size + 1, 2, none⟩ = some (.int .i64 b.mn) ∧ w'.cell? ⟨w.heap.size + 1, 3, none⟩ = some (.int .i64 b.mx) ∧ w'.cell? ⟨w.heap.size + 1, 4, none⟩ = some (.int .i64 b.f) ∧ w'.cell? ⟨w.heap.size + 1, 5, none⟩ = some (.int .i64 b.l) ∧ w'.cell? ⟨w.heap.size + 1, 6, none⟩ = some (.int .i64 b.r) ∧ w'.cell? ⟨w.heap.size + 1 + 1, 0, none⟩ = some (.int .i64 c.c) ∧ w'.cell? ⟨w.heap.size + 1 + 1, 1, none⟩ = some (.int .i64 c.t) ∧ w'.cell? ⟨w.heap.size + 1 + 1, 2, none⟩ = some (.int .i64 c.mn) ∧ w'.cell? ⟨w.heap.size + 1 + 1, 3, none⟩ = some (.int .i64 c.mx) ∧ w'.cell? ⟨w.heap.size + 1 + 1, 4, none⟩ = some (.int .i64 c.f) ∧ w'.cell? ⟨w.heap.size + 1 + 1, 5, none⟩ = some (.int .i64 c.l) ∧ w'.cell? ⟨w.heap.size + 1 + 1, 6, none⟩ = some (.int .i64 c.r))
      (exact HSB.out _ (by assumption))
      (first
        | (go_at_call 7; refine (join_k a b c K k1.out k2.out _ _ (by first | exact .inl ⟨rfl, rfl⟩ | exact .inr ⟨rfl, rfl⟩) _).mono ?_; rintro e w2 ⟨rfl, hb2⟩; have R2 := below_step hb2 (by assumption))
        | (go_at_call 7; refine (join_any _ _ _).mono ?_; rintro e w2 ⟨rfl, hb2⟩; have R2 := below_step hb2 (by assumption)))
    have belZ := belU.trans (R2.mono belU.size)
    go_wp2
    go_ret
    exact ⟨by simp, belZ⟩

end Go.Proofs.Ythbllehncjeolab
