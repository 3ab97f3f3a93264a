/-
  The walk of AggRise.
-/
import Derived.Test.YthbllehncjeolabRiseC
import Derived.Test.YthbllehncjeolabAggAlive
import Derived.Test.YthbllehncjeolabUtilC
import Derived.Test.YthbllehncjeolabUtilD
import Derived.Test.YthbllehncjeolabUtilB
import Derived.Test.YthbllehncjeolabFieldL
namespace Go.Proofs.Ythbllehncjeolab
open Go.RowKit Go.GrainU

set_option maxHeartbeats 4000000 in
theorem rise_any' (a b : List Int) (aa ab : Option Addr) (na ca nb cb : Nat) (w : World) (sa : Seg w aa (icells a)) (sb : Seg w ab (icells b)) (hna : na = a.length) (hnb : nb = b.length) (ha : na ≤ 1152921504606846975) (hb : nb ≤ 1152921504606846975) :
    Calls Try.prog 5 #[.slice aa na ca, .slice ab nb cb] w fun e w' => e = .returned (.bool true) ∧ Below w.heap.size w w' := by
  obtain ⟨i0, hi, hz0, hz1, hz2⟩ := info_parts Try.infoSample
  have Hna := hide hna
  have Hnb := hide hnb
  clear hna hnb
  go_enter Try.func5, Try.ntmps5
  go_wp2_with fail
  refine (alive_any _).mono ?_
  rintro e w1 ⟨rfl, hb1⟩
  have hs1 := hb1.size
  go_wp2_with fail
  refine (made_any a aa na ca _ (sa.below hb1) Hna.out ha).mono ?_
  rintro e w2 ⟨x, last, rfl, MX, hb2⟩
  have bel2 := hb1.trans (hb2.mono hs1)
  have hs2 := bel2.size
  go_wp2_with fail
  refine (made_any b ab nb cb _ (sb.below bel2) Hnb.out hb).mono ?_
  rintro e w3 ⟨y, end', rfl, MY, hb3⟩
  have bel3 := bel2.trans (hb3.mono hs2)
  have hs3 := bel3.size
  have lt12 := hb2.size
  have lt23 := hb3.size
  rcases MX with ⟨ax, cx, rfl⟩ | ⟨gx, n, cx, rfl, own2, n0, n1, oka, rfl⟩
  · clear MY hb3 bel2
    go_wp2
    go_ret
    exact ⟨rfl, bel3⟩
  · have qx : (((n : Nat) : Int) == 0) = false := by simp; omega
    rcases MY with ⟨ay, cy, rfl⟩ | ⟨gy, m, cy, rfl, ownY, m0, m1, okb, rfl⟩
    · clear own2 bel2 hb3
      go_wp2
      go_ret
      exact ⟨rfl, bel3⟩
    · have qy : (((m : Nat) : Int) == 0) = false := by simp; omega
      have ownX := own_below own2 hb3
      have gX := own_block ownX
      have gY := own_block ownY
      have x0 : w3.cell? ⟨gx, 1, none⟩ = some (.int .i64 (Grain.ac a 1)) := by
        rw [ownX.cellAt 1 (by omega), (scells_at (Grain.sm a n) 0 (by rw [Grain.sm_len]; omega)).2, Grain.sm_vl a n 0 (by omega)]
      have y0 : w3.cell? ⟨gy, 1, none⟩ = some (.int .i64 (Grain.ac b 1)) := by
        rw [ownY.cellAt 1 (by omega), (scells_at (Grain.sm b m) 0 (by rw [Grain.sm_len]; omega)).2, Grain.sm_vl b m 0 (by omega)]
      have bdL := Grain.ac_bd a n oka
      have bdE := Grain.ac_bd b m okb
      have bdX := Grain.ac_bd a 1 (fun j hj => oka j (by omega))
      have bdY := Grain.ac_bd b 1 (fun j hj => okb j (by omega))
      have upY : Grain.ac b 1 ≤ Grain.ac b m := by
        obtain ⟨k, rfl⟩ : ∃ k, m = k + 1 := ⟨m - 1, by omega⟩
        exact Grain.ac_first b k okb
      have R1 := hide (Grain.rise_one a n n0 n1 oka)
      have R2 := hide (fun h => Grain.rise_two a b n m n0 n1 m0 m1 oka okb h)
      obtain ⟨L, hL⟩ : ∃ L, L = Grain.ac a n := ⟨_, rfl⟩
      obtain ⟨E, hE⟩ : ∃ E, E = Grain.ac b m := ⟨_, rfl⟩
      obtain ⟨X, hX⟩ : ∃ X, X = Grain.ac a 1 := ⟨_, rfl⟩
      obtain ⟨Y, hY⟩ : ∃ Y, Y = Grain.ac b 1 := ⟨_, rfl⟩
      rw [← hL] at bdL R1 R2 ⊢
      rw [← hE] at bdE upY R2 ⊢
      rw [← hX] at bdX x0 R1 R2
      rw [← hY] at bdY y0 upY R2
      clear hL hE hX hY own2 hb3 bel2 hb2 hb1 oka okb
      by_cases hc : L ≤ Y
      · go_wp2
        go_ret
        exact ⟨rfl, bel3⟩
      · have hd1 : decide (L ≤ Y) = false := by simp; omega
        have k1 : IntKind.i64.wrap (L - X) = L - X := IntWalk.i64_in _ ⟨by omega, by omega⟩
        have k2 : IntKind.i64.wrap (L - X + E) = L - X + E := IntWalk.i64_in _ ⟨by omega, by omega⟩
        have HK : Hid (∀ w' : World, Below w3.heap.size w3 w' → w'.cell? ⟨gx, 1, none⟩ = some (.int .i64 X)) := fun w' h => (h.cell (p := ⟨gx, 1, none⟩) gX.2).trans x0
        have hf := field_rise
        have n0' : (0 : Int) < ((n : Nat) : Int) := by omega
        have n0'' : 0 < n := by omega
        have m0' : (0 : Int) < ((m : Nat) : Int) := by omega
        have m0'' : 0 < m := by omega
        have R0 : Below w3.heap.size w3 w3.drew := below_drewN (Below.refl _ w3) 1
        have sX := (own_seg ownX).below R0
        have lX := hide (Grain.sm_len a n)
        have lY := hide (Grain.sm_len b m)
        go_wp2_with fail
        all_goals
          go_region_held3 (fun w' => w'.cell? ⟨gx, 1, none⟩ = some (.int .i64 X))
            (exact HK.out _ (by assumption))
            (first
              | (go_at_call 8; refine (of_len (Grain.sm a n) (some ⟨gx, 0, none⟩) n cx _ sX lX.out.symm (by omega)).mono ?_; rintro e w4 ⟨J, HJ, rfl, hb4⟩; have R4 : Below w3.heap.size w3 w4 := R0.trans hb4; have hJ : J.r = L - X := by rw [HJ.out]; exact R1.out))
          have bel4 := bel3.trans (R4.mono hs3)
          have hs4 := bel4.size
          have hs34 := R4.size
          have ownX4 : w4.drew.ownsRow w1.heap.size 29 2 (.slice (some ⟨gx, 0, none⟩) n cx) n (scells (Grain.sm a n)) := own_below ownX (below_drewN R4 1)
          have ownY4 : w4.drew.ownsRow w2.heap.size 29 2 (.slice (some ⟨gy, 0, none⟩) m cy) m (scells (Grain.sm b m)) := own_below ownY (below_drewN R4 1)
          have S4 : w4.drew.cell? ⟨gx, 1, none⟩ = some (.int .i64 X) ∧ w4.drew.cell? ⟨gy, 1, none⟩ = some (.int .i64 Y) := ⟨(R4.cell (p := ⟨gx, 1, none⟩) gX.2).trans x0, (R4.cell (p := ⟨gy, 1, none⟩) gY.2).trans y0⟩
          have cY := R2.out (by omega)
          clear HJ hb4 R0 HK x0 y0 sX R2
          go_wp2_with fail
          go_region_held3 (fun w' => w'.cell? ⟨gx, 1, none⟩ = some (.int .i64 X) ∧ w'.cell? ⟨gy, 1, none⟩ = some (.int .i64 Y))
            (assumption)
            (first
              | (refine step_append_keep (by rfl) (.tmp 62) (.tmp 63) 27 (by rfl) w1.heap.size 29 i0 (.agg #[.int .i64 0, .int .i64 0]) 2 16 Try.underlying27 hi hz0 hz1 hz2 rfl (by decide) gx n cx (scells (Grain.sm a n)) (by rfl) ownX4 ⟨gy, 0, none⟩ m cy (scells (Grain.sm b m)) (by rfl) ownY4.1 (ownY4.cells rfl) (scells_one _) (by omega) (by unfold maxLen; omega) (by omega) (by simp; omega) ?_; intro g cp w5 own5 gr5 keep5; have S5 : w5.cell? ⟨gx, 1, none⟩ = some (.int .i64 X) ∧ w5.cell? ⟨gy, 1, none⟩ = some (.int .i64 Y) := ⟨(keep5 gx 1 (by simp; omega) (fun _ => by omega)).trans S4.1, (keep5 gy 1 (by simp; omega) (fun _ => by omega)).trans S4.2⟩)
              | (go_at_call 8; refine (of_len (Grain.sm a n ++ Grain.sm b m) (some ⟨g, 0, none⟩) (n + m) cp _ (by rw [scells_append]; exact own_seg own5) (by rw [List.length_append, lX.out, lY.out]) (by omega)).mono ?_; rintro e w6 ⟨K, HK, rfl, hb6⟩; have S6 : w6.cell? ⟨gx, 1, none⟩ = some (.int .i64 X) ∧ w6.cell? ⟨gy, 1, none⟩ = some (.int .i64 Y) := ⟨(hb6.cell (p := ⟨gx, 1, none⟩) (World.block_lt_of_cell? _ _ S5.1)).trans S5.1, (hb6.cell (p := ⟨gy, 1, none⟩) (World.block_lt_of_cell? _ _ S5.2)).trans S5.2⟩; have hK : K.r = L - X + E := by rw [HK.out]; exact cY))
          have bel5 : Below w.heap.size w w5 := (below_drewN bel4 1).grown gr5 (by exact hs4) (fun j hj => by simp at hj; subst hj; omega)
          have bel6 := bel5.trans (hb6.mono bel5.size)
          clear S4 S5 S6 keep5 own5 gr5 hb6 ownX4 ownY4
          go_wp2
          go_ret
          exact ⟨rfl, bel6⟩

end Go.Proofs.Ythbllehncjeolab
