/-
  The walk of AggParts.
-/
import Derived.Test.YthbllehncjeolaaAggAlive
import Derived.Test.YthbllehncjeolaaUtilD
import Derived.Test.YthbllehncjeolaaInfo
namespace Go.Proofs.Ythbllehncjeolaa
open Go.RowKit Go.GrainU

set_option maxHeartbeats 2000000 in
theorem parts_any (a b : List (Int × Int)) (aa ab : Option Addr) (na ca nb cb : Nat) (w : World) (sa : Seg w aa (scells a)) (sb : Seg w ab (scells b)) (hna : na = a.length) (hnb : nb = b.length)
    (ea : aa = none → na = 0 ∧ ca = 0) (eb : ab = none → nb = 0 ∧ cb = 0) (ha : na ≤ 1048576) (hb : nb ≤ 1048576) :
    Calls Try.prog 8 #[.slice aa na ca, .slice ab nb cb] w fun e w' => e = .returned (.bool true) ∧ Below w.heap.size w w' := by
  obtain ⟨i0, hi, hz0, hz1, hz2⟩ := info_parts Try.infoSample
  have Hna := hide hna
  have Hnb := hide hnb
  clear hna hnb
  go_enter Try.func8, Try.ntmps8
  go_wp2_with fail
  refine (alive_any _).mono ?_
  rintro e w1 ⟨rfl, hb1⟩
  have hs1 := hb1.size
  have sa1 := (sa.below hb1).below ((Below.refl w1.heap.size w1).alloc (Nat.le_refl _) (.cells #[] 36))
  have sb1 := (sb.below hb1).below ((Below.refl w1.heap.size w1).alloc (Nat.le_refl _) (.cells #[] 36))
  have own0 : (w1.alloc (.cells #[] 36)).ownsRow w.heap.size 36 2 (.slice (some ⟨w1.heap.size, 0, none⟩) 0 0) 0 [] := World.ownsRow_lit w1 #[] 0 hs1 (by unfold maxLen; omega) rfl
  have bel0 : Below w.heap.size w (w1.alloc (.cells #[] 36)) := hb1.alloc hs1 _
  have la := scells_length a
  have lb := scells_length b
  have hl2 : (scells a).length = na * 2 := by rw [la, Hna.out]
  have hl3 : (scells b).length = nb * 2 := by rw [lb, Hnb.out]
  have HL2 := hide hl2
  have HL3 := hide hl3
  clear la lb hl2 hl3
  have bs0 := bel0.size
  go_wp2_with (first
    | (at_builtin; refine append_seg rfl _ _ 22 rfl w.heap.size 36 i0 (.agg #[.int .i64 0, .int .i64 0]) 2 16 Try.underlying22 hi hz0 hz1 hz2 rfl (by decide) _ _ _ rfl own0 aa na ca (scells a) rfl ea sa1 HL2.out (scells_one a) (by unfold maxLen; omega) (by omega) (by simp; omega) ?_; intro v1 W1 own1 gr1)
    | (at_builtin; have bel1 : Below w.heap.size w W1 := bel0.grown gr1 bs0 (fun j hj => (own0.lt j hj).1); have bs1 := bel1.size; refine append_seg rfl _ _ 22 rfl w.heap.size 36 i0 (.agg #[.int .i64 0, .int .i64 0]) 2 16 Try.underlying22 hi hz0 hz1 hz2 rfl (by decide) v1 (0 + na) ([] ++ scells a) rfl own1 ab nb cb (scells b) rfl eb (sb.below bel1) HL3.out (scells_one b) (by unfold maxLen; omega) (by omega) bs1 ?_; intro v2 W2 own2 gr2))
  have bel1 : Below w.heap.size w W1 := bel0.grown gr1 bs0 (fun j hj => (own0.lt j hj).1)
  have bs1 := bel1.size
  have bel2 : Below w.heap.size w W2 := bel1.grown gr2 bs1 (fun j hj => (own1.lt j hj).1)
  have bs2 := bel2.size
  obtain ⟨ao, c2, rfl, seg2, _⟩ := own_open own2
  have seg3 : Seg W2 ao (scells (a ++ b)) := by rw [scells_append]; exact seg2
  refine (of_len (a ++ b) ao (0 + na + nb) c2 W2 seg3 (by rw [List.length_append, ← Hna.out, ← Hnb.out]; omega) (by omega)).mono ?_
  rintro e w3 ⟨J, HJ, rfl, hb3⟩
  have bel3 := bel2.trans (hb3.mono bs2)
  clear own0 own1 own2 gr1 gr2 seg2 seg3 hb3 bel0 bel1 bel2 sa1 sb1 hb1 HL2 HL3
  go_wp2_with fail
  refine (of_len a aa na ca _ (sa.below bel3) Hna.out (by omega)).mono ?_
  rintro e w4 ⟨Ja, HJa, rfl, hb4⟩
  have bel4 := bel3.trans (hb4.mono bel3.size)
  clear hb4
  go_wp2_with fail
  refine (of_len b ab nb cb _ (sb.below bel4) Hnb.out (by omega)).mono ?_
  rintro e w5 ⟨Jb, HJb, rfl, hb5⟩
  have bel5 := bel4.trans (hb5.mono bel4.size)
  clear hb5
  go_wp2_with fail
  refine (join_let Ja Jb _).mono ?_
  rintro e w6 ⟨K, HK, rfl, hb6⟩
  have bel6 := bel5.trans (hb6.mono bel5.size)
  clear hb6
  have hE : K = J := by
    rw [HK.out, HJ.out, HJa.out, HJb.out]
    exact (Grain.of_append a b (by rw [← Hna.out]; omega) (by rw [← Hnb.out]; omega)).symm
  clear HK HJ HJa HJb
  subst hE
  go_wp2
  go_ret
  exact ⟨ret_bool (by simp), bel6⟩

end Go.Proofs.Ythbllehncjeolaa
