/-
  The walk of the document's own Read.
-/
import Derived.Test.YtfgablhgjbjbkaePlX
import Derived.Test.YtfgablhgjbjbkaePlT
import Derived.Test.YtfgablhgjbjbkaeSkipL
import Derived.Test.YtfgablhgjbjbkaeShX
import Derived.Test.YtfgablhgjbjbkaeStepApp
import Derived.Test.YtfgablhgjbjbkaeShF
import Derived.Test.YtfgablhgjbjbkaeRefIn
import Derived.Test.YtfgablhgjbjbkaeRefOf
import Derived.Deep.CutRange
namespace Grain
theorem rawB_take {l : List (Int × Int)} {k : Nat} (h : k < l.length) : rawB (l.take (k + 1)) = rawB (l.take k) ++ [⟨tm l k, one (vl l k)⟩] := by rw [take_tm h, rawB_snoc]
theorem rawB_len (l : List (Int × Int)) : (rawB l).length = l.length := by simp [rawB]
theorem winB_take {B : List Bk} {k : Nat} (f t : Int) (h : k < B.length) : (winB (B.take (k + 1)) f t).length = (winB (B.take k) f t).length + (if f ≤ (bk B k).a ∧ (bk B k).a < t then 1 else 0) := by
  rw [take_bk h, winB, winB, List.filter_append]
  by_cases c : f ≤ (bk B k).a ∧ (bk B k).a < t
  · rw [if_pos c, List.filter_cons_of_pos (by simpa using c)]; simp
  · rw [if_neg c, List.filter_cons_of_neg (by simpa using c)]; simp
def accB (B : List Bk) (f t : Int) (a : Sm) : Sm := B.foldl (fun acc b => if f ≤ b.a ∧ b.a < t then join acc b.s else acc) a
theorem accB_take {B : List Bk} {k : Nat} (f t : Int) (a : Sm) (h : k < B.length) : accB (B.take (k + 1)) f t a = if f ≤ (bk B k).a ∧ (bk B k).a < t then join (accB (B.take k) f t a) (bk B k).s else accB (B.take k) f t a := by
  unfold accB
  rw [take_bk h, List.foldl_append]; rfl
end Grain
namespace Go.GrainU
open Go.RowKit
theorem seg_set7 {w : World} {B : Nat} {ao : Option Addr} {xs : List Value} (h : Seg w ao xs) (hne : xs ≠ [] → ∀ b off, ao = some ⟨b, off, none⟩ → b ≠ B) (v0 v1 v2 v3 v4 v5 v6 : Value) :
    Seg (((((((w.setCell ⟨B, 0, none⟩ v0).setCell ⟨B, 1, none⟩ v1).setCell ⟨B, 2, none⟩ v2).setCell ⟨B, 3, none⟩ v3).setCell ⟨B, 4, none⟩ v4).setCell ⟨B, 5, none⟩ v5).setCell ⟨B, 6, none⟩ v6) ao xs := by
  rcases h with h | ⟨b, off, rfl, hc⟩
  · exact .inl h
  · by_cases hx : xs = []
    · exact .inl hx
    · have hb := hne hx b off rfl
      refine .inr ⟨b, off, rfl, fun j hj => ?_⟩
      rw [← hc j hj]
      have e : (((((((w.setCell ⟨B, 0, none⟩ v0).setCell ⟨B, 1, none⟩ v1).setCell ⟨B, 2, none⟩ v2).setCell ⟨B, 3, none⟩ v3).setCell ⟨B, 4, none⟩ v4).setCell ⟨B, 5, none⟩ v5).setCell ⟨B, 6, none⟩ v6).heap[b]? = w.heap[b]? := by
        rw [setCell_far hb, setCell_far hb, setCell_far hb, setCell_far hb, setCell_far hb, setCell_far hb, setCell_far hb]
      simp [World.cell?, e]
theorem far7 {w : World} {B C : Nat} {o : Option Obj} (h : w.heap[C]? = o) (hn : C ≠ B) (v0 v1 v2 v3 v4 v5 v6 : Value) :
    (((((((w.setCell ⟨B, 0, none⟩ v0).setCell ⟨B, 1, none⟩ v1).setCell ⟨B, 2, none⟩ v2).setCell ⟨B, 3, none⟩ v3).setCell ⟨B, 4, none⟩ v4).setCell ⟨B, 5, none⟩ v5).setCell ⟨B, 6, none⟩ v6).heap[C]? = o := by
  rw [setCell_far hn, setCell_far hn, setCell_far hn, setCell_far hn, setCell_far hn, setCell_far hn, setCell_far hn]; exact h
end Go.GrainU
namespace Go.Proofs.Ytfgablhgjbjbkae
open Go.RowKit Go.GrainU

theorem own_at3 {w : World} {base e size n c : Nat} {ao : Option Addr} {xs : List Value} (h : w.ownsRow base e size (.slice ao n c) n xs) {b off : Nat} (ha : ao = some ⟨b, off, none⟩) : base ≤ b := by
  subst ha
  rcases h.2 with ⟨h2, _⟩ | ⟨g, cap, cur, hv, hg, _⟩
  · simp at h2
  · simp at hv
    obtain ⟨⟨rfl, _⟩, _⟩ := hv
    exact hg

theorem seg_lt3 {w : World} {b off : Nat} {xs : List Value} (h : Seg w (some ⟨b, off, none⟩) xs) (hx : xs ≠ []) : b < w.heap.size := by
  rcases h with h | ⟨b', off', e, hc⟩
  · exact absurd h hx
  · simp at e
    obtain ⟨rfl, rfl⟩ := e
    exact Seg.block_lt hc hx

theorem kc_one (k : Grain.Bk) : ∀ u ∈ kc k, u.oneCell' = true := by
  intro u hu
  simp [kc] at hu
  rcases hu with rfl | rfl | rfl | rfl | rfl | rfl | rfl | rfl <;> rfl

theorem eight_seg (w : World) (v0 v1 v2 v3 v4 v5 v6 v7 : Value) (t : TypeId) : Seg (w.alloc (.cells #[v0, v1, v2, v3, v4, v5, v6, v7] t)) (some ⟨w.heap.size, 0, none⟩) [v0, v1, v2, v3, v4, v5, v6, v7] := by
  have h := heap_alloc_new w (.cells #[v0, v1, v2, v3, v4, v5, v6, v7] t)
  refine .inr ⟨w.heap.size, 0, rfl, fun j hj => ?_⟩
  have hj2 : j < 8 := hj
  rw [cell_of_row _ w.heap.size _ _ t (0, 0) h]
  rcases (show j = 0 ∨ j = 1 ∨ j = 2 ∨ j = 3 ∨ j = 4 ∨ j = 5 ∨ j = 6 ∨ j = 7 by omega) with rfl | rfl | rfl | rfl | rfl | rfl | rfl | rfl <;> rfl

theorem rone_any (t v : Int) (b : Nat) (w : World) (hs : Seg w (some ⟨b, 0, none⟩) (scells [(t, v)])) (h1 : -1000000000 ≤ v) (h2 : v ≤ 1000000000) :
    Calls Try.prog 60 #[.slice (some ⟨b, 0, none⟩) 1 1] w fun e w' => e = .returned (.agg #[.int .i64 1, .int .i64 v, .int .i64 v, .int .i64 v, .int .i64 v, .int .i64 v, .int .i64 0]) ∧ Below w.heap.size w w' := by
  refine (rof_some [(t, v)] b 0 1 1 w hs rfl (by decide) (by decide) (fun j hj => ?_)).mono ?_
  · obtain rfl : j = 0 := by omega
    simp [Grain.vl]; omega
  · rintro e w1 ⟨rfl, hb⟩
    exact ⟨rfl, hb⟩

set_option maxRecDepth 20000 in
set_option maxHeartbeats 16000000 in
theorem rread_any (x : ShT) (l : List Grain.Pt) (ao : Option Addr) (n c : Nat) (w : World) (hx : ShIn w x) (hs : Seg w ao (pcells l)) (hn : n = l.length) (hL : n ≤ 10000000000000) :
    Calls Try.prog 34 #[x.v, .slice ao n c] w fun e w' => ∃ (J : Grain.Sm) (N E : Int), e = .returned (.tuple #[.agg #[.int .i64 J.c, .int .i64 J.t, .int .i64 J.mn, .int .i64 J.mx, .int .i64 J.f, .int .i64 J.l, .int .i64 J.r], .int .i64 N, .int .i64 E]) ∧ Hid (Grain.read x.s l = (J, N, E)) ∧ Below w.heap.size w w' := by
  obtain ⟨i0, hi, hz0, hz1, hz2⟩ := info_parts Try.infoBucket
  have HN := hide hn
  clear hn
  obtain ⟨X, hX⟩ : ∃ X, X = w.heap.size := ⟨_, rfl⟩
  obtain ⟨V, hV⟩ : ∃ V, V = (w.alloc (so x)).alloc (.cells #[.int .i64 0, .int .i64 0, .int .i64 0, .int .i64 0, .int .i64 0, .int .i64 0, .int .i64 0] 62) := ⟨_, rfl⟩
  have bel : Below w.heap.size w V := by rw [hV]; exact ((Below.refl _ _).alloc (Nat.le_refl _) _).alloc (by simp) _
  have S0 : V.heap[X]? = some (so x) := by rw [hV, hX, Below.heap_alloc _ _ _ (by simp)]; exact heap_alloc_new w _
  have Z0 : SumAt V (X + 1) Grain.zero := by
    show V.heap[X + 1]? = _
    rw [hV, hX]; have := heap_alloc_new (w.alloc (so x)) (.cells #[.int .i64 0, .int .i64 0, .int .i64 0, .int .i64 0, .int .i64 0, .int .i64 0, .int .i64 0] 62); rwa [World.size_alloc] at this
  have hxV := hx.below bel
  have hsV := hs.below bel
  have HV : Hid (V = (w.alloc (.cells #[.slice x.a0 x.s.se.length x.c0, .slice x.a1 x.s.ra.length x.c1, .slice x.a2 x.s.fi.length x.c2, .slice x.a3 x.s.co.length x.c3, .int .i64 x.s.rf, .int .i64 x.s.ff, .int .i64 x.s.ft, .int .i64 x.s.cf, .int .i64 x.s.ct] 44)).alloc (.cells #[.int .i64 0, .int .i64 0, .int .i64 0, .int .i64 0, .int .i64 0, .int .i64 0, .int .i64 0] 62)) := hV
  have HX := hide hX
  have Hv : Hid (x.v = .agg #[.slice x.a0 x.s.se.length x.c0, .slice x.a1 x.s.ra.length x.c1, .slice x.a2 x.s.fi.length x.c2, .slice x.a3 x.s.co.length x.c3, .int .i64 x.s.rf, .int .i64 x.s.ff, .int .i64 x.s.ft, .int .i64 x.s.cf, .int .i64 x.s.ct]) := rfl
  have HXW := hide hx
  obtain ⟨E, hE⟩ : ∃ E, E = Grain.swrong x.s := ⟨_, rfl⟩
  have HE := hide hE
  clear hV hX hE hx hs
  rw [Hv.out]
  go_enter Try.func34, Try.ntmps34
  go_wp2_with fail
  rw [← HV.out, ← Hv.out]
  refine (rshwrong_any x V hxV).mono ?_
  rintro e w1 ⟨rfl, hb1⟩
  rw [← HE.out, ← HX.out]
  have bel1 : Below w.heap.size w w1 := below_pl hb1 bel
  have S1 := below_block hb1 S0
  have Z1 := Z0.below hb1
  have hx1 := hxV.below hb1
  have hs1 := hsV.below hb1
  clear hb1 S0 Z0 hxV hsV bel
  by_cases hw : E = 0
  · subst hw
    have sr := (Grain.sr_iff x.s).1 HE.out.symm
    have HSR := hide sr
    obtain ⟨B, hB⟩ : ∃ B, B = w1.heap.size := ⟨_, rfl⟩
    obtain ⟨U, hU⟩ : ∃ U, U = w1.alloc (.cells #[.int .i64 0, .int .i64 0, .int .i64 0, .int .i64 0, .int .i64 0, .int .i64 0, .int .i64 0] 62) := ⟨_, rfl⟩
    have A0 : SumAt U B Grain.zero := by show U.heap[B]? = _; rw [hU, hB]; exact heap_alloc_new w1 _
    have belU : Below w1.heap.size w1 U := by rw [hU]; exact (Below.refl _ _).alloc (Nat.le_refl _) _
    have wB : w.heap.size ≤ B := by rw [hB]; exact bel1.size
    have XB : X + 1 < B := by rw [hB]; exact lt_of_block Z1
    have HU := hide hU
    have HBB := hide hB
    have bB : w1.heap.size ≤ B := by omega
    clear hU hB sr
    go_wp2
    rw [← HU.out, ← HBB.out]
    go_loopw [9, 25] (fun s9 s25 wr => ∃ (k N : Nat) (s : Grain.Sm), k ≤ n ∧ s9 = .int .i64 N ∧ s25 = .int .i64 k ∧ N ≤ 500 * k ∧ SumAt wr B s ∧ Below w1.heap.size w1 wr ∧ Hid (s = Grain.rdS x.s (l.take k)) ∧ Hid (N = Grain.rdN x.s (l.take k)) ∧ Hid (∀ j, j < k → Grain.okp x.s l j = true)) (fun _ s25 _ => n - (intOf s25).toNat)
    case atStart => exact ⟨0, 0, Grain.zero, Nat.zero_le _, rfl, rfl, by omega, A0, belU, rfl, rfl, (fun j hj => absurd hj (Nat.not_lt_zero _) : ∀ j, j < 0 → Grain.okp x.s l j = true)⟩
    case round =>
      clear A0 belU
      obtain ⟨k, N, s, hk, rfl, rfl, hNk, A1, belr, H1, H2, HO⟩ := hrel
      by_cases hlt : k < n
      · have hkl : k < l.length := by rw [← HN.out]; exact hlt
        obtain ⟨bb, off, rfl, hbl, hcell⟩ := seg_part hs1 hkl
        obtain ⟨P, hP⟩ : ∃ P, P = Grain.pt l k := ⟨_, rfl⟩
        have q := (hcell k hkl).below belr hbl
        rw [← hP] at q
        obtain ⟨c0, c1, c2⟩ := q
        obtain ⟨Q, hQ⟩ : ∃ Q, Q = wr.heap.size := ⟨_, rfl⟩
        obtain ⟨W, hW⟩ : ∃ W, W = wr.alloc (.cells #[.int .i64 P.k, .int .i64 P.f, .int .i64 P.t] 112) := ⟨_, rfl⟩
        have hbW : Below wr.heap.size wr W := by rw [hW]; exact (Below.refl _ _).alloc (Nat.le_refl _) _
        have P0 : W.heap[Q]? = some (.cells #[.int .i64 P.k, .int .i64 P.f, .int .i64 P.t] 112 (0, 0)) := by rw [hW, hQ]; exact heap_alloc_new wr _
        have belW : Below w1.heap.size w1 W := below_pl hbW belr
        have A2 := A1.below hbW
        have S2 := below_block belW S1
        have BQ : B < Q := by rw [hQ]; exact lt_of_block A1
        have HW := hide hW
        have HQ := hide hQ
        have HP := hide hP
        have HCell := hide hcell
        have HKL := hide hkl
        obtain ⟨m, hm⟩ : ∃ m, m = Grain.may x.s P := ⟨_, rfl⟩
        have HM := hide hm
        obtain ⟨b', hb'⟩ : ∃ b', b' = !Grain.okp x.s l k := ⟨_, rfl⟩
        have HB' := hide hb'
        have hBr : B < wr.heap.size := lt_of_block A1
        clear hW hQ hP hcell hkl hm hb' hbW A1 belr
        go_upto_region 9 with fail
        rw [← HW.out, ← HQ.out]
        clear c0 c1 c2 HW HQ hBr
        obtain ⟨x0, x1, x2, x3, x4, x5, x6, x7, x8⟩ := nine_cells S2
        obtain ⟨y0, y1, y2⟩ := three3 P0
        have Xl : X < W.heap.size := lt_of_block S2
        have Yl : Q < W.heap.size := lt_of_block P0
        go_cut [48] from 30 to 49 (fun v wx => v = .bool b' ∧ Below W.heap.size W wx)
        case first =>
          cases m
          · have e : b' = true := by rw [HB'.out, Grain.okp, ← HP.out, ← HM.out]; rfl
            subst e
            have HS : Hid (∀ w', Below W.heap.size W w' → w'.cell? ⟨X, 0, none⟩ = some (.slice x.a0 x.s.se.length x.c0) ∧ w'.cell? ⟨X, 1, none⟩ = some (.slice x.a1 x.s.ra.length x.c1) ∧ w'.cell? ⟨X, 2, none⟩ = some (.slice x.a2 x.s.fi.length x.c2) ∧ w'.cell? ⟨X, 3, none⟩ = some (.slice x.a3 x.s.co.length x.c3) ∧ w'.cell? ⟨X, 4, none⟩ = some (.int .i64 x.s.rf) ∧ w'.cell? ⟨X, 5, none⟩ = some (.int .i64 x.s.ff) ∧ w'.cell? ⟨X, 6, none⟩ = some (.int .i64 x.s.ft) ∧ w'.cell? ⟨X, 7, none⟩ = some (.int .i64 x.s.cf) ∧ w'.cell? ⟨X, 8, none⟩ = some (.int .i64 x.s.ct) ∧ w'.cell? ⟨Q, 0, none⟩ = some (.int .i64 P.k) ∧ w'.cell? ⟨Q, 1, none⟩ = some (.int .i64 P.f) ∧ w'.cell? ⟨Q, 2, none⟩ = some (.int .i64 P.t)) := fun w' hb' => ⟨(hb'.cell (by exact Xl)).trans x0, (hb'.cell (by exact Xl)).trans x1, (hb'.cell (by exact Xl)).trans x2, (hb'.cell (by exact Xl)).trans x3, (hb'.cell (by exact Xl)).trans x4, (hb'.cell (by exact Xl)).trans x5, (hb'.cell (by exact Xl)).trans x6, (hb'.cell (by exact Xl)).trans x7, (hb'.cell (by exact Xl)).trans x8, (hb'.cell (by exact Yl)).trans y0, (hb'.cell (by exact Yl)).trans y1, (hb'.cell (by exact Yl)).trans y2⟩
            have R1 : Below W.heap.size W W.drew := below_drewN (Below.refl _ _) 1
            clear x0 x1 x2 x3 x4 x5 x6 x7 x8 y0 y1 y2
            obtain ⟨x0, x1, x2, x3, x4, x5, x6, x7, x8, y0, y1, y2⟩ := HS.out _ R1
            refine wp_region_any (by kernel_rfl) ?_
            try (change wpAny _ _ _ _ _ _ _ (World.drew _))
            refine wpAny_ready (rs := [0, 1]) (by kernel_rfl) (by simp) ?_
            refine AllReady.cons rfl (fun K hK => ?_) (AllReady.cons rfl (fun K hK => ?_) AllReady.nil)
            · go_simp
              refine hK _ _ ?_
              clear hK K
              refine wpAny_ready (rs := [1]) (by kernel_rfl) (by simp) ?_
              refine AllReady.cons rfl (fun K hK => ?_) AllReady.nil
              go_simp
              refine hK _ _ ?_
              clear hK K
              clear x0 x1 x2 x3 x4 x5 x6 x7 x8 y0 y1 y2
              refine wpAny_ready (rs := [2]) (by kernel_rfl) (by simp) ?_
              refine AllReady.cons rfl (fun K hK => ?_) AllReady.nil
              go_simp
              go_wp2_with (first | (go_at_call 74; refine (rmay_any x.s _ _ _ _ P false _ HM.out).mono ?_; rintro e w9 ⟨rfl, hb9⟩; have R2 := below_pl hb9 R1; obtain ⟨x0, x1, x2, x3, x4, x5, x6, x7, x8, y0, y1, y2⟩ := HS.out _ R2; clear hb9))
              refine wpAny_ready (rs := [3]) (by kernel_rfl) (by simp) ?_
              refine AllReady.cons rfl (fun K hK => ?_) AllReady.nil
              go_simp
              refine hK _ _ ?_
              clear hK K
              refine wpAny_ready (rs := [4]) (by kernel_rfl) (by simp) ?_
              refine AllReady.cons rfl (fun K hK => ?_) AllReady.nil
              go_simp
              refine hK _ _ ?_
              clear hK K
              refine wpAny_skips (by kernel_rfl) (fun _ _ _ _ h => h) [(5, 35), (6, 36), (7, 37), (8, 38), (9, 39), (10, 40), (11, 41), (12, 42), (13, 43), (14, 44), (15, 45), (16, 46), (17, 47)] 1 14 _ _ _ rfl (by kernel_rfl) ?_
              simp only [skipAct, skipSet]
              refine wpAny_ready (rs := [18]) (by kernel_rfl) (by simp) ?_
              refine AllReady.cons rfl (fun K hK => ?_) AllReady.nil
              go_simp
              refine hK _ _ ?_
              clear hK K
              refine wpAny_done (by kernel_rfl) ?_ _
              go_wp2
              go_meet
              exact ⟨rfl, R2⟩
            · go_simp
              refine hK _ _ ?_
              clear hK K
              refine wpAny_ready (rs := [0]) (by kernel_rfl) (by simp) ?_
              refine AllReady.cons rfl (fun K hK => ?_) AllReady.nil
              go_simp
              refine hK _ _ ?_
              clear hK K
              clear x0 x1 x2 x3 x4 x5 x6 x7 x8 y0 y1 y2
              refine wpAny_ready (rs := [2]) (by kernel_rfl) (by simp) ?_
              refine AllReady.cons rfl (fun K hK => ?_) AllReady.nil
              go_simp
              go_wp2_with (first | (go_at_call 74; refine (rmay_any x.s _ _ _ _ P false _ HM.out).mono ?_; rintro e w9 ⟨rfl, hb9⟩; have R2 := below_pl hb9 R1; obtain ⟨x0, x1, x2, x3, x4, x5, x6, x7, x8, y0, y1, y2⟩ := HS.out _ R2; clear hb9))
              refine wpAny_ready (rs := [3]) (by kernel_rfl) (by simp) ?_
              refine AllReady.cons rfl (fun K hK => ?_) AllReady.nil
              go_simp
              refine hK _ _ ?_
              clear hK K
              refine wpAny_ready (rs := [4]) (by kernel_rfl) (by simp) ?_
              refine AllReady.cons rfl (fun K hK => ?_) AllReady.nil
              go_simp
              refine hK _ _ ?_
              clear hK K
              refine wpAny_skips (by kernel_rfl) (fun _ _ _ _ h => h) [(5, 35), (6, 36), (7, 37), (8, 38), (9, 39), (10, 40), (11, 41), (12, 42), (13, 43), (14, 44), (15, 45), (16, 46), (17, 47)] 1 14 _ _ _ rfl (by kernel_rfl) ?_
              simp only [skipAct, skipSet]
              refine wpAny_ready (rs := [18]) (by kernel_rfl) (by simp) ?_
              refine AllReady.cons rfl (fun K hK => ?_) AllReady.nil
              go_simp
              refine hK _ _ ?_
              clear hK K
              refine wpAny_done (by kernel_rfl) ?_ _
              go_wp2
              go_meet
              exact ⟨rfl, R2⟩
          · rcases Nat.eq_zero_or_pos k with hk0 | hk0
            · subst hk0
              have e : b' = false := by rw [HB'.out, Grain.okp, ← HP.out, ← HM.out]; rfl
              subst e
              have HS : Hid (∀ w', Below W.heap.size W w' → w'.cell? ⟨X, 0, none⟩ = some (.slice x.a0 x.s.se.length x.c0) ∧ w'.cell? ⟨X, 1, none⟩ = some (.slice x.a1 x.s.ra.length x.c1) ∧ w'.cell? ⟨X, 2, none⟩ = some (.slice x.a2 x.s.fi.length x.c2) ∧ w'.cell? ⟨X, 3, none⟩ = some (.slice x.a3 x.s.co.length x.c3) ∧ w'.cell? ⟨X, 4, none⟩ = some (.int .i64 x.s.rf) ∧ w'.cell? ⟨X, 5, none⟩ = some (.int .i64 x.s.ff) ∧ w'.cell? ⟨X, 6, none⟩ = some (.int .i64 x.s.ft) ∧ w'.cell? ⟨X, 7, none⟩ = some (.int .i64 x.s.cf) ∧ w'.cell? ⟨X, 8, none⟩ = some (.int .i64 x.s.ct) ∧ w'.cell? ⟨Q, 0, none⟩ = some (.int .i64 P.k) ∧ w'.cell? ⟨Q, 1, none⟩ = some (.int .i64 P.f) ∧ w'.cell? ⟨Q, 2, none⟩ = some (.int .i64 P.t)) := fun w' hb' => ⟨(hb'.cell (by exact Xl)).trans x0, (hb'.cell (by exact Xl)).trans x1, (hb'.cell (by exact Xl)).trans x2, (hb'.cell (by exact Xl)).trans x3, (hb'.cell (by exact Xl)).trans x4, (hb'.cell (by exact Xl)).trans x5, (hb'.cell (by exact Xl)).trans x6, (hb'.cell (by exact Xl)).trans x7, (hb'.cell (by exact Xl)).trans x8, (hb'.cell (by exact Yl)).trans y0, (hb'.cell (by exact Yl)).trans y1, (hb'.cell (by exact Yl)).trans y2⟩
              have R1 : Below W.heap.size W W.drew := below_drewN (Below.refl _ _) 1
              clear x0 x1 x2 x3 x4 x5 x6 x7 x8 y0 y1 y2
              obtain ⟨x0, x1, x2, x3, x4, x5, x6, x7, x8, y0, y1, y2⟩ := HS.out _ R1
              refine wp_region_any (by kernel_rfl) ?_
              try (change wpAny _ _ _ _ _ _ _ (World.drew _))
              refine wpAny_ready (rs := [0, 1]) (by kernel_rfl) (by simp) ?_
              refine AllReady.cons rfl (fun K hK => ?_) (AllReady.cons rfl (fun K hK => ?_) AllReady.nil)
              · go_simp
                refine hK _ _ ?_
                clear hK K
                refine wpAny_ready (rs := [1]) (by kernel_rfl) (by simp) ?_
                refine AllReady.cons rfl (fun K hK => ?_) AllReady.nil
                go_simp
                refine hK _ _ ?_
                clear hK K
                clear x0 x1 x2 x3 x4 x5 x6 x7 x8 y0 y1 y2
                refine wpAny_ready (rs := [2]) (by kernel_rfl) (by simp) ?_
                refine AllReady.cons rfl (fun K hK => ?_) AllReady.nil
                go_simp
                go_wp2_with (first | (go_at_call 74; refine (rmay_any x.s _ _ _ _ P true _ HM.out).mono ?_; rintro e w9 ⟨rfl, hb9⟩; have R2 := below_pl hb9 R1; obtain ⟨x0, x1, x2, x3, x4, x5, x6, x7, x8, y0, y1, y2⟩ := HS.out _ R2; clear hb9))
                refine wpAny_ready (rs := [3]) (by kernel_rfl) (by simp) ?_
                refine AllReady.cons rfl (fun K hK => ?_) AllReady.nil
                go_simp
                refine hK _ _ ?_
                clear hK K
                refine wpAny_ready (rs := [4]) (by kernel_rfl) (by simp) ?_
                refine AllReady.cons rfl (fun K hK => ?_) AllReady.nil
                go_simp
                refine hK _ _ ?_
                clear hK K
                refine wpAny_ready (rs := [5]) (by kernel_rfl) (by simp) ?_
                refine AllReady.cons rfl (fun K hK => ?_) AllReady.nil
                go_simp
                refine hK _ _ ?_
                clear hK K
                refine wpAny_ready (rs := [6]) (by kernel_rfl) (by simp) ?_
                refine AllReady.cons rfl (fun K hK => ?_) AllReady.nil
                go_simp
                refine hK _ _ ?_
                clear hK K
                refine wpAny_ready (rs := [7]) (by kernel_rfl) (by simp) ?_
                refine AllReady.cons rfl (fun K hK => ?_) AllReady.nil
                go_simp
                refine hK _ _ ?_
                clear hK K
                refine wpAny_skips (by kernel_rfl) (fun _ _ _ _ h => h) [(8, 38), (9, 39), (10, 40), (11, 41), (12, 42), (13, 43), (14, 44), (15, 45), (16, 46)] 2 11 _ _ _ rfl (by kernel_rfl) ?_
                simp only [skipAct, skipSet]
                refine wpAny_ready (rs := [17]) (by kernel_rfl) (by simp) ?_
                refine AllReady.cons rfl (fun K hK => ?_) AllReady.nil
                go_simp
                refine hK _ _ ?_
                clear hK K
                refine wpAny_ready (rs := [18]) (by kernel_rfl) (by simp) ?_
                refine AllReady.cons rfl (fun K hK => ?_) AllReady.nil
                go_simp
                refine hK _ _ ?_
                clear hK K
                refine wpAny_done (by kernel_rfl) ?_ _
                go_wp2
                go_meet
                exact ⟨rfl, R2⟩
              · go_simp
                refine hK _ _ ?_
                clear hK K
                refine wpAny_ready (rs := [0]) (by kernel_rfl) (by simp) ?_
                refine AllReady.cons rfl (fun K hK => ?_) AllReady.nil
                go_simp
                refine hK _ _ ?_
                clear hK K
                clear x0 x1 x2 x3 x4 x5 x6 x7 x8 y0 y1 y2
                refine wpAny_ready (rs := [2]) (by kernel_rfl) (by simp) ?_
                refine AllReady.cons rfl (fun K hK => ?_) AllReady.nil
                go_simp
                go_wp2_with (first | (go_at_call 74; refine (rmay_any x.s _ _ _ _ P true _ HM.out).mono ?_; rintro e w9 ⟨rfl, hb9⟩; have R2 := below_pl hb9 R1; obtain ⟨x0, x1, x2, x3, x4, x5, x6, x7, x8, y0, y1, y2⟩ := HS.out _ R2; clear hb9))
                refine wpAny_ready (rs := [3]) (by kernel_rfl) (by simp) ?_
                refine AllReady.cons rfl (fun K hK => ?_) AllReady.nil
                go_simp
                refine hK _ _ ?_
                clear hK K
                refine wpAny_ready (rs := [4]) (by kernel_rfl) (by simp) ?_
                refine AllReady.cons rfl (fun K hK => ?_) AllReady.nil
                go_simp
                refine hK _ _ ?_
                clear hK K
                refine wpAny_ready (rs := [5]) (by kernel_rfl) (by simp) ?_
                refine AllReady.cons rfl (fun K hK => ?_) AllReady.nil
                go_simp
                refine hK _ _ ?_
                clear hK K
                refine wpAny_ready (rs := [6]) (by kernel_rfl) (by simp) ?_
                refine AllReady.cons rfl (fun K hK => ?_) AllReady.nil
                go_simp
                refine hK _ _ ?_
                clear hK K
                refine wpAny_ready (rs := [7]) (by kernel_rfl) (by simp) ?_
                refine AllReady.cons rfl (fun K hK => ?_) AllReady.nil
                go_simp
                refine hK _ _ ?_
                clear hK K
                refine wpAny_skips (by kernel_rfl) (fun _ _ _ _ h => h) [(8, 38), (9, 39), (10, 40), (11, 41), (12, 42), (13, 43), (14, 44), (15, 45), (16, 46)] 2 11 _ _ _ rfl (by kernel_rfl) ?_
                simp only [skipAct, skipSet]
                refine wpAny_ready (rs := [17]) (by kernel_rfl) (by simp) ?_
                refine AllReady.cons rfl (fun K hK => ?_) AllReady.nil
                go_simp
                refine hK _ _ ?_
                clear hK K
                refine wpAny_ready (rs := [18]) (by kernel_rfl) (by simp) ?_
                refine AllReady.cons rfl (fun K hK => ?_) AllReady.nil
                go_simp
                refine hK _ _ ?_
                clear hK K
                refine wpAny_done (by kernel_rfl) ?_ _
                go_wp2
                go_meet
                exact ⟨rfl, R2⟩
            · obtain ⟨j, rfl⟩ : ∃ j, k = j + 1 := ⟨k - 1, by omega⟩
              have hg : decide ((0 : Int) < ((j + 1 : Nat) : Int)) = true := by simp
              have hg' : decide ((0 : Int) < (j : Int) + 1) = true := by simp
              obtain ⟨M, hM⟩ : ∃ M, M = (Grain.pt l j).t := ⟨_, rfl⟩
              have z2' : W.cell? ⟨bb, off + j * 3 + 2, none⟩ = some (.int .i64 M) := by
                rw [hM]; exact ((HCell.out j (by have := HKL.out; omega)).below belW hbl).2.2
              have Bl : bb < W.heap.size := Nat.lt_of_lt_of_le hbl belW.size
              have hw1 : IntKind.i64.wrap ((j : Int) + 1 - 1) = (j : Int) := by rw [IntKind.wrap_i64]; omega
              have hw2 : IntKind.i64.wrap (j : Int) = (j : Int) := by rw [IntKind.wrap_i64]; omega
              have hj : (j : Int) < (n : Int) := by omega
              by_cases he : P.f = M
              · have e : b' = false := by rw [HB'.out, Grain.okp, ← HP.out, ← HM.out]; simp [← hM, he]
                subst e
                have en : (P.f != M) = false := by simp [he]
                clear hM he
                have HS : Hid (∀ w', Below W.heap.size W w' → w'.cell? ⟨X, 0, none⟩ = some (.slice x.a0 x.s.se.length x.c0) ∧ w'.cell? ⟨X, 1, none⟩ = some (.slice x.a1 x.s.ra.length x.c1) ∧ w'.cell? ⟨X, 2, none⟩ = some (.slice x.a2 x.s.fi.length x.c2) ∧ w'.cell? ⟨X, 3, none⟩ = some (.slice x.a3 x.s.co.length x.c3) ∧ w'.cell? ⟨X, 4, none⟩ = some (.int .i64 x.s.rf) ∧ w'.cell? ⟨X, 5, none⟩ = some (.int .i64 x.s.ff) ∧ w'.cell? ⟨X, 6, none⟩ = some (.int .i64 x.s.ft) ∧ w'.cell? ⟨X, 7, none⟩ = some (.int .i64 x.s.cf) ∧ w'.cell? ⟨X, 8, none⟩ = some (.int .i64 x.s.ct) ∧ w'.cell? ⟨Q, 0, none⟩ = some (.int .i64 P.k) ∧ w'.cell? ⟨Q, 1, none⟩ = some (.int .i64 P.f) ∧ w'.cell? ⟨Q, 2, none⟩ = some (.int .i64 P.t) ∧ w'.cell? ⟨bb, off + j * 3 + 2, none⟩ = some (.int .i64 M)) := fun w' hb' => ⟨(hb'.cell (by exact Xl)).trans x0, (hb'.cell (by exact Xl)).trans x1, (hb'.cell (by exact Xl)).trans x2, (hb'.cell (by exact Xl)).trans x3, (hb'.cell (by exact Xl)).trans x4, (hb'.cell (by exact Xl)).trans x5, (hb'.cell (by exact Xl)).trans x6, (hb'.cell (by exact Xl)).trans x7, (hb'.cell (by exact Xl)).trans x8, (hb'.cell (by exact Yl)).trans y0, (hb'.cell (by exact Yl)).trans y1, (hb'.cell (by exact Yl)).trans y2, (hb'.cell (by exact Bl)).trans z2'⟩
                have R1 : Below W.heap.size W W.drew := below_drewN (Below.refl _ _) 1
                clear x0 x1 x2 x3 x4 x5 x6 x7 x8 y0 y1 y2
                obtain ⟨x0, x1, x2, x3, x4, x5, x6, x7, x8, y0, y1, y2, z2'⟩ := HS.out _ R1
                refine wp_region_any (by kernel_rfl) ?_
                try (change wpAny _ _ _ _ _ _ _ (World.drew _))
                refine wpAny_ready (rs := [0, 1]) (by kernel_rfl) (by simp) ?_
                refine AllReady.cons rfl (fun K hK => ?_) (AllReady.cons rfl (fun K hK => ?_) AllReady.nil)
                · go_simp
                  refine hK _ _ ?_
                  clear hK K
                  refine wpAny_ready (rs := [1]) (by kernel_rfl) (by simp) ?_
                  refine AllReady.cons rfl (fun K hK => ?_) AllReady.nil
                  go_simp
                  refine hK _ _ ?_
                  clear hK K
                  clear x0 x1 x2 x3 x4 x5 x6 x7 x8 y0 y1 y2 z2'
                  refine wpAny_ready (rs := [2]) (by kernel_rfl) (by simp) ?_
                  refine AllReady.cons rfl (fun K hK => ?_) AllReady.nil
                  go_simp
                  go_wp2_with (first | (go_at_call 74; refine (rmay_any x.s _ _ _ _ P true _ HM.out).mono ?_; rintro e w9 ⟨rfl, hb9⟩; have R2 := below_pl hb9 R1; obtain ⟨x0, x1, x2, x3, x4, x5, x6, x7, x8, y0, y1, y2, z2'⟩ := HS.out _ R2; clear hb9))
                  refine wpAny_ready (rs := [3]) (by kernel_rfl) (by simp) ?_
                  refine AllReady.cons rfl (fun K hK => ?_) AllReady.nil
                  go_simp
                  refine hK _ _ ?_
                  clear hK K
                  refine wpAny_ready (rs := [4]) (by kernel_rfl) (by simp) ?_
                  refine AllReady.cons rfl (fun K hK => ?_) AllReady.nil
                  go_simp
                  refine hK _ _ ?_
                  clear hK K
                  refine wpAny_ready (rs := [5]) (by kernel_rfl) (by simp) ?_
                  refine AllReady.cons rfl (fun K hK => ?_) AllReady.nil
                  go_simp
                  refine hK _ _ ?_
                  clear hK K
                  refine wpAny_ready (rs := [6]) (by kernel_rfl) (by simp) ?_
                  refine AllReady.cons rfl (fun K hK => ?_) AllReady.nil
                  go_simp
                  refine hK _ _ ?_
                  clear hK K
                  refine wpAny_ready (rs := [7]) (by kernel_rfl) (by simp) ?_
                  refine AllReady.cons rfl (fun K hK => ?_) AllReady.nil
                  go_simp
                  refine hK _ _ ?_
                  clear hK K
                  refine wpAny_take (i := 8) (v := .pointer (some ⟨Q, 1, none⟩)) rfl (by kernel_rfl) (by kernel_rfl) (by kernel_rfl) (fun _ _ _ h => h) (Or.inl ⟨by kernel_rfl, fun w => by go_simp⟩) ?_
                  refine wpAny_take (i := 10) (v := .slice (some ⟨bb, off, none⟩) n c) rfl (by kernel_rfl) (by kernel_rfl) (by kernel_rfl) (fun _ _ _ h => h) (Or.inl ⟨by kernel_rfl, fun w => by go_simp⟩) ?_
                  refine wpAny_take (i := 11) (v := .int .i64 ((j + 1 : Nat) : Int)) rfl (by kernel_rfl) (by kernel_rfl) (by kernel_rfl) (fun _ _ _ h => h) (Or.inl ⟨by kernel_rfl, fun w => by go_simp⟩) ?_
                  refine wpAny_take (i := 12) (v := .int .i64 (j : Nat)) rfl (by kernel_rfl) (by kernel_rfl) (by kernel_rfl) (fun _ _ _ h => h) (Or.inl ⟨by kernel_rfl, fun w => by go_simp⟩) ?_
                  refine wpAny_take (i := 13) (v := .pointer (some ⟨bb, off + j * 3, none⟩)) rfl (by kernel_rfl) (by kernel_rfl) (by kernel_rfl) (fun _ _ _ h => h) (Or.inl ⟨by kernel_rfl, fun w => by go_simp⟩) ?_
                  refine wpAny_take (i := 14) (v := .pointer (some ⟨bb, off + j * 3 + 2, none⟩)) rfl (by kernel_rfl) (by kernel_rfl) (by kernel_rfl) (fun _ _ _ h => h) (Or.inl ⟨by kernel_rfl, fun w => by go_simp⟩) ?_
                  refine wpAny_ready (rs := [9, 15]) (by kernel_rfl) (by simp) ?_
                  refine AllReady.cons rfl (fun K hK => ?_) (AllReady.cons rfl (fun K hK => ?_) AllReady.nil)
                  · go_simp
                    refine hK _ _ ?_
                    clear hK K
                    refine wpAny_ready (rs := [15]) (by kernel_rfl) (by simp) ?_
                    refine AllReady.cons rfl (fun K hK => ?_) AllReady.nil
                    go_simp
                    refine hK _ _ ?_
                    clear hK K
                    refine wpAny_ready (rs := [16]) (by kernel_rfl) (by simp) ?_
                    refine AllReady.cons rfl (fun K hK => ?_) AllReady.nil
                    go_simp
                    refine hK _ _ ?_
                    clear hK K
                    refine wpAny_ready (rs := [17]) (by kernel_rfl) (by simp) ?_
                    refine AllReady.cons rfl (fun K hK => ?_) AllReady.nil
                    go_simp
                    refine hK _ _ ?_
                    clear hK K
                    refine wpAny_ready (rs := [18]) (by kernel_rfl) (by simp) ?_
                    refine AllReady.cons rfl (fun K hK => ?_) AllReady.nil
                    go_simp
                    refine hK _ _ ?_
                    clear hK K
                    refine wpAny_done (by kernel_rfl) ?_ _
                    go_wp2
                    go_meet
                    exact ⟨rfl, R2⟩
                  · go_simp
                    refine hK _ _ ?_
                    clear hK K
                    refine wpAny_ready (rs := [9]) (by kernel_rfl) (by simp) ?_
                    refine AllReady.cons rfl (fun K hK => ?_) AllReady.nil
                    go_simp
                    refine hK _ _ ?_
                    clear hK K
                    refine wpAny_ready (rs := [16]) (by kernel_rfl) (by simp) ?_
                    refine AllReady.cons rfl (fun K hK => ?_) AllReady.nil
                    go_simp
                    refine hK _ _ ?_
                    clear hK K
                    refine wpAny_ready (rs := [17]) (by kernel_rfl) (by simp) ?_
                    refine AllReady.cons rfl (fun K hK => ?_) AllReady.nil
                    go_simp
                    refine hK _ _ ?_
                    clear hK K
                    refine wpAny_ready (rs := [18]) (by kernel_rfl) (by simp) ?_
                    refine AllReady.cons rfl (fun K hK => ?_) AllReady.nil
                    go_simp
                    refine hK _ _ ?_
                    clear hK K
                    refine wpAny_done (by kernel_rfl) ?_ _
                    go_wp2
                    go_meet
                    exact ⟨rfl, R2⟩
                · go_simp
                  refine hK _ _ ?_
                  clear hK K
                  refine wpAny_ready (rs := [0]) (by kernel_rfl) (by simp) ?_
                  refine AllReady.cons rfl (fun K hK => ?_) AllReady.nil
                  go_simp
                  refine hK _ _ ?_
                  clear hK K
                  clear x0 x1 x2 x3 x4 x5 x6 x7 x8 y0 y1 y2 z2'
                  refine wpAny_ready (rs := [2]) (by kernel_rfl) (by simp) ?_
                  refine AllReady.cons rfl (fun K hK => ?_) AllReady.nil
                  go_simp
                  go_wp2_with (first | (go_at_call 74; refine (rmay_any x.s _ _ _ _ P true _ HM.out).mono ?_; rintro e w9 ⟨rfl, hb9⟩; have R2 := below_pl hb9 R1; obtain ⟨x0, x1, x2, x3, x4, x5, x6, x7, x8, y0, y1, y2, z2'⟩ := HS.out _ R2; clear hb9))
                  refine wpAny_ready (rs := [3]) (by kernel_rfl) (by simp) ?_
                  refine AllReady.cons rfl (fun K hK => ?_) AllReady.nil
                  go_simp
                  refine hK _ _ ?_
                  clear hK K
                  refine wpAny_ready (rs := [4]) (by kernel_rfl) (by simp) ?_
                  refine AllReady.cons rfl (fun K hK => ?_) AllReady.nil
                  go_simp
                  refine hK _ _ ?_
                  clear hK K
                  refine wpAny_ready (rs := [5]) (by kernel_rfl) (by simp) ?_
                  refine AllReady.cons rfl (fun K hK => ?_) AllReady.nil
                  go_simp
                  refine hK _ _ ?_
                  clear hK K
                  refine wpAny_ready (rs := [6]) (by kernel_rfl) (by simp) ?_
                  refine AllReady.cons rfl (fun K hK => ?_) AllReady.nil
                  go_simp
                  refine hK _ _ ?_
                  clear hK K
                  refine wpAny_ready (rs := [7]) (by kernel_rfl) (by simp) ?_
                  refine AllReady.cons rfl (fun K hK => ?_) AllReady.nil
                  go_simp
                  refine hK _ _ ?_
                  clear hK K
                  refine wpAny_take (i := 8) (v := .pointer (some ⟨Q, 1, none⟩)) rfl (by kernel_rfl) (by kernel_rfl) (by kernel_rfl) (fun _ _ _ h => h) (Or.inl ⟨by kernel_rfl, fun w => by go_simp⟩) ?_
                  refine wpAny_take (i := 10) (v := .slice (some ⟨bb, off, none⟩) n c) rfl (by kernel_rfl) (by kernel_rfl) (by kernel_rfl) (fun _ _ _ h => h) (Or.inl ⟨by kernel_rfl, fun w => by go_simp⟩) ?_
                  refine wpAny_take (i := 11) (v := .int .i64 ((j + 1 : Nat) : Int)) rfl (by kernel_rfl) (by kernel_rfl) (by kernel_rfl) (fun _ _ _ h => h) (Or.inl ⟨by kernel_rfl, fun w => by go_simp⟩) ?_
                  refine wpAny_take (i := 12) (v := .int .i64 (j : Nat)) rfl (by kernel_rfl) (by kernel_rfl) (by kernel_rfl) (fun _ _ _ h => h) (Or.inl ⟨by kernel_rfl, fun w => by go_simp⟩) ?_
                  refine wpAny_take (i := 13) (v := .pointer (some ⟨bb, off + j * 3, none⟩)) rfl (by kernel_rfl) (by kernel_rfl) (by kernel_rfl) (fun _ _ _ h => h) (Or.inl ⟨by kernel_rfl, fun w => by go_simp⟩) ?_
                  refine wpAny_take (i := 14) (v := .pointer (some ⟨bb, off + j * 3 + 2, none⟩)) rfl (by kernel_rfl) (by kernel_rfl) (by kernel_rfl) (fun _ _ _ h => h) (Or.inl ⟨by kernel_rfl, fun w => by go_simp⟩) ?_
                  refine wpAny_ready (rs := [9, 15]) (by kernel_rfl) (by simp) ?_
                  refine AllReady.cons rfl (fun K hK => ?_) (AllReady.cons rfl (fun K hK => ?_) AllReady.nil)
                  · go_simp
                    refine hK _ _ ?_
                    clear hK K
                    refine wpAny_ready (rs := [15]) (by kernel_rfl) (by simp) ?_
                    refine AllReady.cons rfl (fun K hK => ?_) AllReady.nil
                    go_simp
                    refine hK _ _ ?_
                    clear hK K
                    refine wpAny_ready (rs := [16]) (by kernel_rfl) (by simp) ?_
                    refine AllReady.cons rfl (fun K hK => ?_) AllReady.nil
                    go_simp
                    refine hK _ _ ?_
                    clear hK K
                    refine wpAny_ready (rs := [17]) (by kernel_rfl) (by simp) ?_
                    refine AllReady.cons rfl (fun K hK => ?_) AllReady.nil
                    go_simp
                    refine hK _ _ ?_
                    clear hK K
                    refine wpAny_ready (rs := [18]) (by kernel_rfl) (by simp) ?_
                    refine AllReady.cons rfl (fun K hK => ?_) AllReady.nil
                    go_simp
                    refine hK _ _ ?_
                    clear hK K
                    refine wpAny_done (by kernel_rfl) ?_ _
                    go_wp2
                    go_meet
                    exact ⟨rfl, R2⟩
                  · go_simp
                    refine hK _ _ ?_
                    clear hK K
                    refine wpAny_ready (rs := [9]) (by kernel_rfl) (by simp) ?_
                    refine AllReady.cons rfl (fun K hK => ?_) AllReady.nil
                    go_simp
                    refine hK _ _ ?_
                    clear hK K
                    refine wpAny_ready (rs := [16]) (by kernel_rfl) (by simp) ?_
                    refine AllReady.cons rfl (fun K hK => ?_) AllReady.nil
                    go_simp
                    refine hK _ _ ?_
                    clear hK K
                    refine wpAny_ready (rs := [17]) (by kernel_rfl) (by simp) ?_
                    refine AllReady.cons rfl (fun K hK => ?_) AllReady.nil
                    go_simp
                    refine hK _ _ ?_
                    clear hK K
                    refine wpAny_ready (rs := [18]) (by kernel_rfl) (by simp) ?_
                    refine AllReady.cons rfl (fun K hK => ?_) AllReady.nil
                    go_simp
                    refine hK _ _ ?_
                    clear hK K
                    refine wpAny_done (by kernel_rfl) ?_ _
                    go_wp2
                    go_meet
                    exact ⟨rfl, R2⟩
              · have e : b' = true := by rw [HB'.out, Grain.okp, ← HP.out, ← HM.out]; simp [← hM]; exact fun h => he h.symm
                subst e
                have en : (P.f != M) = true := by simp [he]
                clear hM he
                have HS : Hid (∀ w', Below W.heap.size W w' → w'.cell? ⟨X, 0, none⟩ = some (.slice x.a0 x.s.se.length x.c0) ∧ w'.cell? ⟨X, 1, none⟩ = some (.slice x.a1 x.s.ra.length x.c1) ∧ w'.cell? ⟨X, 2, none⟩ = some (.slice x.a2 x.s.fi.length x.c2) ∧ w'.cell? ⟨X, 3, none⟩ = some (.slice x.a3 x.s.co.length x.c3) ∧ w'.cell? ⟨X, 4, none⟩ = some (.int .i64 x.s.rf) ∧ w'.cell? ⟨X, 5, none⟩ = some (.int .i64 x.s.ff) ∧ w'.cell? ⟨X, 6, none⟩ = some (.int .i64 x.s.ft) ∧ w'.cell? ⟨X, 7, none⟩ = some (.int .i64 x.s.cf) ∧ w'.cell? ⟨X, 8, none⟩ = some (.int .i64 x.s.ct) ∧ w'.cell? ⟨Q, 0, none⟩ = some (.int .i64 P.k) ∧ w'.cell? ⟨Q, 1, none⟩ = some (.int .i64 P.f) ∧ w'.cell? ⟨Q, 2, none⟩ = some (.int .i64 P.t) ∧ w'.cell? ⟨bb, off + j * 3 + 2, none⟩ = some (.int .i64 M)) := fun w' hb' => ⟨(hb'.cell (by exact Xl)).trans x0, (hb'.cell (by exact Xl)).trans x1, (hb'.cell (by exact Xl)).trans x2, (hb'.cell (by exact Xl)).trans x3, (hb'.cell (by exact Xl)).trans x4, (hb'.cell (by exact Xl)).trans x5, (hb'.cell (by exact Xl)).trans x6, (hb'.cell (by exact Xl)).trans x7, (hb'.cell (by exact Xl)).trans x8, (hb'.cell (by exact Yl)).trans y0, (hb'.cell (by exact Yl)).trans y1, (hb'.cell (by exact Yl)).trans y2, (hb'.cell (by exact Bl)).trans z2'⟩
                have R1 : Below W.heap.size W W.drew := below_drewN (Below.refl _ _) 1
                clear x0 x1 x2 x3 x4 x5 x6 x7 x8 y0 y1 y2
                obtain ⟨x0, x1, x2, x3, x4, x5, x6, x7, x8, y0, y1, y2, z2'⟩ := HS.out _ R1
                refine wp_region_any (by kernel_rfl) ?_
                try (change wpAny _ _ _ _ _ _ _ (World.drew _))
                refine wpAny_ready (rs := [0, 1]) (by kernel_rfl) (by simp) ?_
                refine AllReady.cons rfl (fun K hK => ?_) (AllReady.cons rfl (fun K hK => ?_) AllReady.nil)
                · go_simp
                  refine hK _ _ ?_
                  clear hK K
                  refine wpAny_ready (rs := [1]) (by kernel_rfl) (by simp) ?_
                  refine AllReady.cons rfl (fun K hK => ?_) AllReady.nil
                  go_simp
                  refine hK _ _ ?_
                  clear hK K
                  clear x0 x1 x2 x3 x4 x5 x6 x7 x8 y0 y1 y2 z2'
                  refine wpAny_ready (rs := [2]) (by kernel_rfl) (by simp) ?_
                  refine AllReady.cons rfl (fun K hK => ?_) AllReady.nil
                  go_simp
                  go_wp2_with (first | (go_at_call 74; refine (rmay_any x.s _ _ _ _ P true _ HM.out).mono ?_; rintro e w9 ⟨rfl, hb9⟩; have R2 := below_pl hb9 R1; obtain ⟨x0, x1, x2, x3, x4, x5, x6, x7, x8, y0, y1, y2, z2'⟩ := HS.out _ R2; clear hb9))
                  refine wpAny_ready (rs := [3]) (by kernel_rfl) (by simp) ?_
                  refine AllReady.cons rfl (fun K hK => ?_) AllReady.nil
                  go_simp
                  refine hK _ _ ?_
                  clear hK K
                  refine wpAny_ready (rs := [4]) (by kernel_rfl) (by simp) ?_
                  refine AllReady.cons rfl (fun K hK => ?_) AllReady.nil
                  go_simp
                  refine hK _ _ ?_
                  clear hK K
                  refine wpAny_ready (rs := [5]) (by kernel_rfl) (by simp) ?_
                  refine AllReady.cons rfl (fun K hK => ?_) AllReady.nil
                  go_simp
                  refine hK _ _ ?_
                  clear hK K
                  refine wpAny_ready (rs := [6]) (by kernel_rfl) (by simp) ?_
                  refine AllReady.cons rfl (fun K hK => ?_) AllReady.nil
                  go_simp
                  refine hK _ _ ?_
                  clear hK K
                  refine wpAny_ready (rs := [7]) (by kernel_rfl) (by simp) ?_
                  refine AllReady.cons rfl (fun K hK => ?_) AllReady.nil
                  go_simp
                  refine hK _ _ ?_
                  clear hK K
                  refine wpAny_take (i := 8) (v := .pointer (some ⟨Q, 1, none⟩)) rfl (by kernel_rfl) (by kernel_rfl) (by kernel_rfl) (fun _ _ _ h => h) (Or.inl ⟨by kernel_rfl, fun w => by go_simp⟩) ?_
                  refine wpAny_take (i := 10) (v := .slice (some ⟨bb, off, none⟩) n c) rfl (by kernel_rfl) (by kernel_rfl) (by kernel_rfl) (fun _ _ _ h => h) (Or.inl ⟨by kernel_rfl, fun w => by go_simp⟩) ?_
                  refine wpAny_take (i := 11) (v := .int .i64 ((j + 1 : Nat) : Int)) rfl (by kernel_rfl) (by kernel_rfl) (by kernel_rfl) (fun _ _ _ h => h) (Or.inl ⟨by kernel_rfl, fun w => by go_simp⟩) ?_
                  refine wpAny_take (i := 12) (v := .int .i64 (j : Nat)) rfl (by kernel_rfl) (by kernel_rfl) (by kernel_rfl) (fun _ _ _ h => h) (Or.inl ⟨by kernel_rfl, fun w => by go_simp⟩) ?_
                  refine wpAny_take (i := 13) (v := .pointer (some ⟨bb, off + j * 3, none⟩)) rfl (by kernel_rfl) (by kernel_rfl) (by kernel_rfl) (fun _ _ _ h => h) (Or.inl ⟨by kernel_rfl, fun w => by go_simp⟩) ?_
                  refine wpAny_take (i := 14) (v := .pointer (some ⟨bb, off + j * 3 + 2, none⟩)) rfl (by kernel_rfl) (by kernel_rfl) (by kernel_rfl) (fun _ _ _ h => h) (Or.inl ⟨by kernel_rfl, fun w => by go_simp⟩) ?_
                  refine wpAny_ready (rs := [9, 15]) (by kernel_rfl) (by simp) ?_
                  refine AllReady.cons rfl (fun K hK => ?_) (AllReady.cons rfl (fun K hK => ?_) AllReady.nil)
                  · go_simp
                    refine hK _ _ ?_
                    clear hK K
                    refine wpAny_ready (rs := [15]) (by kernel_rfl) (by simp) ?_
                    refine AllReady.cons rfl (fun K hK => ?_) AllReady.nil
                    go_simp
                    refine hK _ _ ?_
                    clear hK K
                    refine wpAny_ready (rs := [16]) (by kernel_rfl) (by simp) ?_
                    refine AllReady.cons rfl (fun K hK => ?_) AllReady.nil
                    go_simp
                    refine hK _ _ ?_
                    clear hK K
                    refine wpAny_ready (rs := [17]) (by kernel_rfl) (by simp) ?_
                    refine AllReady.cons rfl (fun K hK => ?_) AllReady.nil
                    go_simp
                    refine hK _ _ ?_
                    clear hK K
                    refine wpAny_ready (rs := [18]) (by kernel_rfl) (by simp) ?_
                    refine AllReady.cons rfl (fun K hK => ?_) AllReady.nil
                    go_simp
                    refine hK _ _ ?_
                    clear hK K
                    refine wpAny_done (by kernel_rfl) ?_ _
                    go_wp2
                    go_meet
                    exact ⟨rfl, R2⟩
                  · go_simp
                    refine hK _ _ ?_
                    clear hK K
                    refine wpAny_ready (rs := [9]) (by kernel_rfl) (by simp) ?_
                    refine AllReady.cons rfl (fun K hK => ?_) AllReady.nil
                    go_simp
                    refine hK _ _ ?_
                    clear hK K
                    refine wpAny_ready (rs := [16]) (by kernel_rfl) (by simp) ?_
                    refine AllReady.cons rfl (fun K hK => ?_) AllReady.nil
                    go_simp
                    refine hK _ _ ?_
                    clear hK K
                    refine wpAny_ready (rs := [17]) (by kernel_rfl) (by simp) ?_
                    refine AllReady.cons rfl (fun K hK => ?_) AllReady.nil
                    go_simp
                    refine hK _ _ ?_
                    clear hK K
                    refine wpAny_ready (rs := [18]) (by kernel_rfl) (by simp) ?_
                    refine AllReady.cons rfl (fun K hK => ?_) AllReady.nil
                    go_simp
                    refine hK _ _ ?_
                    clear hK K
                    refine wpAny_done (by kernel_rfl) ?_ _
                    go_wp2
                    go_meet
                    exact ⟨rfl, R2⟩
                · go_simp
                  refine hK _ _ ?_
                  clear hK K
                  refine wpAny_ready (rs := [0]) (by kernel_rfl) (by simp) ?_
                  refine AllReady.cons rfl (fun K hK => ?_) AllReady.nil
                  go_simp
                  refine hK _ _ ?_
                  clear hK K
                  clear x0 x1 x2 x3 x4 x5 x6 x7 x8 y0 y1 y2 z2'
                  refine wpAny_ready (rs := [2]) (by kernel_rfl) (by simp) ?_
                  refine AllReady.cons rfl (fun K hK => ?_) AllReady.nil
                  go_simp
                  go_wp2_with (first | (go_at_call 74; refine (rmay_any x.s _ _ _ _ P true _ HM.out).mono ?_; rintro e w9 ⟨rfl, hb9⟩; have R2 := below_pl hb9 R1; obtain ⟨x0, x1, x2, x3, x4, x5, x6, x7, x8, y0, y1, y2, z2'⟩ := HS.out _ R2; clear hb9))
                  refine wpAny_ready (rs := [3]) (by kernel_rfl) (by simp) ?_
                  refine AllReady.cons rfl (fun K hK => ?_) AllReady.nil
                  go_simp
                  refine hK _ _ ?_
                  clear hK K
                  refine wpAny_ready (rs := [4]) (by kernel_rfl) (by simp) ?_
                  refine AllReady.cons rfl (fun K hK => ?_) AllReady.nil
                  go_simp
                  refine hK _ _ ?_
                  clear hK K
                  refine wpAny_ready (rs := [5]) (by kernel_rfl) (by simp) ?_
                  refine AllReady.cons rfl (fun K hK => ?_) AllReady.nil
                  go_simp
                  refine hK _ _ ?_
                  clear hK K
                  refine wpAny_ready (rs := [6]) (by kernel_rfl) (by simp) ?_
                  refine AllReady.cons rfl (fun K hK => ?_) AllReady.nil
                  go_simp
                  refine hK _ _ ?_
                  clear hK K
                  refine wpAny_ready (rs := [7]) (by kernel_rfl) (by simp) ?_
                  refine AllReady.cons rfl (fun K hK => ?_) AllReady.nil
                  go_simp
                  refine hK _ _ ?_
                  clear hK K
                  refine wpAny_take (i := 8) (v := .pointer (some ⟨Q, 1, none⟩)) rfl (by kernel_rfl) (by kernel_rfl) (by kernel_rfl) (fun _ _ _ h => h) (Or.inl ⟨by kernel_rfl, fun w => by go_simp⟩) ?_
                  refine wpAny_take (i := 10) (v := .slice (some ⟨bb, off, none⟩) n c) rfl (by kernel_rfl) (by kernel_rfl) (by kernel_rfl) (fun _ _ _ h => h) (Or.inl ⟨by kernel_rfl, fun w => by go_simp⟩) ?_
                  refine wpAny_take (i := 11) (v := .int .i64 ((j + 1 : Nat) : Int)) rfl (by kernel_rfl) (by kernel_rfl) (by kernel_rfl) (fun _ _ _ h => h) (Or.inl ⟨by kernel_rfl, fun w => by go_simp⟩) ?_
                  refine wpAny_take (i := 12) (v := .int .i64 (j : Nat)) rfl (by kernel_rfl) (by kernel_rfl) (by kernel_rfl) (fun _ _ _ h => h) (Or.inl ⟨by kernel_rfl, fun w => by go_simp⟩) ?_
                  refine wpAny_take (i := 13) (v := .pointer (some ⟨bb, off + j * 3, none⟩)) rfl (by kernel_rfl) (by kernel_rfl) (by kernel_rfl) (fun _ _ _ h => h) (Or.inl ⟨by kernel_rfl, fun w => by go_simp⟩) ?_
                  refine wpAny_take (i := 14) (v := .pointer (some ⟨bb, off + j * 3 + 2, none⟩)) rfl (by kernel_rfl) (by kernel_rfl) (by kernel_rfl) (fun _ _ _ h => h) (Or.inl ⟨by kernel_rfl, fun w => by go_simp⟩) ?_
                  refine wpAny_ready (rs := [9, 15]) (by kernel_rfl) (by simp) ?_
                  refine AllReady.cons rfl (fun K hK => ?_) (AllReady.cons rfl (fun K hK => ?_) AllReady.nil)
                  · go_simp
                    refine hK _ _ ?_
                    clear hK K
                    refine wpAny_ready (rs := [15]) (by kernel_rfl) (by simp) ?_
                    refine AllReady.cons rfl (fun K hK => ?_) AllReady.nil
                    go_simp
                    refine hK _ _ ?_
                    clear hK K
                    refine wpAny_ready (rs := [16]) (by kernel_rfl) (by simp) ?_
                    refine AllReady.cons rfl (fun K hK => ?_) AllReady.nil
                    go_simp
                    refine hK _ _ ?_
                    clear hK K
                    refine wpAny_ready (rs := [17]) (by kernel_rfl) (by simp) ?_
                    refine AllReady.cons rfl (fun K hK => ?_) AllReady.nil
                    go_simp
                    refine hK _ _ ?_
                    clear hK K
                    refine wpAny_ready (rs := [18]) (by kernel_rfl) (by simp) ?_
                    refine AllReady.cons rfl (fun K hK => ?_) AllReady.nil
                    go_simp
                    refine hK _ _ ?_
                    clear hK K
                    refine wpAny_done (by kernel_rfl) ?_ _
                    go_wp2
                    go_meet
                    exact ⟨rfl, R2⟩
                  · go_simp
                    refine hK _ _ ?_
                    clear hK K
                    refine wpAny_ready (rs := [9]) (by kernel_rfl) (by simp) ?_
                    refine AllReady.cons rfl (fun K hK => ?_) AllReady.nil
                    go_simp
                    refine hK _ _ ?_
                    clear hK K
                    refine wpAny_ready (rs := [16]) (by kernel_rfl) (by simp) ?_
                    refine AllReady.cons rfl (fun K hK => ?_) AllReady.nil
                    go_simp
                    refine hK _ _ ?_
                    clear hK K
                    refine wpAny_ready (rs := [17]) (by kernel_rfl) (by simp) ?_
                    refine AllReady.cons rfl (fun K hK => ?_) AllReady.nil
                    go_simp
                    refine hK _ _ ?_
                    clear hK K
                    refine wpAny_ready (rs := [18]) (by kernel_rfl) (by simp) ?_
                    refine AllReady.cons rfl (fun K hK => ?_) AllReady.nil
                    go_simp
                    refine hK _ _ ?_
                    clear hK K
                    refine wpAny_done (by kernel_rfl) ?_ _
                    go_wp2
                    go_meet
                    exact ⟨rfl, R2⟩
        case rest =>
        obtain ⟨rfl, R9⟩ := hcut
        obtain ⟨w2, hw2⟩ : ∃ w2, w2 = wc := ⟨_, rfl⟩
        rw [← hw2] at R9 ⊢
        have P2 := below_block R9 P0
        have A3 := A2.below R9
        have bel2 : Below w1.heap.size w1 w2 := below_pl R9 belW
        have S3 := below_block bel2 S1
        have Q2 : Q < w2.heap.size := lt_of_block P2
        clear hw2 R9 P0 A2 belW S2 x0 x1 x2 x3 x4 x5 x6 x7 x8 y0 y1 y2 Xl Yl
        cases b'
        · have hok : Grain.okp x.s l k = true := by have h := HB'.out; revert h; cases Grain.okp x.s l k <;> simp
          have hmay : Grain.may x.s P = true := by rw [HP.out]; unfold Grain.okp at hok; simp only [Bool.and_eq_true] at hok; exact hok.1
          have HO2 : Hid (∀ j, j < k + 1 → Grain.okp x.s l j = true) := by
            intro j hj
            rcases Nat.lt_or_ge j k with h | h
            · exact HO.out j h
            · obtain rfl : j = k := by omega
              exact hok
          have HMay := hide hmay
          have T1 : Hid (Grain.rdS x.s (l.take (k + 1)) = Grain.join s (Grain.psum x.s P)) := by
            show _ = _
            rw [Grain.take_pt HKL.out, Grain.rdS_snoc, ← HP.out, ← H1.out]
          have T2 : Hid (Grain.rdN x.s (l.take (k + 1)) = N + Grain.pcost x.s P) := by
            show _ = _
            rw [Grain.take_pt HKL.out, Grain.rdN_snoc, ← HP.out, ← H2.out]
          have HG : Hid (Grain.Good s (30000 * k)) := by
            have h := Grain.good_rdS HSR.out (l.take k) (fun p hp => by
              obtain ⟨j, hj, rfl⟩ := List.mem_iff_getElem.1 hp
              have hj2 : j < k := by simp at hj; omega
              have := HO.out j hj2
              unfold Grain.okp at this
              simp only [Bool.and_eq_true] at this
              have e : Grain.pt l j = (l.take k)[j] := by simp [Grain.pt, List.getD, List.getElem?_eq_getElem (show j < l.length by have := HKL.out; omega)]
              rw [← e]; exact this.1) (by simp; omega)
            rw [← H1.out] at h
            have e : (l.take k).length = k := by simp; have := HKL.out; omega
            rw [e] at h
            exact h
          clear hok hmay HO H1 H2 HB' HM HCell
          obtain ⟨x0, x1, x2, x3, x4, x5, x6, x7, x8⟩ := nine_cells S3
          obtain ⟨y0, y1, y2⟩ := three3 P2
          have Xl2 : X < w2.heap.size := lt_of_block S3
          go_upto_region 11 with fail
          go_cut [12] from 50 to 52 (fun v wx => v = .slice x.a2 x.s.fi.length x.c2 ∧ Hid (wx = w2))
          case first =>
            go_wp2
            go_meet
            exact ⟨rfl, rfl⟩
          case rest =>
          obtain ⟨rfl, HWC⟩ := hcut
          rw [HWC.out]
          clear HWC
          apply_assumption
          refine wp_seq_k fun KK hKK => ?_
          go_cut [12] from 52 to 57 (fun v wx => ∃ (bo : Option Addr) (m1 c1 : Nat), v = .slice bo m1 c1 ∧ Seg w bo (kcells (if P.k = 2 then x.s.co else x.s.fi)) ∧ Hid (m1 = (if P.k = 2 then x.s.co else x.s.fi).length) ∧ Hid (wx = w2))
          case first =>
            by_cases e2 : P.k = 2
            · have e2' : (P.k == 2) = true := by simpa using e2
              go_wp2
              go_meet
              exact ⟨_, _, _, rfl, by rw [if_pos e2]; exact HXW.out.g3, by rw [if_pos e2]; exact (rfl : Hid _), rfl⟩
            · have e2' : (P.k == 2) = false := by simpa using e2
              go_wp2
              go_meet
              exact ⟨_, _, _, rfl, by rw [if_neg e2]; exact HXW.out.g2, by rw [if_neg e2]; exact (rfl : Hid _), rfl⟩
          case rest =>
          obtain ⟨bo, m1, c1, rfl, seg1, HM1, HWC⟩ := hcut
          rw [HWC.out]
          clear HWC
          apply_assumption
          refine wp_seq_k fun KK2 hKK2 => ?_
          go_cut [12] from 57 to 77 (fun v wx => ∃ (bo : Option Addr) (m1 c1 : Nat), v = .slice bo m1 c1 ∧ Seg wx bo (kcells (Grain.ent x.s P)) ∧ Hid (m1 = (Grain.ent x.s P).length) ∧ Hid (kcells (Grain.ent x.s P) ≠ [] → ∀ b off, bo = some ⟨b, off, none⟩ → b ≠ B) ∧ Below w2.heap.size w2 wx)
          case first =>
            by_cases e0 : P.k = 0
            · have e0' : (P.k == 0) = true := by simpa using e0
              have hent : Grain.ent x.s P = Grain.rawB x.s.ra := by unfold Grain.ent; rw [if_pos e0]
              have HEnt := hide hent
              have segr := HXW.out.g1
              obtain ⟨a1, ha1⟩ : ∃ a1, a1 = x.a1 := ⟨_, rfl⟩
              rw [← ha1] at x1 segr
              have HA1 := hide ha1
              clear ha1
              have rl5 : x.s.ra.length ≤ 500 := HSR.out.rlen
              obtain ⟨R, hR⟩ : ∃ R, R = x.s.ra.length := ⟨_, rfl⟩
              rw [← hR] at x1 rl5
              have HRl := hide hR
              have ww2 : w.heap.size ≤ w2.heap.size := (below_pl bel2 bel1).size
              have belw2 : Below w.heap.size w w2 := below_pl bel2 bel1
              have e0'' := hide e0
              clear hent hR e0
              go_wp2
              go_loopw [12, 63] (fun s12 i wr => ∃ (j M d : Nat) (co : Option Addr), j ≤ R ∧ i = .int .i64 j ∧ s12 = .slice co M d ∧ M = j ∧ wr.ownsRow w2.heap.size 90 8 (.slice co M d) M (kcells (Grain.rawB (x.s.ra.take j))) ∧ Below w2.heap.size w2 wr) (fun _ i _ => R - (intOf i).toNat)
              case atStart => exact ⟨0, 0, 0, none, Nat.zero_le _, rfl, rfl, rfl, World.ownsRow_nil _ _ _ _, Below.refl _ _⟩
              case round =>
                obtain ⟨j, M, d, co, hj, rfl, rfl, hMj, own, bel⟩ := hrel
                subst hMj
                have hsz := bel.size
                by_cases hjl : M < R
                · have hjl' : M < x.s.ra.length := by rw [← HRl.out]; exact hjl
                  obtain ⟨rb, ro, rfl, hrc⟩ := segr.sample hjl'
                  obtain ⟨t, ht⟩ : ∃ t, t = Grain.tm x.s.ra M := ⟨_, rfl⟩
                  obtain ⟨v, hv⟩ : ∃ v, v = Grain.vl x.s.ra M := ⟨_, rfl⟩
                  have hrb : rb < w.heap.size := World.block_lt_of_cell? w ⟨rb, ro + M * 2, none⟩ (hrc M hjl').1
                  have belw : Below w.heap.size w wr := below_pl bel belw2
                  have c0 : wr.cell? ⟨rb, ro + M * 2, none⟩ = some (.int .i64 t) := by rw [ht]; exact (belw.cell (by exact hrb)).trans (hrc M hjl').1
                  have c1' : wr.cell? ⟨rb, ro + M * 2 + 1, none⟩ = some (.int .i64 v) := by rw [hv]; exact (belw.cell (by exact hrb)).trans (hrc M hjl').2
                  have hvr : -1000000000 ≤ v ∧ v ≤ 1000000000 := by
                    have hmem : (t, v) ∈ x.s.ra := by
                      rw [ht, hv]
                      have e : (Grain.tm x.s.ra M, Grain.vl x.s.ra M) = x.s.ra[M] := by simp [Grain.tm, Grain.vl, List.getD, List.getElem?_eq_getElem hjl']
                      rw [e]; exact List.getElem_mem hjl'
                    have := HSR.out.rin _ hmem
                    simp [Grain.inR] at this
                    omega
                  have HT : Hid (Grain.rawB (x.s.ra.take (M + 1)) = Grain.rawB (x.s.ra.take M) ++ [⟨t, Grain.one v⟩]) := by show _ = _; rw [ht, hv]; exact Grain.rawB_take hjl'
                  obtain ⟨T0, hT0⟩ : ∃ T0, T0 = wr.heap.size := ⟨_, rfl⟩
                  obtain ⟨W6, hW6⟩ : ∃ W6, W6 = wr.alloc (.cells #[.int .i64 t, .int .i64 v] 35) := ⟨_, rfl⟩
                  have hb6 : Below wr.heap.size wr W6 := by rw [hW6]; exact (Below.refl _ _).alloc (Nat.le_refl _) _
                  have F6 : W6.heap[T0]? = some (.cells #[.int .i64 t, .int .i64 v] 35 (0, 0)) := by rw [hW6, hT0]; exact heap_alloc_new wr _
                  have own6 := own_below own hb6
                  have bel6 : Below w2.heap.size w2 W6 := below_pl hb6 bel
                  have lT : T0 < W6.heap.size := lt_of_block F6
                  obtain ⟨p0, p1, _, _⟩ := two_cells F6
                  have HW6 := hide hW6
                  have HT0 := hide hT0
                  clear ht hv hrc hjl' hW6 hT0 own bel belw hrb
                  go_upto_region 19 with fail
                  rw [← HW6.out, ← HT0.out]
                  clear HW6 HT0 c0 c1'
                  obtain ⟨W7, hW7⟩ : ∃ W7, W7 = (W6.alloc (.cells #[.int .i64 t, .int .i64 v] 35)).drew := ⟨_, rfl⟩
                  have hb7 : Below W6.heap.size W6 W7 := by rw [hW7]; exact below_drewN ((Below.refl _ W6).alloc (Nat.le_refl _) _) 1
                  have F7 : W7.heap[W6.heap.size]? = some (.cells #[.int .i64 t, .int .i64 v] 35 (0, 0)) := by rw [hW7]; exact heap_alloc_new W6 _
                  have seg7 : Seg W7 (some ⟨W6.heap.size, 0, none⟩) (scells [(t, v)]) := by
                    refine .inr ⟨W6.heap.size, 0, rfl, fun j hj => ?_⟩
                    have hj2 : j < 2 := hj
                    rw [cell_of_row W7 W6.heap.size _ _ 35 (0, 0) F7]
                    rcases (show j = 0 ∨ j = 1 by omega) with rfl | rfl <;> rfl
                  have HOf : Hid (Calls Try.prog 60 #[.slice (some ⟨W6.heap.size, 0, none⟩) 1 1] W7 fun e w' => e = .returned (.agg #[.int .i64 1, .int .i64 v, .int .i64 v, .int .i64 v, .int .i64 v, .int .i64 v, .int .i64 0]) ∧ Below W7.heap.size W7 w') := rone_any t v W6.heap.size W7 seg7 hvr.1 hvr.2
                  have HW7 := hide hW7
                  have H67 := hide hb7
                  have HF6 := hide F6
                  clear hW7 F7 seg7 hb7
                  refine wp_region_any (by kernel_rfl) ?_
                  try (change wpAny _ _ _ _ _ _ _ (World.drew _))
                  refine wpAny_take (i := 0) (v := .slice co M d) rfl (by kernel_rfl) (by kernel_rfl) (by kernel_rfl) (fun _ _ _ h => h) (Or.inl ⟨by kernel_rfl, fun w => by go_simp⟩) ?_
                  refine wpAny_take (i := 1) (v := .pointer (some ⟨T0, 0, none⟩)) rfl (by kernel_rfl) (by kernel_rfl) (by kernel_rfl) (fun _ _ _ h => h) (Or.inl ⟨by kernel_rfl, fun w => by go_simp⟩) ?_
                  refine wpAny_ready (rs := [2, 3]) (by kernel_rfl) (by simp) ?_
                  refine AllReady.cons rfl (fun K hK => ?_) (AllReady.cons rfl (fun K hK => ?_) AllReady.nil)
                  · go_simp
                    refine hK _ _ ?_
                    clear hK K
                    refine wpAny_ready (rs := [3]) (by kernel_rfl) (by simp) ?_
                    refine AllReady.cons rfl (fun K hK => ?_) AllReady.nil
                    go_simp
                    refine hK _ _ ?_
                    clear hK K
                    refine wpAny_ready (rs := [4]) (by kernel_rfl) (by simp) ?_
                    refine AllReady.cons rfl (fun K hK => ?_) AllReady.nil
                    go_simp
                    refine hK _ _ ?_
                    clear hK K
                    refine wpAny_ready (rs := [5]) (by kernel_rfl) (by simp) ?_
                    refine AllReady.cons rfl (fun K hK => ?_) AllReady.nil
                    go_simp
                    go_wp2_with (first | (go_at_call 60; rw [← HW7.out]; refine HOf.out.mono ?_; rintro e w8 ⟨rfl, hb8⟩; have b68 := below_pl hb8 H67.out; have own8 := own_below own6 b68; have bel8 := below_pl b68 bel6; have hs8 := bel8.size; obtain ⟨p0', p1', _, _⟩ := two_cells (below_block b68 HF6.out)))
                    refine wpAny_ready (rs := [6]) (by kernel_rfl) (by simp) ?_
                    refine AllReady.cons rfl (fun K hK => ?_) AllReady.nil
                    go_simp
                    refine hK _ _ ?_
                    clear hK K
                    refine wpAny_ready (rs := [7]) (by kernel_rfl) (by simp) ?_
                    refine AllReady.cons rfl (fun K hK => ?_) AllReady.nil
                    go_simp
                    refine hK _ _ ?_
                    clear hK K
                    refine wpAny_ready (rs := [8]) (by kernel_rfl) (by simp) ?_
                    refine AllReady.cons rfl (fun K hK => ?_) AllReady.nil
                    refine step_append_segP (by rfl) (.tmp 67) (.tmp 74) 42 (by rfl) w2.heap.size 90 i0 (.agg #[.int .i64 0, .int .i64 0, .int .i64 0, .int .i64 0, .int .i64 0, .int .i64 0, .int .i64 0, .int .i64 0]) 8 64 Try.underlying42 hi hz0 hz1 hz2 rfl (by decide) (.slice co M d) M (kcells (Grain.rawB (x.s.ra.take M))) (by rfl) (own8.alloc _) (some ⟨w8.heap.size, 0, none⟩) 1 1 (kc ⟨t, Grain.one v⟩) (by rfl) (by simp) (eight_seg _ _ _ _ _ _ _ _ _ _) (by rfl) (kc_one _) (by unfold maxLen; omega) (by omega) (by simp; omega) ?_
                    intro v' w9 own9 gr9 hat9
                    obtain ⟨A, D, hvA, _, _⟩ := own_open own9
                    subst hvA
                    have bel9 := (bel8.alloc hs8 _).grown gr9 (by simp; omega) (fun j hj => (own8.lt j hj).1)
                    refine hK _ _ ?_
                    clear hK K hat9 gr9
                    refine wpAny_ready (rs := [9]) (by kernel_rfl) (by simp) ?_
                    refine AllReady.cons rfl (fun K hK => ?_) AllReady.nil
                    go_simp
                    refine hK _ _ ?_
                    clear hK K
                    refine wpAny_done (by kernel_rfl) ?_ _
                    have own10 : w9.ownsRow w2.heap.size 90 8 (.slice A (M + 1) D) (M + 1) (kcells (Grain.rawB (x.s.ra.take (M + 1)))) := by rw [HT.out, kcells_snoc]; exact own9
                    clear own9 own8 bel8 own6 HOf H67 HF6 HW7 HT p0' p1' hb8 b68
                    go_wp2
                    go_roundw
                    case rel => exact ⟨M + 1, M + 1, D, A, by omega, by go_num, rfl, rfl, own10, bel9⟩
                    case measure => simp [intOf]; omega
                  · go_simp
                    refine hK _ _ ?_
                    clear hK K
                    refine wpAny_ready (rs := [2, 4]) (by kernel_rfl) (by simp) ?_
                    refine AllReady.cons rfl (fun K hK => ?_) (AllReady.cons rfl (fun K hK => ?_) AllReady.nil)
                    · go_simp
                      refine hK _ _ ?_
                      clear hK K
                      refine wpAny_ready (rs := [4]) (by kernel_rfl) (by simp) ?_
                      refine AllReady.cons rfl (fun K hK => ?_) AllReady.nil
                      go_simp
                      refine hK _ _ ?_
                      clear hK K
                      refine wpAny_ready (rs := [5]) (by kernel_rfl) (by simp) ?_
                      refine AllReady.cons rfl (fun K hK => ?_) AllReady.nil
                      go_simp
                      go_wp2_with (first | (go_at_call 60; rw [← HW7.out]; refine HOf.out.mono ?_; rintro e w8 ⟨rfl, hb8⟩; have b68 := below_pl hb8 H67.out; have own8 := own_below own6 b68; have bel8 := below_pl b68 bel6; have hs8 := bel8.size; obtain ⟨p0', p1', _, _⟩ := two_cells (below_block b68 HF6.out)))
                      refine wpAny_ready (rs := [6]) (by kernel_rfl) (by simp) ?_
                      refine AllReady.cons rfl (fun K hK => ?_) AllReady.nil
                      go_simp
                      refine hK _ _ ?_
                      clear hK K
                      refine wpAny_ready (rs := [7]) (by kernel_rfl) (by simp) ?_
                      refine AllReady.cons rfl (fun K hK => ?_) AllReady.nil
                      go_simp
                      refine hK _ _ ?_
                      clear hK K
                      refine wpAny_ready (rs := [8]) (by kernel_rfl) (by simp) ?_
                      refine AllReady.cons rfl (fun K hK => ?_) AllReady.nil
                      refine step_append_segP (by rfl) (.tmp 67) (.tmp 74) 42 (by rfl) w2.heap.size 90 i0 (.agg #[.int .i64 0, .int .i64 0, .int .i64 0, .int .i64 0, .int .i64 0, .int .i64 0, .int .i64 0, .int .i64 0]) 8 64 Try.underlying42 hi hz0 hz1 hz2 rfl (by decide) (.slice co M d) M (kcells (Grain.rawB (x.s.ra.take M))) (by rfl) (own8.alloc _) (some ⟨w8.heap.size, 0, none⟩) 1 1 (kc ⟨t, Grain.one v⟩) (by rfl) (by simp) (eight_seg _ _ _ _ _ _ _ _ _ _) (by rfl) (kc_one _) (by unfold maxLen; omega) (by omega) (by simp; omega) ?_
                      intro v' w9 own9 gr9 hat9
                      obtain ⟨A, D, hvA, _, _⟩ := own_open own9
                      subst hvA
                      have bel9 := (bel8.alloc hs8 _).grown gr9 (by simp; omega) (fun j hj => (own8.lt j hj).1)
                      refine hK _ _ ?_
                      clear hK K hat9 gr9
                      refine wpAny_ready (rs := [9]) (by kernel_rfl) (by simp) ?_
                      refine AllReady.cons rfl (fun K hK => ?_) AllReady.nil
                      go_simp
                      refine hK _ _ ?_
                      clear hK K
                      refine wpAny_done (by kernel_rfl) ?_ _
                      have own10 : w9.ownsRow w2.heap.size 90 8 (.slice A (M + 1) D) (M + 1) (kcells (Grain.rawB (x.s.ra.take (M + 1)))) := by rw [HT.out, kcells_snoc]; exact own9
                      clear own9 own8 bel8 own6 HOf H67 HF6 HW7 HT p0' p1' hb8 b68
                      go_wp2
                      go_roundw
                      case rel => exact ⟨M + 1, M + 1, D, A, by omega, by go_num, rfl, rfl, own10, bel9⟩
                      case measure => simp [intOf]; omega
                    · go_simp
                      refine hK _ _ ?_
                      clear hK K
                      refine wpAny_ready (rs := [2, 5]) (by kernel_rfl) (by simp) ?_
                      refine AllReady.cons rfl (fun K hK => ?_) (AllReady.cons rfl (fun K hK => ?_) AllReady.nil)
                      · go_simp
                        refine hK _ _ ?_
                        clear hK K
                        refine wpAny_ready (rs := [5]) (by kernel_rfl) (by simp) ?_
                        refine AllReady.cons rfl (fun K hK => ?_) AllReady.nil
                        go_simp
                        go_wp2_with (first | (go_at_call 60; rw [← HW7.out]; refine HOf.out.mono ?_; rintro e w8 ⟨rfl, hb8⟩; have b68 := below_pl hb8 H67.out; have own8 := own_below own6 b68; have bel8 := below_pl b68 bel6; have hs8 := bel8.size; obtain ⟨p0', p1', _, _⟩ := two_cells (below_block b68 HF6.out)))
                        refine wpAny_ready (rs := [6]) (by kernel_rfl) (by simp) ?_
                        refine AllReady.cons rfl (fun K hK => ?_) AllReady.nil
                        go_simp
                        refine hK _ _ ?_
                        clear hK K
                        refine wpAny_ready (rs := [7]) (by kernel_rfl) (by simp) ?_
                        refine AllReady.cons rfl (fun K hK => ?_) AllReady.nil
                        go_simp
                        refine hK _ _ ?_
                        clear hK K
                        refine wpAny_ready (rs := [8]) (by kernel_rfl) (by simp) ?_
                        refine AllReady.cons rfl (fun K hK => ?_) AllReady.nil
                        refine step_append_segP (by rfl) (.tmp 67) (.tmp 74) 42 (by rfl) w2.heap.size 90 i0 (.agg #[.int .i64 0, .int .i64 0, .int .i64 0, .int .i64 0, .int .i64 0, .int .i64 0, .int .i64 0, .int .i64 0]) 8 64 Try.underlying42 hi hz0 hz1 hz2 rfl (by decide) (.slice co M d) M (kcells (Grain.rawB (x.s.ra.take M))) (by rfl) (own8.alloc _) (some ⟨w8.heap.size, 0, none⟩) 1 1 (kc ⟨t, Grain.one v⟩) (by rfl) (by simp) (eight_seg _ _ _ _ _ _ _ _ _ _) (by rfl) (kc_one _) (by unfold maxLen; omega) (by omega) (by simp; omega) ?_
                        intro v' w9 own9 gr9 hat9
                        obtain ⟨A, D, hvA, _, _⟩ := own_open own9
                        subst hvA
                        have bel9 := (bel8.alloc hs8 _).grown gr9 (by simp; omega) (fun j hj => (own8.lt j hj).1)
                        refine hK _ _ ?_
                        clear hK K hat9 gr9
                        refine wpAny_ready (rs := [9]) (by kernel_rfl) (by simp) ?_
                        refine AllReady.cons rfl (fun K hK => ?_) AllReady.nil
                        go_simp
                        refine hK _ _ ?_
                        clear hK K
                        refine wpAny_done (by kernel_rfl) ?_ _
                        have own10 : w9.ownsRow w2.heap.size 90 8 (.slice A (M + 1) D) (M + 1) (kcells (Grain.rawB (x.s.ra.take (M + 1)))) := by rw [HT.out, kcells_snoc]; exact own9
                        clear own9 own8 bel8 own6 HOf H67 HF6 HW7 HT p0' p1' hb8 b68
                        go_wp2
                        go_roundw
                        case rel => exact ⟨M + 1, M + 1, D, A, by omega, by go_num, rfl, rfl, own10, bel9⟩
                        case measure => simp [intOf]; omega
                      · go_simp
                        go_wp2_with (first | (go_at_call 60; rw [← HW7.out]; refine HOf.out.mono ?_; rintro e w8 ⟨rfl, hb8⟩; have b68 := below_pl hb8 H67.out; have own8 := own_below own6 b68; have bel8 := below_pl b68 bel6; have hs8 := bel8.size; obtain ⟨p0', p1', _, _⟩ := two_cells (below_block b68 HF6.out)))
                        refine wpAny_ready (rs := [2]) (by kernel_rfl) (by simp) ?_
                        refine AllReady.cons rfl (fun K hK => ?_) AllReady.nil
                        go_simp
                        refine hK _ _ ?_
                        clear hK K
                        refine wpAny_ready (rs := [6]) (by kernel_rfl) (by simp) ?_
                        refine AllReady.cons rfl (fun K hK => ?_) AllReady.nil
                        go_simp
                        refine hK _ _ ?_
                        clear hK K
                        refine wpAny_ready (rs := [7]) (by kernel_rfl) (by simp) ?_
                        refine AllReady.cons rfl (fun K hK => ?_) AllReady.nil
                        go_simp
                        refine hK _ _ ?_
                        clear hK K
                        refine wpAny_ready (rs := [8]) (by kernel_rfl) (by simp) ?_
                        refine AllReady.cons rfl (fun K hK => ?_) AllReady.nil
                        refine step_append_segP (by rfl) (.tmp 67) (.tmp 74) 42 (by rfl) w2.heap.size 90 i0 (.agg #[.int .i64 0, .int .i64 0, .int .i64 0, .int .i64 0, .int .i64 0, .int .i64 0, .int .i64 0, .int .i64 0]) 8 64 Try.underlying42 hi hz0 hz1 hz2 rfl (by decide) (.slice co M d) M (kcells (Grain.rawB (x.s.ra.take M))) (by rfl) (own8.alloc _) (some ⟨w8.heap.size, 0, none⟩) 1 1 (kc ⟨t, Grain.one v⟩) (by rfl) (by simp) (eight_seg _ _ _ _ _ _ _ _ _ _) (by rfl) (kc_one _) (by unfold maxLen; omega) (by omega) (by simp; omega) ?_
                        intro v' w9 own9 gr9 hat9
                        obtain ⟨A, D, hvA, _, _⟩ := own_open own9
                        subst hvA
                        have bel9 := (bel8.alloc hs8 _).grown gr9 (by simp; omega) (fun j hj => (own8.lt j hj).1)
                        refine hK _ _ ?_
                        clear hK K hat9 gr9
                        refine wpAny_ready (rs := [9]) (by kernel_rfl) (by simp) ?_
                        refine AllReady.cons rfl (fun K hK => ?_) AllReady.nil
                        go_simp
                        refine hK _ _ ?_
                        clear hK K
                        refine wpAny_done (by kernel_rfl) ?_ _
                        have own10 : w9.ownsRow w2.heap.size 90 8 (.slice A (M + 1) D) (M + 1) (kcells (Grain.rawB (x.s.ra.take (M + 1)))) := by rw [HT.out, kcells_snoc]; exact own9
                        clear own9 own8 bel8 own6 HOf H67 HF6 HW7 HT p0' p1' hb8 b68
                        go_wp2
                        go_roundw
                        case rel => exact ⟨M + 1, M + 1, D, A, by omega, by go_num, rfl, rfl, own10, bel9⟩
                        case measure => simp [intOf]; omega
                · have ek : x.s.ra.take M = x.s.ra := List.take_of_length_le (by have := HRl.out; omega)
                  rw [ek] at own
                  have hlen : M = (Grain.rawB x.s.ra).length := own_klen own
                  go_wp2
                  go_meet
                  exact ⟨co, M, d, rfl, by rw [HEnt.out]; exact own_seg' own, by rw [HEnt.out]; exact hlen, (fun _ b off e => by have := own_at3 own e; omega : kcells (Grain.ent x.s P) ≠ [] → ∀ b off, co = some ⟨b, off, none⟩ → b ≠ B), bel⟩
            · have e0' : (P.k == 0) = false := by simpa using e0
              have hent : Grain.ent x.s P = if P.k = 2 then x.s.co else x.s.fi := by unfold Grain.ent; rw [if_neg e0]
              have belw2 : Below w.heap.size w w2 := below_pl bel2 bel1
              have HEnt := hide hent
              clear hent
              go_wp2
              go_meet
              exact ⟨bo, m1, c1, rfl, by rw [HEnt.out]; exact seg1.below belw2, by rw [HEnt.out]; exact HM1, by rw [HEnt.out]; exact (fun hne b off e => by subst e; have := seg_lt3 seg1 hne; omega : kcells (if P.k = 2 then x.s.co else x.s.fi) ≠ [] → ∀ b off, bo = some ⟨b, off, none⟩ → b ≠ B), Below.refl _ _⟩
          case rest =>
          obtain ⟨bo3, m3, c3, rfl, seg3, HM3, HNE, R3⟩ := hcut
          obtain ⟨w3, hw3⟩ : ∃ w3, w3 = wc := ⟨_, rfl⟩
          rw [← hw3] at R3 seg3 ⊢
          obtain ⟨L3, hL3⟩ : ∃ L3, L3 = Grain.ent x.s P := ⟨_, rfl⟩
          rw [← hL3] at seg3 HM3 HNE
          have HL3 := hide hL3
          have hl5 : m3 ≤ 500 := by rw [HM3.out, hL3]; exact (Grain.ent_ok HSR.out P).2
          have P3 := below_block R3 P2
          have A4 := A3.below R3
          have bel3 : Below w1.heap.size w1 w3 := below_pl R3 bel2
          clear hw3 hL3 R3 P2 A3 bel2 x0 x1 x2 x3 x4 x5 x6 x7 x8 y0 y1 y2 seg1 HM1
          have BQ' := BQ
          go_wp2
          go_loopw [9, 79] (fun s9 i wr => ∃ (j N2 : Nat) (s2 : Grain.Sm), j ≤ m3 ∧ s9 = .int .i64 N2 ∧ i = .int .i64 j ∧ N2 ≤ N + j ∧ SumAt wr B s2 ∧ Below w1.heap.size w1 wr ∧ Seg wr bo3 (kcells L3) ∧ wr.heap[Q]? = some (.cells #[.int .i64 P.k, .int .i64 P.f, .int .i64 P.t] 112 (0, 0)) ∧ Hid (s2 = Grain.accB (L3.take j) P.f P.t s) ∧ Hid (N2 = N + (Grain.winB (L3.take j) P.f P.t).length)) (fun _ i _ => m3 - (intOf i).toNat)
          case atStart => exact ⟨0, N, s, Nat.zero_le _, rfl, rfl, by omega, A4, bel3, seg3, P3, rfl, rfl⟩
          case round =>
            clear A4 bel3 seg3 P3
            obtain ⟨j, N2, s2, hj, rfl, rfl, hN2, A5, bel5, seg5, P5, HA, HN2⟩ := hrel
            by_cases hjl : j < m3
            · have hjl' : j < L3.length := by rw [← HM3.out]; exact hjl
              obtain ⟨kb, ko', rfl, hkb, hkc⟩ := seg_bucket seg5 hjl'
              obtain ⟨K, hK⟩ : ∃ K, K = Grain.bk L3 j := ⟨_, rfl⟩
              have q := hkc j hjl'
              rw [← hK] at q
              obtain ⟨c0, c1, c2, c3, c4, c5, c6, c7⟩ := q
              have HT : Hid (Grain.accB (L3.take (j + 1)) P.f P.t s = if P.f ≤ K.a ∧ K.a < P.t then Grain.join s2 K.s else s2) := by
                show _ = _
                rw [Grain.accB_take _ _ _ hjl', ← hK, ← HA.out]
              have HT2 : Hid (N + (Grain.winB (L3.take (j + 1)) P.f P.t).length = N2 + if P.f ≤ K.a ∧ K.a < P.t then 1 else 0) := by
                show _ = _
                rw [Grain.winB_take _ _ hjl', ← hK, HN2.out]; omega
              obtain ⟨Z, hZ⟩ : ∃ Z, Z = wr.heap.size := ⟨_, rfl⟩
              obtain ⟨W7, hW7⟩ : ∃ W7, W7 = wr.alloc (ko K) := ⟨_, rfl⟩
              have hb7 : Below wr.heap.size wr W7 := by rw [hW7]; exact (Below.refl _ _).alloc (Nat.le_refl _) _
              have F7 : W7.heap[Z]? = some (ko K) := by rw [hW7, hZ]; exact heap_alloc_new wr _
              have A7 := A5.below hb7
              have P7 := below_block hb7 P5
              have seg7 := seg5.below hb7
              have bel7 : Below w1.heap.size w1 W7 := below_pl hb7 bel5
              have HW7 : Hid (W7 = wr.alloc (.cells #[.int .i64 K.a, .int .i64 K.s.c, .int .i64 K.s.t, .int .i64 K.s.mn, .int .i64 K.s.mx, .int .i64 K.s.f, .int .i64 K.s.l, .int .i64 K.s.r] 90)) := hW7
              have HZ := hide hZ
              have hQl : Q < wr.heap.size := lt_of_block P5
              have hBl : B < wr.heap.size := lt_of_block A5
              obtain ⟨y0, y1, y2⟩ := three3 P7
              obtain ⟨q0, q1, q2, q3, q4, q5, q6, q7⟩ := eight_cells F7
              clear hK hW7 hZ hkc hjl' HA HN2 hb7 A5 P5 seg5 bel5
              go_upto_region 24 with fail
              rw [← HW7.out, ← HZ.out]
              clear HW7 HZ c0 c1 c2 c3 c4 c5 c6 c7 hQl hBl
              by_cases g1 : P.f ≤ K.a
              · by_cases g2 : K.a < P.t
                · obtain ⟨a0, a1, a2, a3, a4, a5, a6⟩ := A7.cells
                  go_wp2_with fail
                  refine (rjoin_let s2 K.s W7).mono ?_
                  rintro e w8 ⟨J, HJ, rfl, hb8⟩
                  have A8 := A7.below hb8
                  have P8 := below_block hb8 P7
                  have seg8 := seg7.below hb8
                  have bel8 : Below w1.heap.size w1 w8 := below_pl hb8 bel7
                  obtain ⟨d0, d1, d2, d3, d4, d5, d6⟩ := A8.cells
                  obtain ⟨e0, e1, e2, e3, e4, e5, e6⟩ := seven_thaw A8
                  have HA2 : Hid (J = Grain.accB (L3.take (j + 1)) P.f P.t s) := by show _ = _; rw [HT.out, if_pos ⟨g1, g2⟩]; exact HJ.out
                  have HN3 : Hid (N2 + 1 = N + (Grain.winB (L3.take (j + 1)) P.f P.t).length) := by show _ = _; rw [HT2.out, if_pos ⟨g1, g2⟩]
                  clear HT HT2 HJ a0 a1 a2 a3 a4 a5 a6 A7 P7 seg7 bel7 y0 y1 y2 q0 q1 q2 q3 q4 q5 q6 q7 g1 g2 F7
                  go_wp2
                  go_roundw
                  case rel => exact ⟨j + 1, N2 + 1, J, by omega, by go_num, by go_num, by omega, A8.set J, below_set7 bel8 bB _ _ _ _ _ _ _, seg_set7 seg8 HNE.out _ _ _ _ _ _ _, far7 P8 (by omega) _ _ _ _ _ _ _, HA2, HN3⟩
                  case measure => simp [intOf]; omega
                · have HA2 : Hid (s2 = Grain.accB (L3.take (j + 1)) P.f P.t s) := by show _ = _; rw [HT.out, if_neg (by omega)]
                  have HN3 : Hid (N2 = N + (Grain.winB (L3.take (j + 1)) P.f P.t).length) := by show _ = _; rw [HT2.out, if_neg (by omega)]; rfl
                  clear HT HT2
                  go_wp2
                  go_roundw
                  case rel => exact ⟨j + 1, N2, s2, by omega, rfl, by go_num, by omega, A7, bel7, seg7, P7, HA2, HN3⟩
                  case measure => simp [intOf]; omega
              · have HA2 : Hid (s2 = Grain.accB (L3.take (j + 1)) P.f P.t s) := by show _ = _; rw [HT.out, if_neg (by omega)]
                have HN3 : Hid (N2 = N + (Grain.winB (L3.take (j + 1)) P.f P.t).length) := by show _ = _; rw [HT2.out, if_neg (by omega)]; rfl
                clear HT HT2
                go_wp2
                go_roundw
                case rel => exact ⟨j + 1, N2, s2, by omega, rfl, by go_num, by omega, A7, bel7, seg7, P7, HA2, HN3⟩
                case measure => simp [intOf]; omega
            · have ek : L3.take j = L3 := List.take_of_length_le (by have := HM3.out; omega)
              have hent := Grain.ent_ok HSR.out P
              have T3 : Hid (s2 = Grain.rdS x.s (l.take (k + 1))) := by
                show _ = _
                rw [T1.out, HA.out, ek, (Grain.psum_ent HSR.out HMay.out).1, HL3.out]
                exact Grain.foldl_inB P.f P.t HG.out (by omega) _ hent.1 (by omega)
              have T4 : Hid (N2 = Grain.rdN x.s (l.take (k + 1))) := by
                show _ = _
                rw [T2.out, HN2.out, ek, (Grain.psum_ent HSR.out HMay.out).2, HL3.out]
              clear T1 T2 HA HN2 ek hent
              go_wp2
              go_roundw
              case rel => exact ⟨k + 1, N2, s2, by omega, rfl, by go_num, by omega, A5, bel5, T3, T4, HO2⟩
              case measure => simp [intOf]; omega
        · have hno : Grain.fol x.s l = false := by
            rw [Bool.eq_false_iff]
            intro h
            have := (Grain.fol_iff x.s l).1 h k HKL.out
            have h2 := HB'.out
            rw [this] at h2
            cases h2
          have HR : Hid (Grain.read x.s l = (Grain.zero, 0, 8)) := by
            show _ = _
            rw [Grain.read, if_neg (by simp [← HE.out]), if_pos hno]
          have Z3 := Z1.below bel2
          obtain ⟨z0, z1, z2, z3, z4, z5, z6⟩ := Z3.cells
          obtain ⟨y0, y1, y2, y3, y4, y5, y6⟩ := seven_thaw Z3
          clear hno
          go_wp2
          exact bodyPost_ret (v := .tuple #[.agg #[.int .i64 0, .int .i64 0, .int .i64 0, .int .i64 0, .int .i64 0, .int .i64 0, .int .i64 0], .int .i64 0, .int .i64 8]) (by simp [results, Try.results34, go_sem, z0, z1, z2, z3, z4, z5, z6]) rfl ⟨Grain.zero, 0, 8, rfl, HR, below_set7 (below_pl bel2 bel1) (by have := HX.out; omega) _ _ _ _ _ _ _⟩
      · have ek : l.take k = l := List.take_of_length_le (by have := HN.out; omega)
        have hall : Grain.fol x.s l = true := by
          rw [Grain.fol_iff]
          intro i hi
          exact HO.out i (by have := HN.out; omega)
        have HR : Hid (Grain.read x.s l = (s, (N : Int), 0)) := by
          show _ = _
          rw [Grain.read, if_neg (by simp [← HE.out]), if_neg (by rw [hall]; decide), H1.out, H2.out, ek]
        obtain ⟨g0, g1, g2, g3, g4, g5, g6⟩ := A1.cells
        have Z3 := Z1.below belr
        obtain ⟨z0, z1, z2, z3, z4, z5, z6⟩ := Z3.cells
        obtain ⟨y0, y1, y2, y3, y4, y5, y6⟩ := seven_thaw Z3
        clear ek hall H1 H2
        go_wp2
        exact bodyPost_ret (v := .tuple #[.agg #[.int .i64 s.c, .int .i64 s.t, .int .i64 s.mn, .int .i64 s.mx, .int .i64 s.f, .int .i64 s.l, .int .i64 s.r], .int .i64 N, .int .i64 0]) (by simp [results, Try.results34, go_sem, z0, z1, z2, z3, z4, z5, z6]) rfl ⟨s, N, 0, rfl, HR, below_set7 (below_pl belr bel1) (by have := HX.out; omega) _ _ _ _ _ _ _⟩
  · have HR : Hid (Grain.read x.s l = (Grain.zero, 0, E)) := by
      show _ = _
      rw [Grain.read, ← HE.out, if_pos hw]
    have hne : (E != 0) = true := by simpa using hw
    obtain ⟨z0, z1, z2, z3, z4, z5, z6⟩ := Z1.cells
    obtain ⟨y0, y1, y2, y3, y4, y5, y6⟩ := seven_thaw Z1
    go_wp2
    exact bodyPost_ret (v := .tuple #[.agg #[.int .i64 0, .int .i64 0, .int .i64 0, .int .i64 0, .int .i64 0, .int .i64 0, .int .i64 0], .int .i64 0, .int .i64 E]) (by simp [results, Try.results34, go_sem, z0, z1, z2, z3, z4, z5, z6]) rfl ⟨Grain.zero, 0, E, rfl, HR, below_set7 bel1 (by have := HX.out; omega) _ _ _ _ _ _ _⟩

end Go.Proofs.Ytfgablhgjbjbkae
