/-
  The walk of the document's Append.
-/
import Derived.Test.YtfgablhgjbjbkaeShX
import Derived.Test.YtfgablhgjbjbkaeShH
import Derived.Test.YtfgablhgjbjbkaeShJ
import Derived.Deep.CutRange
import Derived.Deep.RegionLaw
namespace Grain

/-- a time that comes too late is at, or below, any of those that are there -/
theorem late_all {s : Shf} (h : swrong s = 0) (t : Int) : late s t = (decide (t < s.ft) || s.ra.any fun x => decide (t ≤ x.1)) := by
  have hw : (wrong s.ra).1 = 0 := by
    unfold swrong at h
    split at h
    · contradiction
    · split at h
      · contradiction
      · rename_i h2; simpa using h2
  have hp := ((right_iff s.ra).1 hw).2.2
  unfold late
  congr 1
  generalize s.ra = l at hp
  rcases List.eq_nil_or_concat l with rfl | ⟨q, y, rfl⟩
  · rfl
  · simp only [List.concat_eq_append, List.getLast?_append, List.getLast?_singleton, Option.some_or] at hp ⊢
    rw [List.any_append]
    simp only [List.any_cons, List.any_nil, Bool.or_false]
    rw [Bool.eq_iff_iff]
    simp only [Bool.or_eq_true, List.any_eq_true, decide_eq_true_eq]
    constructor
    · intro h; exact .inr h
    · rintro (⟨x, hx, h⟩ | h)
      · have := (List.pairwise_append.1 hp).2.2 x hx y (by simp)
        omega
      · exact h

end Grain
namespace Go.GrainU

theorem any_take1 {α : Type} (p : α → Bool) {l : List α} {k : Nat} (h : k < l.length) : (l.take (k + 1)).any p = ((l.take k).any p || p l[k]) := by
  rw [List.take_add_one, List.getElem?_eq_getElem h, List.any_append]
  simp

open Go.RowKit in
theorem seg_grown2 {w w' : World} {r : Option Nat} {ao : Option Addr} {xs : List Value} (h : Seg w ao xs) (hg : w.grownBy w' r) (hne : ∀ b off, ao = some ⟨b, off, none⟩ → r ≠ some b) : Seg w' ao xs := by
  rcases h with h | ⟨b, off, rfl, hc⟩
  · exact .inl h
  · refine .inr ⟨b, off, rfl, fun j hj => ?_⟩
    have hl : b < w.heap.size := Seg.block_lt hc (fun e => by rw [e] at hj; simp at hj)
    have hb := hg.block b hl (fun e => hne b off rfl e.symm)
    rw [← hc j hj]
    simp [World.cell?, hb]

end Go.GrainU
namespace Go.Proofs.Ytfgablhgjbjbkae
open Go.RowKit Go.GrainU

/-- what comes of a shelf, the document's way: rows may be those that came in -/
def Fr (b : Nat) (a : Option Addr) : Prop := ∀ k off, a = some ⟨k, off, none⟩ → b ≤ k

/-- each row is the other's, or new -/
def Apt (b : Nat) (x y : ShT) : Prop := ((y.a0 = x.a0 ∧ y.s.se = x.s.se) ∨ Fr b y.a0) ∧ ((y.a1 = x.a1 ∧ y.s.ra = x.s.ra) ∨ Fr b y.a1) ∧ ((y.a2 = x.a2 ∧ y.s.fi = x.s.fi) ∨ Fr b y.a2) ∧ ((y.a3 = x.a3 ∧ y.s.co = x.s.co) ∨ Fr b y.a3)

theorem own_fr {w : World} {base e size n n' : Nat} {ao : Option Addr} {c : Nat} {xs : List Value} (h : w.ownsRow base e size (.slice ao n c) n' xs) {b : Nat} (hb : b ≤ base) : Fr b ao := fun k off q => by
  have := (h.lt k (by rw [q]; rfl)).1
  omega

def RPost (w : World) (x : ShT) (r : Grain.Shf × Int) (e : Ending) (w' : World) : Prop :=
  ∃ y : ShT, e = .returned (.tuple #[y.v, .int .i64 r.2]) ∧ y.s = r.1 ∧ ShIn w' y ∧ Apt w.heap.size x y ∧ Below w.heap.size w w'

theorem rpost_no {w w' : World} {x : ShT} {E : Int} {r : Grain.Shf × Int} (h : r = (Grain.szero, E)) (hb : Below w.heap.size w w') :
    RPost w x r (.returned (.tuple #[.agg #[.slice none 0 0, .slice none 0 0, .slice none 0 0, .slice none 0 0, .int .i64 0, .int .i64 0, .int .i64 0, .int .i64 0, .int .i64 0], .int .i64 E])) w' := by
  subst h
  exact ⟨szT, rfl, rfl, szT_in _, ⟨.inr fun _ _ q => by (cases q), .inr fun _ _ q => by (cases q), .inr fun _ _ q => by (cases q), .inr fun _ _ q => by (cases q)⟩, hb⟩

set_option maxRecDepth 100000 in
set_option maxHeartbeats 4000000 in
theorem rapp_any (x : ShT) (t v : Int) (w : World) (hx : ShIn w x) :
    Calls Try.prog 17 #[x.v, .agg #[.int .i64 t, .int .i64 v]] w (RPost w x (Grain.sapp x.s t v)) := by
  have HP : Hid (Grain.sapp x.s t v = if Grain.swrong x.s ≠ 0 then (Grain.szero, Grain.swrong x.s) else if Grain.inR t v = false then (Grain.szero, 3) else if Grain.late x.s t = true then (Grain.szero, 9) else if 500 ≤ x.s.ra.length then (Grain.szero, 5) else ({ x.s with ra := x.s.ra ++ [(t, v)] }, 0)) := rfl
  obtain ⟨r, hr⟩ : ∃ r, r = Grain.sapp x.s t v := ⟨_, rfl⟩
  rw [← hr] at HP ⊢
  clear hr
  obtain ⟨y, hy⟩ : ∃ y, y = x := ⟨_, rfl⟩
  obtain ⟨⟨se, ra, fi, co, rf, ff, ft, cf, ct⟩, a0, c0, a1, c1, a2, c2, a3, c3⟩ := x
  obtain ⟨m0, e0⟩ : ∃ m, m = se.length := ⟨_, rfl⟩
  obtain ⟨m1, e1⟩ : ∃ m, m = ra.length := ⟨_, rfl⟩
  obtain ⟨m2, e2⟩ : ∃ m, m = fi.length := ⟨_, rfl⟩
  obtain ⟨m3, e3⟩ : ∃ m, m = co.length := ⟨_, rfl⟩
  have Hv : Hid (y.v = .agg #[.slice a0 m0 c0, .slice a1 m1 c1, .slice a2 m2 c2, .slice a3 m3 c3, .int .i64 rf, .int .i64 ff, .int .i64 ft, .int .i64 cf, .int .i64 ct]) := by
    show _ = _
    rw [hy, e0, e1, e2, e3]; rfl
  have HYb : Hid (y.s = ⟨se, ra, fi, co, rf, ff, ft, cf, ct⟩) := by show _ = _; rw [hy]
  have HYa : Hid (y.a0 = a0 ∧ y.c0 = c0 ∧ y.a1 = a1 ∧ y.c1 = c1 ∧ y.a2 = a2 ∧ y.c2 = c2 ∧ y.a3 = a3 ∧ y.c3 = c3) := by rw [hy]; exact ⟨rfl, rfl, rfl, rfl, rfl, rfl, rfl, rfl⟩
  have HM : Hid (m0 = se.length ∧ m1 = ra.length ∧ m2 = fi.length ∧ m3 = co.length) := ⟨e0, e1, e2, e3⟩
  have Hra : Hid (m1 = y.s.ra.length) := by show _ = _; rw [hy, e1]
  rw [← hy] at HP hx
  rw [← hy, Hv.out]
  rw [← Hra.out] at HP
  clear e0 e1 e2 e3 hy
  obtain ⟨X, hX⟩ : ∃ X, X = w.heap.size := ⟨_, rfl⟩
  obtain ⟨U, hU⟩ : ∃ U, U = (w.alloc (.cells #[.slice a0 m0 c0, .slice a1 m1 c1, .slice a2 m2 c2, .slice a3 m3 c3, .int .i64 rf, .int .i64 ff, .int .i64 ft, .int .i64 cf, .int .i64 ct] 44)).alloc (.cells #[.int .i64 t, .int .i64 v] 35) := ⟨_, rfl⟩
  obtain ⟨V, hV⟩ : ∃ V, V = U.alloc (.cells #[.slice none 0 0, .slice none 0 0, .slice none 0 0, .slice none 0 0, .int .i64 0, .int .i64 0, .int .i64 0, .int .i64 0, .int .i64 0] 44) := ⟨_, rfl⟩
  have hUs : U.heap.size = X + 2 := by rw [hU, hX]; simp
  have hVs : V.heap.size = X + 3 := by rw [hV]; simp [hUs]
  have bel : Below w.heap.size w V := by rw [hV, hU]; exact (((Below.refl _ _).alloc (Nat.le_refl _) _).alloc (by simp) _).alloc (by simp; omega) _
  have B0 : V.heap[X]? = some (sob (.slice a0 m0 c0) (.slice a1 m1 c1) (.slice a2 m2 c2) (.slice a3 m3 c3) (.int .i64 rf) (.int .i64 ff) (.int .i64 ft) (.int .i64 cf) (.int .i64 ct)) := by
    rw [hV, Below.heap_alloc _ _ _ (by omega), hU, Below.heap_alloc _ _ _ (by rw [hX]; simp), hX]; exact heap_alloc_new w _
  have S0 : V.heap[X + 1]? = some (.cells #[.int .i64 t, .int .i64 v] 35 (0, 0)) := by
    have e : X + 1 = (w.alloc (.cells #[.slice a0 m0 c0, .slice a1 m1 c1, .slice a2 m2 c2, .slice a3 m3 c3, .int .i64 rf, .int .i64 ff, .int .i64 ft, .int .i64 cf, .int .i64 ct] 44)).heap.size := by rw [hX]; simp
    rw [hV, Below.heap_alloc _ _ _ (by omega), hU, e]; exact heap_alloc_new _ _
  have R0 : V.heap[X + 2]? = some (sob (.slice none 0 0) (.slice none 0 0) (.slice none 0 0) (.slice none 0 0) (.int .i64 0) (.int .i64 0) (.int .i64 0) (.int .i64 0) (.int .i64 0)) := by
    rw [hV, ← hUs]; exact heap_alloc_new _ _
  have HV : Hid (V = ((w.alloc (.cells #[.slice a0 m0 c0, .slice a1 m1 c1, .slice a2 m2 c2, .slice a3 m3 c3, .int .i64 rf, .int .i64 ff, .int .i64 ft, .int .i64 cf, .int .i64 ct] 44)).alloc (.cells #[.int .i64 t, .int .i64 v] 35)).alloc (.cells #[.slice none 0 0, .slice none 0 0, .slice none 0 0, .slice none 0 0, .int .i64 0, .int .i64 0, .int .i64 0, .int .i64 0, .int .i64 0] 44)) := by rw [hV, hU]; exact rfl
  have hXw : w.heap.size ≤ X := by omega
  have HX := hide hX
  have hxV := hx.below bel
  have HXX := hide hx
  clear hU hV hX hUs
  have HVs := hide hVs
  clear hVs
  go_enter Try.func17, Try.ntmps17
  go_wp2_with fail
  rw [← HV.out, ← Hv.out, ← HX.out]
  refine (rshwrong_any y V hxV).mono ?_
  rintro e w1 ⟨rfl, hb1⟩
  have bel1 : Below w.heap.size w w1 := bel.trans (hb1.mono bel.size)
  have B1 := below_block hb1 B0
  have S1 := below_block hb1 S0
  have R1 := below_block hb1 R0
  have hx1 := hxV.below hb1
  have hs1 : X + 3 ≤ w1.heap.size := by have := hb1.size; have := HVs.out; omega
  clear HV hb1 B0 S0 R0 hxV bel
  obtain ⟨q0, q1, q2, q3, q4, q5, q6, q7, q8⟩ := sob_cells R1
  obtain ⟨f0, f1, f2, f3, f4, f5, f6, f7, f8⟩ := sob_free R1
  obtain ⟨s0, s1, _, _⟩ := two_cells S1
  obtain ⟨E, hE⟩ : ∃ E, E = Grain.swrong y.s := ⟨_, rfl⟩
  rw [← hE] at HP ⊢
  have HE := hide hE
  clear hE
  by_cases z : E = 0
  · have HE0 : Hid (Grain.swrong y.s = 0) := by show _ = _; rw [← HE.out]; exact z
    clear HE
    subst z
    have HP1 : Hid (r = if Grain.inR t v = false then (Grain.szero, 3) else if Grain.late y.s t = true then (Grain.szero, 9) else if 500 ≤ m1 then (Grain.szero, 5) else ({ y.s with ra := y.s.ra ++ [(t, v)] }, 0)) := by
      show _ = _; rw [HP.out, if_neg (by simp)]
    clear HP
    obtain ⟨W1, hW1⟩ : ∃ W, W = w1.alloc (.cells #[.int .i64 t, .int .i64 v] 35) := ⟨_, rfl⟩
    have hbW : Below w1.heap.size w1 W1 := by rw [hW1]; exact (Below.refl _ _).alloc (Nat.le_refl _) _
    have sg : Seg W1 (some ⟨w1.heap.size, 0, none⟩) (scells [(t, v)]) := by rw [hW1]; exact seg_new w1 _ _
    have HW1 := hide hW1
    clear hW1
    go_wp2_with fail
    rw [← HW1.out]
    refine (rwrong_any [(t, v)] _ 1 1 W1 sg rfl).mono ?_
    rintro e w2 ⟨rfl, hb2⟩
    rw [Grain.wrong_one]
    have hb12 : Below w1.heap.size w1 w2 := hbW.trans (hb2.mono hbW.size)
    have bel2 : Below w.heap.size w w2 := bel1.trans (hb12.mono bel1.size)
    have B2 := below_block hb12 B1
    have S2 := below_block hb12 S1
    have R2 := below_block hb12 R1
    have hx2 := hx1.below hb12
    have hs2 : X + 3 ≤ w2.heap.size := by have := hb12.size; omega
    clear HW1 hb2 hbW hb12 sg B1 S1 R1 hx1 bel1 hs1 q0 q1 q2 q3 q4 q5 q6 q7 q8 f0 f1 f2 f3 f4 f5 f6 f7 f8 s0 s1
    cases hin : Grain.inR t v
    · have HP2 : Hid (r = (Grain.szero, 3)) := by show _ = _; rw [HP1.out, if_pos hin]
      clear HP1 hin
      obtain ⟨W2, hW2⟩ : ∃ W, W = w2.alloc (.cells #[.int .i64 3, .int .i64 0] 78) := ⟨_, rfl⟩
      have hbW : Below w2.heap.size w2 W2 := by rw [hW2]; exact (Below.refl _ _).alloc (Nat.le_refl _) _
      have bel3 : Below w.heap.size w W2 := bel2.trans (hbW.mono bel2.size)
      have R3 := below_block hbW R2
      have p0 : W2.cell? ⟨w2.heap.size, 0, none⟩ = some (.int .i64 3) := by rw [hW2]; simp
      obtain ⟨q0, q1, q2, q3, q4, q5, q6, q7, q8⟩ := sob_cells R3
      obtain ⟨f0, f1, f2, f3, f4, f5, f6, f7, f8⟩ := sob_free R3
      have HW2 := hide hW2
      clear hW2 hbW B2 S2 R2
      rw [if_neg (by decide)]
      go_upto_region 5 with fail
      rw [← HW2.out]
      go_wp2_with fail
      go_region
      all_goals
        go_wp2
        exact bodyPost_ret (v := .tuple #[.agg #[.slice none 0 0, .slice none 0 0, .slice none 0 0, .slice none 0 0, .int .i64 0, .int .i64 0, .int .i64 0, .int .i64 0, .int .i64 0], .int .i64 3]) (by simp [results, Try.results17, go_sem, q0, q1, q2, q3, q4, q5, q6, q7, q8]) rfl (rpost_no HP2.out (below_drewN (below_set9 bel3 (by omega) _ _ _ _ _ _ _ _ _) 1))
    · have HP2 : Hid (r = if Grain.late y.s t = true then (Grain.szero, 9) else if 500 ≤ m1 then (Grain.szero, 5) else ({ y.s with ra := y.s.ra ++ [(t, v)] }, 0)) := by
        show _ = _; rw [HP1.out, if_neg (by rw [hin]; decide)]
      clear HP1 hin
      obtain ⟨W2, hW2⟩ : ∃ W, W = w2.alloc (.cells #[.int .i64 0, .int .i64 0] 78) := ⟨_, rfl⟩
      have hbW : Below w2.heap.size w2 W2 := by rw [hW2]; exact (Below.refl _ _).alloc (Nat.le_refl _) _
      have bel3 : Below w.heap.size w W2 := bel2.trans (hbW.mono bel2.size)
      have B3 := below_block hbW B2
      have S3 := below_block hbW S2
      have R3 := below_block hbW R2
      have hx3 := hx2.below hbW
      have hs3 : X + 3 ≤ W2.heap.size := by have := hbW.size; omega
      have p0 : W2.cell? ⟨w2.heap.size, 0, none⟩ = some (.int .i64 0) := by rw [hW2]; simp
      obtain ⟨b0, b1, b2, b3, b4, b5, b6, b7, b8⟩ := sob_cells B3
      obtain ⟨s0, s1, _, _⟩ := two_cells S3
      have HW2 := hide hW2
      clear hW2 hbW B2 S2 R2 bel2 hs2 hx2
      rw [if_pos rfl]
      go_upto_region 5 with fail
      rw [← HW2.out]
      have HLT : Hid (Grain.late y.s t = (decide (t < ft) || ra.any fun x => decide (t ≤ x.1))) := by
        show _ = _
        have := Grain.late_all HE0.out t
        rw [HYb.out] at this ⊢
        exact this
      have hg1 : Seg W2 a1 (scells ra) := by have := hx3.g1; rwa [HYb.out, HYa.out.2.2.1] at this
      have hm1 : m1 ≤ 8796093022208 := by have h1 := HM.out.2.1; have h2 := hx3.n1; rw [HYb.out] at h2; simp only at h2; omega
      obtain ⟨Q, hQ⟩ : ∃ Q, Q = decide (t < ft) := ⟨_, rfl⟩
      rw [← hQ] at HLT
      have HQ := hide hQ
      have hsW : X + 3 ≤ W2.heap.size := hs3
      clear HW2 hQ hx3
      go_wp2_with fail
      rw [← HQ.out]
      clear b0 b1 b2 b3 b4 b5 b6 b7 b8 s0 s1 p0 HE0
      go_loopw [8, 34] (fun v i wr => ∃ k : Nat, k ≤ m1 ∧ i = .int .i64 k ∧ v = .bool (Q || (ra.take k).any fun x => decide (t ≤ x.1)) ∧ Below W2.heap.size W2 wr) (fun _ i _ => m1 - (intOf i).toNat)
      case atStart => exact ⟨0, Nat.zero_le _, rfl, by simp, Below.refl _ _⟩
      case round =>
      obtain ⟨k, hk, rfl, rfl, bel8⟩ := hrel
      by_cases hlt : k < m1
      · have hkl : k < ra.length := by rw [← HM.out.2.1]; exact hlt
        obtain ⟨b, off, rfl, hcell⟩ := hg1.sample hkl
        have hbl : b < W2.heap.size := World.block_lt_of_cell? W2 ⟨b, off + k * 2, none⟩ (hcell k hkl).1
        obtain ⟨T, hT⟩ : ∃ T, T = Grain.tm ra k := ⟨_, rfl⟩
        obtain ⟨U, hU⟩ : ∃ U, U = Grain.vl ra k := ⟨_, rfl⟩
        have e0 : wr.cell? ⟨b, off + k * 2, none⟩ = some (.int .i64 T) := by rw [hT]; exact (bel8.cell (by exact hbl)).trans (hcell k hkl).1
        have e1 : wr.cell? ⟨b, off + k * 2 + 1, none⟩ = some (.int .i64 U) := by rw [hU]; exact (bel8.cell (by exact hbl)).trans (hcell k hkl).2
        have hAk : ra[k] = (T, U) := by rw [hT, hU, (Grain.tm_get hkl).1, (Grain.tm_get hkl).2]
        obtain ⟨P, hP⟩ : ∃ P, P = (Q || (ra.take k).any fun x => decide (t ≤ x.1)) := ⟨_, rfl⟩
        have HT : Hid ((Q || (ra.take (k + 1)).any fun x => decide (t ≤ x.1)) = (P || decide (t ≤ T))) := by
          show _ = _
          rw [any_take1 _ hkl, hAk, hP, Bool.or_assoc]
        rw [← hP]
        obtain ⟨Y, hY⟩ : ∃ Y, Y = wr.heap.size := ⟨_, rfl⟩
        obtain ⟨W5, hW5⟩ : ∃ W, W = wr.alloc (.cells #[.int .i64 T, .int .i64 U] 35) := ⟨_, rfl⟩
        have Z : W5.heap[Y]? = some (.cells #[.int .i64 T, .int .i64 U] 35 (0, 0)) := by rw [hW5, hY]; exact heap_alloc_new wr _
        have bel9 : Below W2.heap.size W2 W5 := by rw [hW5]; exact bel8.alloc bel8.size _
        have HW5 := hide hW5
        have HYz := hide hY
        clear hP hAk hT hU hcell hkl hY hW5 bel8
        go_upto_region 11 with fail
        rw [← HW5.out, ← HYz.out]
        clear HW5 HYz e0 e1
        obtain ⟨u0, u1, _, _⟩ := two_cells Z
        obtain ⟨s0, s1, _, _⟩ := two_cells (below_block bel9 S3)
        rcases Bool.eq_false_or_eq_true P with h1 | h1 <;> rw [h1] at HT ⊢
        · have HT' : Hid ((Q || (ra.take (k + 1)).any fun x => decide (t ≤ x.1)) = true) := by show _ = _; rw [HT.out]; rfl
          clear HT
          go_wp2
          go_roundw
          case rel => exact ⟨k + 1, by omega, by go_num, by rw [HT'.out], bel9⟩
          case measure => simp [intOf]; omega
        · obtain ⟨d, hd⟩ : ∃ d, decide (t ≤ T) = d := ⟨_, rfl⟩
          have HT' : Hid ((Q || (ra.take (k + 1)).any fun x => decide (t ≤ x.1)) = d) := by show _ = _; rw [HT.out, hd]; cases d <;> rfl
          clear HT
          go_wp2
          go_roundw
          case rel => exact ⟨k + 1, by omega, by go_num, by rw [HT'.out], bel9⟩
          case measure => simp [intOf]; omega
      · have HT : Hid (ra.take k = ra) := by
          show _ = _
          rw [List.take_of_length_le (by rw [← HM.out.2.1]; omega)]
        rw [HT.out, ← HLT.out]
        clear HT hg1 HLT HQ
        obtain ⟨W3, hW3⟩ : ∃ W, W = wr := ⟨_, rfl⟩
        rw [← hW3] at bel8 ⊢
        clear hW3
        have bel4 : Below w.heap.size w W3 := bel3.trans (bel8.mono bel3.size)
        have B4 := below_block bel8 B3
        have S4 := below_block bel8 S3
        have R4 := below_block bel8 R3
        have hs4 : X + 3 ≤ W3.heap.size := by have := bel8.size; omega
        clear B3 S3 R3 bel3 hs3 bel8
        obtain ⟨b0, b1, b2, b3, b4, b5, b6, b7, b8⟩ := sob_cells B4
        obtain ⟨q0, q1, q2, q3, q4, q5, q6, q7, q8⟩ := sob_cells R4
        obtain ⟨f0, f1, f2, f3, f4, f5, f6, f7, f8⟩ := sob_free R4
        cases hl : Grain.late y.s t
        · by_cases h5 : 500 ≤ m1
          · have HP3 : Hid (r = (Grain.szero, 5)) := by show _ = _; rw [HP2.out, if_neg (by rw [hl]; decide), if_pos h5]
            have hd : decide ((500 : Int) ≤ (m1 : Int)) = true := by simp; omega
            clear HP2 hl h5
            go_wp2
            exact bodyPost_ret (v := .tuple #[.agg #[.slice none 0 0, .slice none 0 0, .slice none 0 0, .slice none 0 0, .int .i64 0, .int .i64 0, .int .i64 0, .int .i64 0, .int .i64 0], .int .i64 5]) (by simp [results, Try.results17, go_sem, q0, q1, q2, q3, q4, q5, q6, q7, q8]) rfl (rpost_no HP3.out (below_set9 bel4 (by omega) _ _ _ _ _ _ _ _ _))
          · have HP3 : Hid (r = ({ y.s with ra := y.s.ra ++ [(t, v)] }, 0)) := by show _ = _; rw [HP2.out, if_neg (by rw [hl]; decide), if_neg h5]
            have hd : decide ((500 : Int) ≤ (m1 : Int)) = false := by simp; omega
            clear HP2 hl
            have hgS : Seg W3 a1 (scells ra) := by have := (HXX.out.below bel4).g1; rwa [HYb.out, HYa.out.2.2.1] at this
            have hnS : a1 = none → m1 = 0 ∧ c1 = 0 := by have := HXX.out.z1; rw [HYb.out, HYa.out.2.2.1, HYa.out.2.2.2.1] at this; simp only [← HM.out.2.1] at this; exact this
            have hlS : (scells ra).length = m1 * 2 := by rw [scells_length, HM.out.2.1]
            obtain ⟨i0, hi, hz0, hz1, hz2⟩ := sinfo_parts Try.infoSmp
            obtain ⟨s0, s1, _, _⟩ := two_cells S4
            have BE0 : Below W3.heap.size W3 (W3.alloc (.cells #[] 35)) := (Below.refl _ W3).alloc (Nat.le_refl _) _
            have BES0 : Below W3.heap.size W3 ((W3.alloc (.cells #[] 35)).alloc (.cells #[.int .i64 t, .int .i64 v] 35)) := BE0.alloc BE0.size _
            have BS0 : Below W3.heap.size W3 (W3.alloc (.cells #[.int .i64 t, .int .i64 v] 35)) := (Below.refl _ W3).alloc (Nat.le_refl _) _
            have BSE0 : Below W3.heap.size W3 ((W3.alloc (.cells #[.int .i64 t, .int .i64 v] 35)).alloc (.cells #[] 35)) := BS0.alloc BS0.size _
            have BE : Below W3.heap.size W3 (W3.alloc (.cells #[] 35)).drew := below_drewN BE0 1
            have BES : Below W3.heap.size W3 ((W3.alloc (.cells #[] 35)).alloc (.cells #[.int .i64 t, .int .i64 v] 35)).drew := below_drewN BES0 1
            have BSE : Below W3.heap.size W3 ((W3.alloc (.cells #[.int .i64 t, .int .i64 v] 35)).alloc (.cells #[] 35)).drew := below_drewN BSE0 1
            have OE : (W3.alloc (.cells #[] 35)).drew.ownsRow W3.heap.size 35 2 (.slice (some ⟨W3.heap.size, 0, none⟩) 0 0) 0 [] := own_heap rfl (World.ownsRow_made W3 #[] 0 (Nat.le_refl _) (by decide) rfl)
            have OES : ((W3.alloc (.cells #[] 35)).alloc (.cells #[.int .i64 t, .int .i64 v] 35)).drew.ownsRow W3.heap.size 35 2 (.slice (some ⟨W3.heap.size, 0, none⟩) 0 0) 0 [] := own_heap rfl ((World.ownsRow_made W3 #[] 0 (Nat.le_refl _) (by decide) rfl).alloc _)
            have OSE : ((W3.alloc (.cells #[.int .i64 t, .int .i64 v] 35)).alloc (.cells #[] 35)).drew.ownsRow W3.heap.size 35 2 (.slice (some ⟨W3.heap.size + 1, 0, none⟩) 0 0) 0 [] := by
              have := World.ownsRow_made (base := W3.heap.size) (e := 35) (size := 2) (W3.alloc (.cells #[.int .i64 t, .int .i64 v] 35)) #[] 0 (by simp) (by decide) rfl
              rw [show (W3.alloc (.cells #[.int .i64 t, .int .i64 v] 35)).heap.size = W3.heap.size + 1 from by simp] at this
              exact own_heap rfl this
            clear q0 q1 q2 q3 q4 q5 q6 q7 q8 f0 f1 f2 f3 f4 f5 f6 f7 f8
            go_upto_region 17 with fail
            go_cut [] from 54 to 61 (fun wx => ∃ (A : Option Addr) (D : Nat), wx.heap[X]? = some (sob (.slice a0 m0 c0) (.slice A (m1 + 1) D) (.slice a2 m2 c2) (.slice a3 m3 c3) (.int .i64 rf) (.int .i64 ff) (.int .i64 ft) (.int .i64 cf) (.int .i64 ct)) ∧ wx.heap[X + 2]? = some (sob (.slice none 0 0) (.slice none 0 0) (.slice none 0 0) (.slice none 0 0) (.int .i64 0) (.int .i64 0) (.int .i64 0) (.int .i64 0) (.int .i64 0)) ∧ wx.ownsRow W3.heap.size 35 2 (.slice A (m1 + 1) D) (m1 + 1) (scells (ra ++ [(t, v)])) ∧ Below w.heap.size w wx)
            case first =>
              have SB : Seg ((W3.alloc (.cells #[] 35)).alloc (.cells #[.int .i64 t, .int .i64 v] 35)).drew (some ⟨W3.heap.size + 1, 0, none⟩) (scells [(t, v)]) := by
                have := seg_new (W3.alloc (.cells #[] 35)) #[.int .i64 t, .int .i64 v] 35
                rw [show (W3.alloc (.cells #[] 35)).heap.size = W3.heap.size + 1 from by simp] at this
                exact Seg.below this (below_drewN (Below.refl _ _) 1)
              have SC0 : Seg (W3.alloc (.cells #[.int .i64 t, .int .i64 v] 35)) (some ⟨W3.heap.size, 0, none⟩) (scells [(t, v)]) := seg_new W3 #[.int .i64 t, .int .i64 v] 35
              have SC : Seg ((W3.alloc (.cells #[.int .i64 t, .int .i64 v] 35)).alloc (.cells #[] 35)).drew (some ⟨W3.heap.size, 0, none⟩) (scells [(t, v)]) := SC0.below (below_drewN ((Below.refl _ _).alloc (Nat.le_refl _) _) 1)
              have kE := (sob_cells (below_block BE0 B4)).2.1
              have kS := (sob_cells (below_block BS0 B4)).2.1
              have kES := (sob_cells (below_block BES0 B4)).2.1
              have kSE := (sob_cells (below_block BSE0 B4)).2.1
              obtain ⟨x0, x1, _, _⟩ := two_cells (below_block BE0 S4)
              go_region_law
                (first
                  | (refine step_append_seg (by rfl) (.tmp 54) (.tmp 56) 31 (by rfl) W3.heap.size 35 i0 (.agg #[.int .i64 0, .int .i64 0]) 2 16 Try.underlying31 hi hz0 hz1 hz2 rfl (by decide) (.slice (some ⟨W3.heap.size, 0, none⟩) 0 0) 0 [] (by rfl) OE a1 m1 c1 (scells ra) (by rfl) hnS (hgS.below BE) hlS (scells_one ra) (by unfold maxLen; omega) (by omega) BE.size ?_; intro va wa owna gra hata; have bla : Below W3.heap.size W3 wa := BE.grown gra BE.size (fun j hj => by simp [Value.ownBlock] at hj; omega); have hb1 := bla.size; obtain ⟨r0, r1, _, _⟩ := two_cells (below_block bla S4))
                  | (refine step_append_seg (by rfl) (.tmp 54) (.tmp 56) 31 (by rfl) W3.heap.size 35 i0 (.agg #[.int .i64 0, .int .i64 0]) 2 16 Try.underlying31 hi hz0 hz1 hz2 rfl (by decide) (.slice (some ⟨W3.heap.size, 0, none⟩) 0 0) 0 [] (by rfl) OES a1 m1 c1 (scells ra) (by rfl) hnS (hgS.below BES) hlS (scells_one ra) (by unfold maxLen; omega) (by omega) BES.size ?_; intro va wa owna gra hata; have bla : Below W3.heap.size W3 wa := BES.grown gra BES.size (fun j hj => by simp [Value.ownBlock] at hj; omega); have hb1 := bla.size; obtain ⟨r0, r1, _, _⟩ := two_cells (below_block bla S4))
                  | (refine step_append_seg (by rfl) (.tmp 54) (.tmp 56) 31 (by rfl) W3.heap.size 35 i0 (.agg #[.int .i64 0, .int .i64 0]) 2 16 Try.underlying31 hi hz0 hz1 hz2 rfl (by decide) (.slice (some ⟨W3.heap.size + 1, 0, none⟩) 0 0) 0 [] (by rfl) OSE a1 m1 c1 (scells ra) (by rfl) hnS (hgS.below BSE) hlS (scells_one ra) (by unfold maxLen; omega) (by omega) BSE.size ?_; intro va wa owna gra hata; have bla : Below W3.heap.size W3 wa := BSE.grown gra BSE.size (fun j hj => by simp [Value.ownBlock] at hj; omega); have hb1 := bla.size; obtain ⟨r0, r1, _, _⟩ := two_cells (below_block bla S4))
                  | (refine step_append_seg (by rfl) (.tmp 57) (.tmp 59) 31 (by rfl) W3.heap.size 35 i0 (.agg #[.int .i64 0, .int .i64 0]) 2 16 Try.underlying31 hi hz0 hz1 hz2 rfl (by decide) va (0 + m1) ([] ++ scells ra) (by rfl) (owna.alloc _) (some ⟨wa.heap.size, 0, none⟩) 1 1 (scells [(t, v)]) (by rfl) (fun h => by simp at h) (seg_new wa _ _) rfl (scells_one _) (by unfold maxLen; omega) (by omega) (by simp; omega) ?_; intro vb wb ownb grb hatb; have blb : Below W3.heap.size W3 wb := (bla.alloc hb1 _).grown grb (by simp; omega) (fun j hj => (owna.lt j hj).1); simp only [Nat.zero_add, List.nil_append] at ownb; obtain ⟨A, D, hvA, _, _⟩ := own_open ownb; subst hvA; obtain ⟨k0, k1, k2, k3, k4, k5, k6, k7, k8⟩ := sob_cells (below_block blb B4); obtain ⟨j0, j1, j2, j3, j4, j5, j6, j7, j8⟩ := sob_free (below_block blb B4))
                  | (refine step_append_seg (by rfl) (.tmp 57) (.tmp 59) 31 (by rfl) W3.heap.size 35 i0 (.agg #[.int .i64 0, .int .i64 0]) 2 16 Try.underlying31 hi hz0 hz1 hz2 rfl (by decide) va (0 + m1) ([] ++ scells ra) (by rfl) (owna) (some ⟨W3.heap.size + 1, 0, none⟩) 1 1 (scells [(t, v)]) (by rfl) (fun h => by simp at h) (seg_grown2 SB gra (fun b off h => by simp at h; simp [Value.ownBlock]; omega)) rfl (scells_one _) (by unfold maxLen; omega) (by omega) (hb1) ?_; intro vb wb ownb grb hatb; have blb : Below W3.heap.size W3 wb := bla.grown grb hb1 (fun j hj => (owna.lt j hj).1); simp only [Nat.zero_add, List.nil_append] at ownb; obtain ⟨A, D, hvA, _, _⟩ := own_open ownb; subst hvA; obtain ⟨k0, k1, k2, k3, k4, k5, k6, k7, k8⟩ := sob_cells (below_block blb B4); obtain ⟨j0, j1, j2, j3, j4, j5, j6, j7, j8⟩ := sob_free (below_block blb B4))
                  | (refine step_append_seg (by rfl) (.tmp 57) (.tmp 59) 31 (by rfl) W3.heap.size 35 i0 (.agg #[.int .i64 0, .int .i64 0]) 2 16 Try.underlying31 hi hz0 hz1 hz2 rfl (by decide) va (0 + m1) ([] ++ scells ra) (by rfl) (owna) (some ⟨W3.heap.size, 0, none⟩) 1 1 (scells [(t, v)]) (by rfl) (fun h => by simp at h) (seg_grown2 SC gra (fun b off h => by simp at h; simp [Value.ownBlock]; omega)) rfl (scells_one _) (by unfold maxLen; omega) (by omega) (hb1) ?_; intro vb wb ownb grb hatb; have blb : Below W3.heap.size W3 wb := bla.grown grb hb1 (fun j hj => (owna.lt j hj).1); simp only [Nat.zero_add, List.nil_append] at ownb; obtain ⟨A, D, hvA, _, _⟩ := own_open ownb; subst hvA; obtain ⟨k0, k1, k2, k3, k4, k5, k6, k7, k8⟩ := sob_cells (below_block blb B4); obtain ⟨j0, j1, j2, j3, j4, j5, j6, j7, j8⟩ := sob_free (below_block blb B4)))
              all_goals
                go_wp2_with fail
                go_meet
                refine ⟨A, D, set_block (below_block blb B4) _, ?_, ?_, (bel4.trans (blb.mono bel4.size)).setCell (by have := HX.out; omega) _⟩
                · rw [setCell_far (by omega)]; exact below_block blb R4
                · rw [scells_append]; exact ownsRow_setCell_below ownb (show X < W3.heap.size by omega) _
            case rest =>
            obtain ⟨A, D, B5, R5, own5, bel5⟩ := hcut
            clear B4 S4 R4 b0 b1 b2 b3 b4 b5 b6 b7 b8 s0 s1 hi hz0 hz1 hz2 BE0 BES0 BS0 BSE0 BE BES BSE OE OES OSE hgS hnS hlS
            obtain ⟨b0, b1, b2, b3, b4, b5, b6, b7, b8⟩ := sob_cells B5
            obtain ⟨q0, q1, q2, q3, q4, q5, q6, q7, q8⟩ := sob_cells R5
            obtain ⟨f0, f1, f2, f3, f4, f5, f6, f7, f8⟩ := sob_free R5
            go_wp2
            refine bodyPost_ret (v := .tuple #[.agg #[.slice a0 m0 c0, .slice A (m1 + 1) D, .slice a2 m2 c2, .slice a3 m3 c3, .int .i64 rf, .int .i64 ff, .int .i64 ft, .int .i64 cf, .int .i64 ct], .int .i64 0]) (by simp [results, Try.results17, go_sem, q0, q1, q2, q3, q4, q5, q6, q7, q8]) rfl ?_
            have bel6 := below_set9 bel5 (B := X + 2) (by omega) (.slice a0 m0 c0) (.slice A (m1 + 1) D) (.slice a2 m2 c2) (.slice a3 m3 c3) (.int .i64 rf) (.int .i64 ff) (.int .i64 ft) (.int .i64 cf) (.int .i64 ct)
            have own6 := own_set9 own5 (B := X + 2) (by omega) (.slice a0 m0 c0) (.slice A (m1 + 1) D) (.slice a2 m2 c2) (.slice a3 m3 c3) (.int .i64 rf) (.int .i64 ff) (.int .i64 ft) (.int .i64 cf) (.int .i64 ct)
            have hin := HXX.out.below bel6
            have hlr : (ra ++ [(t, v)]).length = m1 + 1 := by rw [List.length_append, HM.out.2.1]; rfl
            have hb := HYb.out
            have ha := HYa.out
            have hm := HM.out
            obtain ⟨ys, ya0, yc0, ya1, yc1, ya2, yc2, ya3, yc3⟩ := y
            simp only at hb ha
            subst hb
            obtain ⟨rfl, rfl, rfl, rfl, rfl, rfl, rfl, rfl⟩ := ha
            obtain ⟨rfl, hm1', rfl, rfl⟩ := hm
            refine ⟨⟨⟨se, ra ++ [(t, v)], fi, co, rf, ff, ft, cf, ct⟩, ya0, yc0, A, D, ya2, yc2, ya3, yc3⟩, ?_, ?_, ⟨hin.g0, own_seg' own6, hin.g2, hin.g3, hin.fits, hin.n0, ?_, hin.n2, hin.n3, hin.z0, ?_, hin.z2, hin.z3⟩, ⟨.inl ⟨rfl, rfl⟩, .inr (own_fr own6 (by have := bel5.size; have := bel4.size; omega)), .inl ⟨rfl, rfl⟩, .inl ⟨rfl, rfl⟩⟩, bel6⟩
            · rw [HP3.out]
              simp only [ShT.v, hlr]
            · rw [HP3.out]
            · show (ra ++ [(t, v)]).length * 16 ≤ _; rw [hlr]; omega
            · show A = none → (ra ++ [(t, v)]).length = 0 ∧ D = 0
              rw [hlr]; exact own_nil own6
        · have HP3 : Hid (r = (Grain.szero, 9)) := by show _ = _; rw [HP2.out, if_pos hl]
          clear HP2 hl
          go_wp2
          exact bodyPost_ret (v := .tuple #[.agg #[.slice none 0 0, .slice none 0 0, .slice none 0 0, .slice none 0 0, .int .i64 0, .int .i64 0, .int .i64 0, .int .i64 0, .int .i64 0], .int .i64 9]) (by simp [results, Try.results17, go_sem, q0, q1, q2, q3, q4, q5, q6, q7, q8]) rfl (rpost_no HP3.out (below_set9 bel4 (by omega) _ _ _ _ _ _ _ _ _))
  · have n := ne_beq z
    have HP1 : Hid (r = (Grain.szero, E)) := by show _ = _; rw [HP.out, if_pos z]
    clear HP z
    go_wp2
    exact bodyPost_ret (v := .tuple #[.agg #[.slice none 0 0, .slice none 0 0, .slice none 0 0, .slice none 0 0, .int .i64 0, .int .i64 0, .int .i64 0, .int .i64 0, .int .i64 0], .int .i64 E]) (by simp [results, Try.results17, go_sem, q0, q1, q2, q3, q4, q5, q6, q7, q8]) rfl (rpost_no HP1.out (below_set9 bel1 (by omega) _ _ _ _ _ _ _ _ _))

end Go.Proofs.Ytfgablhgjbjbkae
