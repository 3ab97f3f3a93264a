import Derived.Orders
import Derived.Test.YtoldmigappbjcaaGreatDoorL17
import Derived.Test.YtoldmigappbjcaaGreatDoorL18
import Derived.Test.YtoldmigappbjcaaGreatDoorL19
import Derived.Test.YtoldmigappbjcaaGreatDoorL26
namespace Go.Proofs.YtoldmigappbjcaaGreatDoor
open Go.RowKit Go.GrainU
theorem kof_more {w wr : World} {s : Grain.Sm} (I : OfInv w wr s) (o : Obj) : OfInv w (wr.alloc o) s := by
 have h2 := lt_of_block I.cur
 have h1 := lt_of_block I.res
 refine ⟨?_, ?_, I.bel.alloc (by omega) _⟩
 ·show (wr.alloc _).heap[_]? = _
  rw [Below.heap_alloc _ _ _ h1]; exact I.res
 ·show (wr.alloc _).heap[_]? = _
  rw [Below.heap_alloc _ _ _ h2]; exact I.cur
set_option maxHeartbeats 2000000 in
theorem kof_any (B : List Grain.Bk) (ao : Option Addr) (n cap : Nat) (f t : Int) (w : World) (hs : Seg w ao (kcells B)) (hn : n = B.length) (hL : n ≤ 1000000) :
  Calls Tryz.prog 237 #[.slice ao n cap, .int .i64 f, .int .i64 t] w fun e w' => ∃ J : Grain.Sm, Hid (J = Grain.inB B f t) ∧ e = .returned (.agg #[.int .i64 J.c, .int .i64 J.t, .int .i64 J.mn, .int .i64 J.mx, .int .i64 J.f, .int .i64 J.l, .int .i64 J.r]) ∧ Below w.heap.size w w' := by
 have HN := hide hn
 clear hn
 go_enter Tryz.func237, Tryz.ntmps237
 go_wp2
 go_loopw [12] (fun i wr => ∃ (k : Nat) (s : Grain.Sm), k ≤ n ∧ i = .int .i64 k ∧ Hid (s = Grain.inB (B.take k) f t) ∧ OfInv w wr s) (fun i _ => n - (intOf i).toNat)
 case atStart => exact ⟨0, _, Nat.zero_le _, rfl, rfl, OfInv.start w⟩
 case round =>
  obtain ⟨k, s, hk, rfl, HS, I⟩ := hrel
  by_cases hlt : k < n
  ·have hkl : k < B.length := by rw [← HN.out]; exact hlt
   obtain ⟨b, off, rfl, hb, hcell⟩ := seg_bucket hs hkl
   obtain ⟨K, hK⟩ : ∃ K, K = Grain.bk B k := ⟨_, rfl⟩
   have q := (hcell k hkl).below I.bel hb
   rw [← hK] at q
   obtain ⟨c0, c1, c2, c3, c4, c5, c6, c7⟩ := q
   have HT : Hid (Grain.inB (B.take (k + 1)) f t = if f ≤ K.a ∧ K.a < t then Grain.join s K.s else s) := by
    show _ = _
    rw [Grain.inB_take f t hkl, ← hK, ← HS.out]
   have I1 := kof_more I (ko K)
   have hw1 : w.heap.size + 1 < wr.heap.size := lt_of_block I.cur
   obtain ⟨s0, s1, s2, s3, s4, s5, s6⟩ := I.cur.cells
   clear hcell hK hkl HS I
   by_cases h1 : f ≤ K.a
   ·by_cases h2 : K.a < t
    ·go_wp2_with fail
     refine (join_let s K.s _).mono ?_
     rintro e w2 ⟨J, HJ, rfl, hb2⟩
     have I3 := I1.call hb2
     obtain ⟨q0, q1, q2, q3, q4, q5, q6⟩ := I3.cur.cells
     obtain ⟨r0, r1, r2, r3, r4, r5, r6⟩ := seven_thaw I3.cur
     have I4 := I3.store J
     have HK : Hid (J = Grain.inB (B.take (k + 1)) f t) := by
      show J = _
      rw [HT.out, if_pos ⟨h1, h2⟩]; exact HJ.out
     clear HJ HT I1 I3 hb2 s0 s1 s2 s3 s4 s5 s6 c0 c1 c2 c3 c4 c5 c6 c7 h1 h2 hw1
     go_wp2
     go_roundw
     case rel => exact ⟨k + 1, J, by omega, by go_num, HK, I4⟩
     case measure => simp [intOf]; omega
    ·have HK : Hid (s = Grain.inB (B.take (k + 1)) f t) := by
      show s = _
      rw [HT.out, if_neg (by omega)]
     clear HT s0 s1 s2 s3 s4 s5 s6
     go_wp2
     go_roundw
     case rel => exact ⟨k + 1, s, by omega, by go_num, HK, I1⟩
     case measure => simp [intOf]; omega
   ·have HK : Hid (s = Grain.inB (B.take (k + 1)) f t) := by
     show s = _
     rw [HT.out, if_neg (by omega)]
    clear HT s0 s1 s2 s3 s4 s5 s6
    go_wp2
    go_roundw
    case rel => exact ⟨k + 1, s, by omega, by go_num, HK, I1⟩
    case measure => simp [intOf]; omega
  ·have he : k = n := by omega
   subst he
   have HT := hide (List.take_of_length_le (i := k) (l := B) (by rw [← HN.out]; omega))
   have HJ : Hid (s = Grain.inB B f t) := by
    show s = _
    rw [HS.out, HT.out]
   obtain ⟨s0, s1, s2, s3, s4, s5, s6⟩ := I.cur.cells
   obtain ⟨z0, z1, z2, z3, z4, z5, z6⟩ := seven_cells I.res
   obtain ⟨r0, r1, r2, r3, r4, r5, r6⟩ := seven_thaw I.res
   clear HT HN HS
   go_wp2
   exact bodyPost_ret (v := sv s) (by simp [results, Tryz.results237, go_sem, sv, z0, z1, z2, z3, z4, z5, z6]) rfl ⟨s, HJ, rfl, below_set7 I.bel (Nat.le_refl _) _ _ _ _ _ _ _⟩
end Go.Proofs.YtoldmigappbjcaaGreatDoor
namespace Go.GrainU
structure ShCap (x : ShT) : Prop where
 k1 : x.s.ra.length ≤ x.c1
 k2 : x.s.fi.length ≤ x.c2
 k3 : x.s.co.length ≤ x.c3
end Go.GrainU
namespace Grain
theorem inB_filter (f t : Int) : ∀ (B : List Bk) (s : Sm), (winB B f t).foldl (fun acc b => if f ≤ b.a ∧ b.a < t then join acc b.s else acc) s = B.foldl (fun acc b => if f ≤ b.a ∧ b.a < t then join acc b.s else acc) s := by
 intro B
 induction B with
 | nil => intro s; rfl
 | cons b r ih =>
  intro s
  by_cases h : f ≤ b.a ∧ b.a < t
  ·unfold winB at ih ⊢
   rw [List.filter_cons_of_pos (by simpa using h), List.foldl_cons, List.foldl_cons, ih]
  ·unfold winB at ih ⊢
   rw [List.filter_cons_of_neg (by simpa using h), List.foldl_cons, if_neg h, ih]
theorem inB_winB (B : List Bk) (f t : Int) : inB (winB B f t) f t = inB B f t := inB_filter f t B zero
end Grain
namespace Go.Proofs.YtoldmigappbjcaaGreatDoor
open Go.RowKit Go.GrainU
set_option maxRecDepth 20000 in
set_option maxHeartbeats 2000000 in
theorem rbk_any (l : List Grain.Bk) (ao : Option Addr) (n c : Nat) (p : Grain.Pt) (w : World) (hs : Seg w ao (kcells l)) (hn : n = l.length) (hc : n ≤ c) (hL : n ≤ 1000000) (hpw : l.Pairwise (fun x y => x.a < y.a)) (hft : p.f ≤ p.t) :
  Calls Tryz.prog 212 #[.slice ao n c, .agg #[.int .i64 p.k, .int .i64 p.f, .int .i64 p.t]] w fun e w' => ∃ (J : Grain.Sm) (m : Nat), e = .returned (.tuple #[.agg #[.int .i64 J.c, .int .i64 J.t, .int .i64 J.mn, .int .i64 J.mx, .int .i64 J.f, .int .i64 J.l, .int .i64 J.r], .int .i64 m]) ∧ Hid (J = Grain.inB l p.f p.t) ∧ Hid (m = (Grain.winB l p.f p.t).length) ∧ Below w.heap.size w w' := by
 obtain ⟨X, hX⟩ : ∃ X, X = w.heap.size := ⟨_, rfl⟩
 obtain ⟨V, hV⟩ : ∃ V, V = (w.alloc (.cells #[.int .i64 p.k, .int .i64 p.f, .int .i64 p.t] 235)).alloc (.cells #[.int .i64 0, .int .i64 0, .int .i64 0, .int .i64 0, .int .i64 0, .int .i64 0, .int .i64 0] 76) := ⟨_, rfl⟩
 have bel : Below w.heap.size w V := by rw [hV]; exact ((Below.refl _ _).alloc (Nat.le_refl _) _).alloc (by simp) _
 have P0 : V.heap[X]? = some (.cells #[.int .i64 p.k, .int .i64 p.f, .int .i64 p.t] 235 (0, 0)) := by
  rw [hV, hX, Below.heap_alloc _ _ _ (by simp)]; exact heap_alloc_new w _
 have Z0 : SumAt V (X + 1) Grain.zero := by
  show V.heap[X + 1]? = _
  rw [hV, hX]; have := heap_alloc_new (w.alloc (.cells #[.int .i64 p.k, .int .i64 p.f, .int .i64 p.t] 235)) (.cells #[.int .i64 0, .int .i64 0, .int .i64 0, .int .i64 0, .int .i64 0, .int .i64 0, .int .i64 0] 76); rwa [World.size_alloc] at this
 have hsV := hs.below bel
 have hXV : X + 1 < V.heap.size := lt_of_block Z0
 have HV := hide hV
 have HX := hide hX
 have HPW := hide hpw
 have HFT := hide hft
 have HN := hide hn
 clear hV hX hs hpw hft hn
 go_enter Tryz.func212, Tryz.ntmps212
 go_wp2_with fail
 rw [← HV.out, ← HX.out]
 refine (kwithin_any l ao n c p V hsV HN.out hc hL HPW.out HFT.out).mono ?_
 rintro e w1 ⟨bo, m, d, rfl, seg1, HM, hb1⟩
 have hm : m ≤ 1000000 := by
  have : (Grain.winB l p.f p.t).length ≤ l.length := List.length_filter_le _ _
  have := HM.out
  have := HN.out
  omega
 have P1 := below_block hb1 P0
 have Z1 := Z0.below hb1
 have seg2 := seg1.below hb1
 have bel1 : Below w.heap.size w w1 := below_pl hb1 bel
 obtain ⟨p0, p1, p2⟩ := three3 P1
 clear hb1 seg1 Z0 P0 hsV
 go_wp2_with fail
 refine (kof_any (Grain.winB l p.f p.t) bo m d p.f p.t w1 seg2 HM.out hm).mono ?_
 rintro e w2 ⟨J, HJ, rfl, hb2⟩
 have Z2 := Z1.below hb2
 have bel2 : Below w.heap.size w w2 := below_pl hb2 bel1
 obtain ⟨z0, z1, z2, z3, z4, z5, z6⟩ := Z2.cells
 obtain ⟨y0, y1, y2, y3, y4, y5, y6⟩ := seven_thaw Z2
 go_wp2
 exact bodyPost_ret (v := .tuple #[.agg #[.int .i64 J.c, .int .i64 J.t, .int .i64 J.mn, .int .i64 J.mx, .int .i64 J.f, .int .i64 J.l, .int .i64 J.r], .int .i64 m]) (by simp [results, Tryz.results212, go_sem, z0, z1, z2, z3, z4, z5, z6]) rfl ⟨J, m, rfl, by rw [HJ.out, Grain.inB_winB]; exact (rfl : Hid _), HM, below_set7 bel2 (by have := HX.out; omega) _ _ _ _ _ _ _⟩
set_option maxRecDepth 20000 in
set_option maxHeartbeats 2000000 in
theorem rpart_any (x : ShT) (p : Grain.Pt) (w : World) (hx : ShIn w x) (hcap : ShCap x) (h1 : x.s.ra.length ≤ 500) (h2 : x.s.fi.length ≤ 500) (h3 : x.s.co.length ≤ 500) (q1 : x.s.ra.Pairwise (fun a b => a.1 < b.1)) (q2 : x.s.fi.Pairwise (fun a b => a.a < b.a)) (q3 : x.s.co.Pairwise (fun a b => a.a < b.a)) (hft : p.f ≤ p.t) :
  Calls Tryz.prog 183 #[.agg #[.slice x.a0 x.s.se.length x.c0, .slice x.a1 x.s.ra.length x.c1, .slice x.a2 x.s.fi.length x.c2, .slice x.a3 x.s.co.length x.c3, .int .i64 x.s.rf, .int .i64 x.s.ff, .int .i64 x.s.ft, .int .i64 x.s.cf, .int .i64 x.s.ct], .agg #[.int .i64 p.k, .int .i64 p.f, .int .i64 p.t]] w fun e w' => ∃ (J : Grain.Sm) (m : Nat), e = .returned (.tuple #[.agg #[.int .i64 J.c, .int .i64 J.t, .int .i64 J.mn, .int .i64 J.mx, .int .i64 J.f, .int .i64 J.l, .int .i64 J.r], .int .i64 m]) ∧ Hid (J = Grain.psum x.s p) ∧ Hid (m = Grain.pcost x.s p) ∧ Below w.heap.size w w' := by
 obtain ⟨k, f, t⟩ := p
 obtain ⟨X, hX⟩ : ∃ X, X = w.heap.size := ⟨_, rfl⟩
 obtain ⟨V, hV⟩ : ∃ V, V = ((w.alloc (.cells #[.slice x.a0 x.s.se.length x.c0, .slice x.a1 x.s.ra.length x.c1, .slice x.a2 x.s.fi.length x.c2, .slice x.a3 x.s.co.length x.c3, .int .i64 x.s.rf, .int .i64 x.s.ff, .int .i64 x.s.ft, .int .i64 x.s.cf, .int .i64 x.s.ct] 59)).alloc (.cells #[.int .i64 k, .int .i64 f, .int .i64 t] 235)).alloc (.cells #[.int .i64 0, .int .i64 0, .int .i64 0, .int .i64 0, .int .i64 0, .int .i64 0, .int .i64 0] 76) := ⟨_, rfl⟩
 have bel : Below w.heap.size w V := by rw [hV]; exact (((Below.refl _ _).alloc (Nat.le_refl _) _).alloc (by simp) _).alloc (by simp; omega) _
 have Z0 : SumAt V (X + 2) Grain.zero := by
  show V.heap[X + 2]? = _
  rw [hV, hX]; have := heap_alloc_new ((w.alloc (.cells #[.slice x.a0 x.s.se.length x.c0, .slice x.a1 x.s.ra.length x.c1, .slice x.a2 x.s.fi.length x.c2, .slice x.a3 x.s.co.length x.c3, .int .i64 x.s.rf, .int .i64 x.s.ff, .int .i64 x.s.ft, .int .i64 x.s.cf, .int .i64 x.s.ct] 59)).alloc (.cells #[.int .i64 k, .int .i64 f, .int .i64 t] 235)) (.cells #[.int .i64 0, .int .i64 0, .int .i64 0, .int .i64 0, .int .i64 0, .int .i64 0, .int .i64 0] 76); rwa [World.size_alloc, World.size_alloc] at this
 have hxV := hx.below bel
 have HV := hide hV
 have HX := hide hX
 have HP1 := hide q1
 have HP2 := hide q2
 have HP3 := hide q3
 have HL1 : Hid (x.s.ra.length ≤ 1000000) := by show _ ≤ _; omega
 have HL2 : Hid (x.s.fi.length ≤ 1000000) := by show _ ≤ _; omega
 have HL3 : Hid (x.s.co.length ≤ 1000000) := by show _ ≤ _; omega
 have HFT := hide hft
 simp only [Grain.psum, Grain.pcost]
 clear hV hX q1 q2 q3 hft hx h1 h2 h3
 by_cases k1 : k = 1
 ·subst k1
  go_enter Tryz.func183, Tryz.ntmps183
  go_wp2_with fail
  rw [← HV.out, ← HX.out]
  refine (rbk_any x.s.fi x.a2 _ x.c2 ⟨1, f, t⟩ V hxV.g2 rfl hcap.k2 HL2.out HP2.out HFT.out).mono ?_
  rintro e w1 ⟨J, m, rfl, HJ, HM, hb1⟩
  have Z1 := Z0.below hb1
  have bel1 : Below w.heap.size w w1 := below_pl hb1 bel
  obtain ⟨z0, z1, z2, z3, z4, z5, z6⟩ := Z1.cells
  obtain ⟨y0, y1, y2, y3, y4, y5, y6⟩ := seven_thaw Z1
  go_wp2
  exact bodyPost_ret (v := .tuple #[.agg #[.int .i64 J.c, .int .i64 J.t, .int .i64 J.mn, .int .i64 J.mx, .int .i64 J.f, .int .i64 J.l, .int .i64 J.r], .int .i64 m]) (by simp [results, Tryz.results183, go_sem, z0, z1, z2, z3, z4, z5, z6]) rfl ⟨J, m, rfl, HJ, HM, below_set7 bel1 (by have := HX.out; omega) _ _ _ _ _ _ _⟩
 ·by_cases k2 : k = 2
  ·subst k2
   go_enter Tryz.func183, Tryz.ntmps183
   go_wp2_with fail
   rw [← HV.out, ← HX.out]
   refine (rbk_any x.s.co x.a3 _ x.c3 ⟨2, f, t⟩ V hxV.g3 rfl hcap.k3 HL3.out HP3.out HFT.out).mono ?_
   rintro e w1 ⟨J, m, rfl, HJ, HM, hb1⟩
   have Z1 := Z0.below hb1
   have bel1 : Below w.heap.size w w1 := below_pl hb1 bel
   obtain ⟨z0, z1, z2, z3, z4, z5, z6⟩ := Z1.cells
   obtain ⟨y0, y1, y2, y3, y4, y5, y6⟩ := seven_thaw Z1
   go_wp2
   exact bodyPost_ret (v := .tuple #[.agg #[.int .i64 J.c, .int .i64 J.t, .int .i64 J.mn, .int .i64 J.mx, .int .i64 J.f, .int .i64 J.l, .int .i64 J.r], .int .i64 m]) (by simp [results, Tryz.results183, go_sem, z0, z1, z2, z3, z4, z5, z6]) rfl ⟨J, m, rfl, HJ, HM, below_set7 bel1 (by have := HX.out; omega) _ _ _ _ _ _ _⟩
  ·have e1 : (k == 1) = false := by simpa using k1
   have e2 : (k == 2) = false := by simpa using k2
   simp only [k1, k2, if_false]
   go_enter Tryz.func183, Tryz.ntmps183
   go_wp2_with fail
   rw [← HV.out, ← HX.out]
   refine (within_any x.s.ra x.a1 _ x.c1 ⟨k, f, t⟩ V hxV.g1 rfl hcap.k1 HL1.out HP1.out HFT.out).mono ?_
   rintro e w1 ⟨bo, m, d, rfl, seg1, HM, hb1⟩
   have hm : m ≤ 1152921504606846975 := by
    have : (Grain.win x.s.ra f t).length ≤ x.s.ra.length := List.length_filter_le _ _
    have h1 : m = (Grain.win x.s.ra f t).length := HM.out
    have := HL1.out
    omega
   have Z1 := Z0.below hb1
   have seg2 := seg1.below hb1
   have bel1 : Below w.heap.size w w1 := below_pl hb1 bel
   clear hb1 seg1 Z0
   go_wp2_with fail
   refine (of_len _ bo m d w1 seg2 HM.out hm).mono ?_
   rintro e w2 ⟨J, HJ, rfl, hb2⟩
   have Z2 := Z1.below hb2
   have bel2 : Below w.heap.size w w2 := below_pl hb2 bel1
   obtain ⟨z0, z1, z2, z3, z4, z5, z6⟩ := Z2.cells
   obtain ⟨y0, y1, y2, y3, y4, y5, y6⟩ := seven_thaw Z2
   go_wp2
   exact bodyPost_ret (v := .tuple #[.agg #[.int .i64 J.c, .int .i64 J.t, .int .i64 J.mn, .int .i64 J.mx, .int .i64 J.f, .int .i64 J.l, .int .i64 J.r], .int .i64 m]) (by simp [results, Tryz.results183, go_sem, z0, z1, z2, z3, z4, z5, z6]) rfl ⟨J, m, rfl, HJ, HM, below_set7 bel2 (by have := HX.out; omega) _ _ _ _ _ _ _⟩
end Go.Proofs.YtoldmigappbjcaaGreatDoor
namespace Go.GrainU
def skipAct : List (Nat × Nat) → Act → Act
 | [], a => a
 | i :: r, a => skipAct r (a.put (some i.2) undef)
def skipSet : List (Nat × Nat) → Array Bool → Array Bool
 | [], l => l
 | i :: r, l => skipSet r (l.setIfInBounds i.1 true)
def skipOk (md : Region.Mode) (ops : Array Oper) : List (Nat × Nat) → Array Bool → Act → Bool
 | [], _, _ => true
 | i :: r, l, a => match ops[i.1]? with
  | some o => decide (o.dst = some i.2) && (Region.free md ops l i.1 && ((Region.ready md ops l).contains i.1 && (!(Region.wanted o (yielded ops a.tmps)) && skipOk md ops r (l.setIfInBounds i.1 true) (a.put (some i.2) undef))))
  | none => false
theorem wpAny_skips {P : Program} {ops : Array Oper} {Q : Exit → Act → World → Prop} {md : Region.Mode} (hs : Region.noSelect ops = true) (hQ : ∀ c a w (d : Nat), Q (.panic c) (a.put (some d) undef) w → Q (.panic c) a w) :
  ∀ (is : List (Nat × Nat)) (fuel fuel' : Nat) (listed : Array Bool) (a : Act) (w : World), fuel' = fuel + is.length → skipOk md ops is listed a = true → wpAny P md ops Q fuel (skipSet is listed) (skipAct is a) w → wpAny P md ops Q fuel' listed a w := by
 intro is
 induction is with
 | nil => intro fuel fuel' listed a w hf _ h; obtain rfl : fuel' = fuel := hf; exact h
 | cons i r ih =>
  intro fuel fuel' listed a w hf hok h
  unfold skipOk at hok
  cases ho : ops[i.1]? with
  | none => rw [ho] at hok; cases hok
  | some o =>
   rw [ho] at hok
   simp only [Bool.and_eq_true, Bool.not_eq_true', decide_eq_true_eq] at hok
   obtain ⟨h0, h1, h2, h3, h4⟩ := hok
   obtain rfl : fuel' = (fuel + r.length) + 1 := by rw [hf]; simp; omega
   refine wpAny_take (i := i.1) (v := undef) ho hs h1 h2 (fun c a w hh => hQ c a w i.2 (by rw [← h0]; exact hh)) (Or.inr ⟨h3, rfl⟩) (ih fuel _ _ _ w rfl (by rw [h0]; exact h4) ?_)
   rw [h0]
   exact h
end Go.GrainU
