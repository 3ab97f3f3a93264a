import Derived.Deep.CutRange
import Derived.Test.YtoldmigappbjcaaGreatDoorL38
import Derived.Test.YtoldmigappbjcaaGreatDoorL41
namespace Go.Proofs.YtoldmigappbjcaaGreatDoor
open Go.RowKit Go.GrainU
set_option maxRecDepth 20000 in
set_option maxHeartbeats 2000000 in
theorem broll1_any (x : ShT) (tt : Int) (C : Nat) (w : World) (hx : ShIn w x) (hC : w.cell? ⟨C, 0, none⟩ = some (.int .i64 tt)) :
  Calls Tryz.prog 97 #[x.v, .pointer (some ⟨C, 0, none⟩)] w (ShPost w (Grain.sroll x.s tt)) := by
 obtain ⟨V, hV⟩ : ∃ V, V = (w.alloc (.cells #[.slice x.a0 x.s.se.length x.c0, .slice x.a1 x.s.ra.length x.c1, .slice x.a2 x.s.fi.length x.c2, .slice x.a3 x.s.co.length x.c3, .int .i64 x.s.rf, .int .i64 x.s.ff, .int .i64 x.s.ft, .int .i64 x.s.cf, .int .i64 x.s.ct] 59)).alloc (.cells #[.slice none 0 0, .slice none 0 0, .slice none 0 0, .slice none 0 0, .int .i64 0, .int .i64 0, .int .i64 0, .int .i64 0, .int .i64 0] 59) := ⟨_, rfl⟩
 have bel : Below w.heap.size w V := by rw [hV]; exact ((Below.refl _ _).alloc (Nat.le_refl _) _).alloc (by simp) _
 have R0 : V.heap[w.heap.size + 1]? = some (so szT) := by
  have := heap_alloc_new (w.alloc (.cells #[.slice x.a0 x.s.se.length x.c0, .slice x.a1 x.s.ra.length x.c1, .slice x.a2 x.s.fi.length x.c2, .slice x.a3 x.s.co.length x.c3, .int .i64 x.s.rf, .int .i64 x.s.ff, .int .i64 x.s.ft, .int .i64 x.s.cf, .int .i64 x.s.ct] 59)) (so szT)
  rw [hV]; simpa [so, szT, Grain.szero] using this
 have hl : C < w.heap.size := World.block_lt_of_cell? w _ hC
 have P := hide (sroll_any x tt V (hx.below bel))
 obtain ⟨R, hR⟩ : ∃ R, R = Grain.sroll x.s tt := ⟨_, rfl⟩
 rw [← hR] at P ⊢
 have HV := hide hV
 unfold ShT.v at P ⊢
 clear hV hR hx
 go_enter Tryz.func97, Tryz.ntmps97
 go_wp2_with fail
 rw [← HV.out]
 refine P.out.mono ?_
 rintro e w1 ⟨y, rfl, hy, oy, b1⟩
 have R1 := below_block b1 R0
 have bel1 : Below w.heap.size w w1 := bel.trans (b1.mono bel.size)
 obtain ⟨r0, r1, r2, r3, r4, r5, r6, r7, r8⟩ := nine_cells R1
 obtain ⟨f0, f1, f2, f3, f4, f5, f6, f7, f8⟩ := so_thaw R1
 have HY := hide hy
 have hs0 : w.heap.size + 1 < V.heap.size := lt_of_block R0
 clear P hy R0 b1
 unfold ShT.v
 go_wp2
 refine bodyPost_ret (v := .tuple #[y.v, .int .i64 R.2]) (by simp [results, Tryz.results97, go_sem, r0, r1, r2, r3, r4, r5, r6, r7, r8, ShT.v]) rfl ⟨y, rfl, HY.out, ?_, below_set9 bel1 (by omega) _ _ _ _ _ _ _ _ _⟩
 have oz : ShO w.heap.size w1 y := oy.lower bel.size
 have og : w1.grownBy (Set9 w1 (w.heap.size + 1) (.slice y.a0 y.s.se.length y.c0) (.slice y.a1 y.s.ra.length y.c1) (.slice y.a2 y.s.fi.length y.c2) (.slice y.a3 y.s.co.length y.c3) (.int .i64 y.s.rf) (.int .i64 y.s.ff) (.int .i64 y.s.ft) (.int .i64 y.s.cf) (.int .i64 y.s.ct)) (some (w.heap.size + 1)) := by
  have := put9_grown w1 (w.heap.size + 1) 0 y
  simpa [Put9, Set9] using this
 exact oz.keep og (fun k e => by injection e with e; subst e; exact ⟨_, _, _, R1, by decide, by decide, by decide⟩)
set_option maxRecDepth 20000 in
set_option maxHeartbeats 2000000 in
theorem bforg1_any (x : ShT) (tier tt : Int) (C1 C2 : Nat) (w : World) (hx : ShIn w x) (hC1 : w.cell? ⟨C1, 0, none⟩ = some (.int .i64 tier)) (hC2 : w.cell? ⟨C2, 0, none⟩ = some (.int .i64 tt)) :
  Calls Tryz.prog 99 #[x.v, .pointer (some ⟨C1, 0, none⟩), .pointer (some ⟨C2, 0, none⟩)] w (ShPost w (Grain.sforg x.s tier tt)) := by
 obtain ⟨V, hV⟩ : ∃ V, V = (w.alloc (.cells #[.slice x.a0 x.s.se.length x.c0, .slice x.a1 x.s.ra.length x.c1, .slice x.a2 x.s.fi.length x.c2, .slice x.a3 x.s.co.length x.c3, .int .i64 x.s.rf, .int .i64 x.s.ff, .int .i64 x.s.ft, .int .i64 x.s.cf, .int .i64 x.s.ct] 59)).alloc (.cells #[.slice none 0 0, .slice none 0 0, .slice none 0 0, .slice none 0 0, .int .i64 0, .int .i64 0, .int .i64 0, .int .i64 0, .int .i64 0] 59) := ⟨_, rfl⟩
 have bel : Below w.heap.size w V := by rw [hV]; exact ((Below.refl _ _).alloc (Nat.le_refl _) _).alloc (by simp) _
 have R0 : V.heap[w.heap.size + 1]? = some (so szT) := by
  have := heap_alloc_new (w.alloc (.cells #[.slice x.a0 x.s.se.length x.c0, .slice x.a1 x.s.ra.length x.c1, .slice x.a2 x.s.fi.length x.c2, .slice x.a3 x.s.co.length x.c3, .int .i64 x.s.rf, .int .i64 x.s.ff, .int .i64 x.s.ft, .int .i64 x.s.cf, .int .i64 x.s.ct] 59)) (so szT)
  rw [hV]; simpa [so, szT, Grain.szero] using this
 have hl1 : C1 < w.heap.size := World.block_lt_of_cell? w _ hC1
 have hl2 : C2 < w.heap.size := World.block_lt_of_cell? w _ hC2
 have P := hide (sforg_any x tier tt V (hx.below bel))
 obtain ⟨R, hR⟩ : ∃ R, R = Grain.sforg x.s tier tt := ⟨_, rfl⟩
 rw [← hR] at P ⊢
 have HV := hide hV
 unfold ShT.v at P ⊢
 clear hV hR hx
 go_enter Tryz.func99, Tryz.ntmps99
 go_wp2_with fail
 rw [← HV.out]
 refine P.out.mono ?_
 rintro e w1 ⟨y, rfl, hy, oy, b1⟩
 have R1 := below_block b1 R0
 have bel1 : Below w.heap.size w w1 := bel.trans (b1.mono bel.size)
 obtain ⟨r0, r1, r2, r3, r4, r5, r6, r7, r8⟩ := nine_cells R1
 obtain ⟨f0, f1, f2, f3, f4, f5, f6, f7, f8⟩ := so_thaw R1
 have HY := hide hy
 have hs0 : w.heap.size + 1 < V.heap.size := lt_of_block R0
 clear P hy R0 b1
 unfold ShT.v
 go_wp2
 refine bodyPost_ret (v := .tuple #[y.v, .int .i64 R.2]) (by simp [results, Tryz.results99, go_sem, r0, r1, r2, r3, r4, r5, r6, r7, r8, ShT.v]) rfl ⟨y, rfl, HY.out, ?_, below_set9 bel1 (by omega) _ _ _ _ _ _ _ _ _⟩
 have oz : ShO w.heap.size w1 y := oy.lower bel.size
 have og : w1.grownBy (Set9 w1 (w.heap.size + 1) (.slice y.a0 y.s.se.length y.c0) (.slice y.a1 y.s.ra.length y.c1) (.slice y.a2 y.s.fi.length y.c2) (.slice y.a3 y.s.co.length y.c3) (.int .i64 y.s.rf) (.int .i64 y.s.ff) (.int .i64 y.s.ft) (.int .i64 y.s.cf) (.int .i64 y.s.ct)) (some (w.heap.size + 1)) := by
  have := put9_grown w1 (w.heap.size + 1) 0 y
  simpa [Put9, Set9] using this
 exact oz.keep og (fun k e => by injection e with e; subst e; exact ⟨_, _, _, R1, by decide, by decide, by decide⟩)
theorem istime_any (t : Int) (w : World) : Calls Tryz.prog 95 #[.int .i64 t] w fun e w' => e = .returned (.bool (decide (0 ≤ t ∧ t ≤ 1000000))) ∧ w' = w := by
 by_cases h0 : 0 ≤ t
 ·by_cases h1 : t ≤ 1000000
  ·have e : decide (0 ≤ t ∧ t ≤ 1000000) = true := by simp [h0, h1]
   rw [e]; clear e
   go_enter Tryz.func95, Tryz.ntmps95
   go_wp2
   go_ret
   exact ⟨rfl, rfl⟩
  ·have e : decide (0 ≤ t ∧ t ≤ 1000000) = false := by simp [h1]
   rw [e]; clear e
   go_enter Tryz.func95, Tryz.ntmps95
   go_wp2
   go_ret
   exact ⟨rfl, rfl⟩
 ·have e : decide (0 ≤ t ∧ t ≤ 1000000) = false := by simp [h0]
  rw [e]; clear e
  go_enter Tryz.func95, Tryz.ntmps95
  go_wp2
  go_ret
  exact ⟨rfl, rfl⟩
def DPost (r : Bs × Int) (lo B : Nat) (w : World) (e : Ending) (w' : World) : Prop :=
 ∃ (ao : Option Addr) (n cap : Nat) (l : List ShT), e = .returned (.int .i64 r.2) ∧ BIn w' lo B ao n cap r.1.hz l ∧ Lies l r.1.l ∧ Fr lo w w'
theorem bin_hz {w : World} {lo B n cap : Nat} {ao : Option Addr} {hz : Int} {l : List ShT} (h : BIn w lo B ao n cap hz l) (z : Int) : BIn (w.setCell ⟨B, 1, none⟩ (.int .i64 z)) lo B ao n cap z l :=
 ⟨two_snd h.b _, h.row.keep h.b ⟨by decide, by decide, by decide, by decide⟩ grown_set, h.loB⟩
set_option maxRecDepth 100000 in
set_option maxHeartbeats 4000000 in
theorem broll_any (b : Bs) (hb : BInv b) (t : Int) (l : List ShT) (lo B n cap : Nat) (ao : Option Addr) (w : World) (hB : BIn w lo B ao n cap b.hz l) (hL : Lies l b.l) :
  Calls Tryz.prog 58 #[.pointer (some ⟨B, 0, none⟩), .int .i64 t] w (DPost (rollB b t) lo B w) := by
 obtain ⟨V, hV⟩ : ∃ V, V = w.alloc (.cells #[.int .i64 t] 3) := ⟨_, rfl⟩
 have bel : Below w.heap.size w V := by rw [hV]; exact (Below.refl _ _).alloc (Nat.le_refl _) _
 have T0 : V.heap[w.heap.size]? = some (.cells #[.int .i64 t] 3 (0, 0)) := by rw [hV]; exact heap_alloc_new w _
 have c0 : V.cell? ⟨w.heap.size, 0, none⟩ = some (.int .i64 t) := by simp [World.cell?, T0]
 have hlB : lo ≤ w.heap.size := by have := hB.loB; have := lt_of_block hB.b; omega
 have HBV := hide (hB.below bel)
 have HL := hide hL
 have HV := hide hV
 have hzb := hb.hz
 have PT := hide (istime_any t V)
 by_cases hin : 0 ≤ t ∧ t ≤ 1000000
 ·rw [show decide (0 ≤ t ∧ t ≤ 1000000) = true from by simpa using hin] at PT
  have hE := hide (enters (P := Tryz.prog) (f := 97) Tryz.func97 (by kernel_rfl) (by kernel_rfl))
  have P := hide (each_any (fun s => Grain.sroll s t) 97 #[.pointer (some ⟨w.heap.size, 0, none⟩)] b hb l lo B n cap ao V HBV.out hL hE (fun W x hW hx => broll1_any x t w.heap.size W hx (by have := below_block hW T0; simp [World.cell?, this])))
  have HR : Hid (rollB b t = match eachB (fun s => Grain.sroll s t) b.l with | .error x => (b, x) | .ok l => (⟨l, max b.hz (Grain.beg t 10)⟩, 0)) := by
   show _ = _
   unfold rollB
   rw [if_neg (by omega)]
   cases eachB (fun s => Grain.sroll s t) b.l <;> rfl
  obtain ⟨z, hz⟩ : ∃ z, z = b.hz := ⟨_, rfl⟩
  rw [← hz] at HBV HR hzb
  have HZ := hide hz
  clear hV hL hb hB hz
  go_enter Tryz.func58, Tryz.ntmps58
  go_wp2_with fail
  rw [← HV.out]
  refine PT.out.mono ?_
  intro e w1 hh
  rw [hh.1, hh.2]
  clear hh PT
  go_wp2_with fail
  refine P.out.mono ?_
  intro e w1 hh
  have HH := hide hh
  clear hh P
  rcases HH.out with ⟨x, ao', n', cap', l', hx, ho, rfl, hB', hL', hF'⟩ | ⟨r, ao', n', cap', l', ho, rfl, hB', hL', hF'⟩
  ·have FIN : Hid (DPost (rollB b t) lo B w (.returned (.int .i64 x)) w1) := by
    show DPost _ _ _ _ _ _
    rw [HR.out, ho]
    exact ⟨_, _, _, _, rfl, hB', hL', (Fr.of bel hlB).trans hF'⟩
   have hxb : (x == 0) = false := by simpa using hx
   clear HH ho hx HR
   go_wp2
   go_ret
   exact FIN.out
  ·have T1 := (hF'.typ _ _ _ _ T0 (by decide) (by decide)).trans T0
   have FIN : Hid (DPost (rollB b t) lo B w (.returned (.int .i64 0)) (w1.setCell ⟨B, 1, none⟩ (.int .i64 (max z (t - t % 10)))).drew) := by
    show DPost _ _ _ _ _ _
    rw [HR.out, ho]
    have bd : Below (w1.setCell ⟨B, 1, none⟩ (.int .i64 (max z (t - t % 10)))).heap.size (w1.setCell ⟨B, 1, none⟩ (.int .i64 (max z (t - t % 10)))) (w1.setCell ⟨B, 1, none⟩ (.int .i64 (max z (t - t % 10)))).drew := below_drewN (Below.refl _ _) 1
    have F2 := ((Fr.of bel hlB).trans hF').trans (fr_store hB' 1 (.int .i64 (max z (t - t % 10))))
    exact ⟨_, _, _, _, rfl, (bin_hz hB' _).below bd, hL', F2.trans (Fr.of bd (Nat.le_trans hlB F2.size))⟩
   rw [← HZ.out] at hB'
   obtain ⟨q0, q1, q2, q3⟩ := two_cells hB'.b
   have c1 : w1.cell? ⟨w.heap.size, 0, none⟩ = some (.int .i64 t) := by simp [World.cell?, T1]
   clear HH ho HR hB' hL' hF' T0 c0 T1 HBV
   go_wp2_with fail
   go_region
   all_goals go_wp2
   all_goals exact bodyPost_ret (v := .int .i64 0) (by simp [results, Tryz.results58, go_sem]) rfl FIN.out
 ·rw [show decide (0 ≤ t ∧ t ≤ 1000000) = false from by simpa using hin] at PT
  have FIN : Hid (DPost (rollB b t) lo B w (.returned (.int .i64 3)) (w.alloc (.cells #[.int .i64 t] 3))) := by
   show DPost _ _ _ _ _ _
   rw [← HV.out]
   have e : rollB b t = (b, 3) := by unfold rollB; rw [if_pos (by omega)]
   rw [e]
   exact ⟨_, _, _, _, rfl, HBV.out, HL.out, Fr.of bel hlB⟩
  clear hin hL HL HBV hb hB
  go_enter Tryz.func58, Tryz.ntmps58
  go_wp2_with fail
  rw [← HV.out]
  refine PT.out.mono ?_
  intro e w1 hh
  rw [hh.1, hh.2]
  clear hh PT
  go_wp2
  exact bodyPost_ret (v := .int .i64 3) (by simp [results, Tryz.results58, go_sem]) rfl FIN.out
open Go.RowKit Go.GrainU
theorem own_room {w : World} {base e size n c m : Nat} {ao : Option Addr} {xs : List Value} (h : w.ownsRow base e size (.slice ao n c) m xs) : m ≤ c := by
 rcases h.2 with ⟨h2, h3⟩ | ⟨g, cap, cur, hv, _, _, h4, _⟩
 ·omega
 ·injection hv with _ _ e3
  omega
theorem ShO.room {base : Nat} {w : World} {y : ShT} (h : ShO base w y) : ShCap y := ⟨own_room h.o1, own_room h.o2, own_room h.o3⟩
theorem wrap_add (a b : Int) : wrap64 (wrap64 a + b) = wrap64 (a + b) := by
 unfold wrap64
 omega
def S1Post (s : Grain.Shf) (f t c : Int) (C2 : Nat) (w : World) (e : Ending) (w' : World) : Prop :=
 ∃ (J : Grain.Sm) (N E : Int), e = .returned (sumv J E) ∧ ((E ≠ 0 ∧ lookS s f t = .error E) ∨ (E = 0 ∧ lookS s f t = .ok J ∧ N = (Grain.read s (Grain.choose s f t).1).2.1)) ∧ w'.heap[C2]? = some (.cells #[.int .i64 (wrap64 (c + N))] 3 (0, 0)) ∧ Bel (some C2) w.heap.size w w'
set_option maxRecDepth 20000 in
set_option maxHeartbeats 2000000 in
theorem bask1_any (C1 C2 B lo n cap i : Nat) (ao : Option Addr) (hz a e' c : Int) (l : List ShT) (w : World) (k1 : w.cell? ⟨C1, 0, none⟩ = some (.pointer (some ⟨B, 0, none⟩))) (k2 : w.heap[C2]? = some (.cells #[.int .i64 (wrap64 c)] 3 (0, 0))) (hB : BIn w lo B ao n cap hz l) (hi : i < n) :
  Calls Tryz.prog 102 #[.int .i64 i, .int .i64 a, .int .i64 e', .pointer (some ⟨C1, 0, none⟩), .pointer (some ⟨C2, 0, none⟩)] w (S1Post (sht l i).s a e' c C2 w) := by
 have hil : i < l.length := by rw [← hB.row.len]; exact hi
 obtain ⟨bb, off, rfl, hbb, hcell⟩ := seg_shelf hB.row.seg hil
 obtain ⟨x, hx⟩ : ∃ x, x = sht l i := ⟨_, rfl⟩
 rw [← hx]
 have c9 : Cells9 w bb (off + i * 9) x := by rw [hx]; exact hcell i hil
 have ox : ShO lo w x := by rw [hx]; exact hB.row.shs _ (sht_mem hil)
 obtain ⟨V, hV⟩ : ∃ V, V = w.alloc (.cells #[.int .i64 0, .int .i64 0, .int .i64 0, .int .i64 0, .int .i64 0, .int .i64 0, .int .i64 0] 76) := ⟨_, rfl⟩
 have bel : Below w.heap.size w V := by rw [hV]; exact (Below.refl _ _).alloc (Nat.le_refl _) _
 have R0 : V.heap[w.heap.size]? = some (.cells #[.int .i64 0, .int .i64 0, .int .i64 0, .int .i64 0, .int .i64 0, .int .i64 0, .int .i64 0] 76 (0, 0)) := by rw [hV]; exact heap_alloc_new w _
 have P := hide (look_any x a e' V (ox.below bel).shIn ox.room)
 have hl1 : C1 < w.heap.size := World.block_lt_of_cell? w _ k1
 have hl2 : C2 < w.heap.size := lt_of_block k2
 have hlB : B < w.heap.size := lt_of_block hB.b
 obtain ⟨q0, q1, -, -⟩ := two_cells hB.b
 obtain ⟨x0, x1, x2, x3, x4, x5, x6, x7, x8⟩ := c9
 have K2 := below_block bel k2
 have HV := hide hV
 unfold ShT.v at P
 have hi' : (i : Int) < (n : Int) := by omega
 have HX := hide hx
 clear hV hx hcell hB ox hil
 go_enter Tryz.func102, Tryz.ntmps102
 go_wp2_with fail
 rw [← HV.out]
 refine P.out.mono ?_
 rintro e w1 ⟨J, N, E, rfl, hJ, b1⟩
 have bel1 : Below w.heap.size w w1 := bel.trans (b1.mono bel.size)
 have R1 := below_block b1 R0
 have K3 := below_block b1 K2
 have HJ := hide hJ
 obtain ⟨W2, hW2⟩ : ∃ W2, W2 = w1.alloc (.cells #[.int .i64 J.c, .int .i64 J.t, .int .i64 J.mn, .int .i64 J.mx, .int .i64 J.f, .int .i64 J.l, .int .i64 J.r] 76) := ⟨_, rfl⟩
 have b2 : Below w1.heap.size w1 W2 := by rw [hW2]; exact (Below.refl _ _).alloc (Nat.le_refl _) _
 have bel2 : Below w.heap.size w W2 := bel1.trans (b2.mono bel1.size)
 have R2 := below_block b2 R1
 have K4 := below_block b2 K3
 have J2 : W2.heap[w1.heap.size]? = some (.cells #[.int .i64 J.c, .int .i64 J.t, .int .i64 J.mn, .int .i64 J.mx, .int .i64 J.f, .int .i64 J.l, .int .i64 J.r] 76 (0, 0)) := by rw [hW2]; exact heap_alloc_new w1 _
 have hCJ : C2 ≠ w1.heap.size := by have := bel1.size; omega
 have HW2 := hide hW2
 obtain ⟨M, hM⟩ : ∃ M, M = wrap64 (c + N) := ⟨_, rfl⟩
 have hM2 : wrap64 (wrap64 c + N) = M := by rw [hM]; exact wrap_add c N
 obtain ⟨W3, hW3⟩ : ∃ W3, W3 = W2.setCell ⟨C2, 0, none⟩ (.int .i64 M) := ⟨_, rfl⟩
 have K5 : W3.heap[C2]? = some (.cells #[.int .i64 M] 3 (0, 0)) := by rw [hW3]; simp [World.setCell, Array.getElem?_modify, K4]
 have J3 : W3.heap[w1.heap.size]? = some (.cells #[.int .i64 J.c, .int .i64 J.t, .int .i64 J.mn, .int .i64 J.mx, .int .i64 J.f, .int .i64 J.l, .int .i64 J.r] 76 (0, 0)) := by rw [hW3, setCell_far (fun e => hCJ e.symm)]; exact J2
 have R3 : W3.heap[w.heap.size]? = some (.cells #[.int .i64 0, .int .i64 0, .int .i64 0, .int .i64 0, .int .i64 0, .int .i64 0, .int .i64 0] 76 (0, 0)) := by rw [hW3, setCell_far (by omega)]; exact R2
 have bel3 : Bel (some C2) w.heap.size w W3 := by
  rw [hW3]
  exact ⟨bel2.os, bel2.tape, bel2.output, by simp; exact bel2.size, fun k hk hr => by rw [setCell_far (fun e => hr (by rw [e]))]; exact bel2.block k hk⟩
 have HW3 := hide hW3
 have HM := hide hM
 have k4 : W2.cell? ⟨C2, 0, none⟩ = some (.int .i64 (wrap64 c)) := by simp [World.cell?, K4]
 have f4 : W2.frozen? ⟨C2, 0, none⟩ = false := by simp [World.frozen?, K4]
 obtain ⟨j0, j1, j2, j3, j4, j5, j6⟩ := seven_cells J3
 obtain ⟨r0, r1, r2, r3, r4, r5, r6⟩ := seven_cells R3
 obtain ⟨t0, t1, t2, t3, t4, t5, t6⟩ := seven_thaw R3
 clear P hJ R0 K2 K3 R1 R2 K4 J2 hW2 hW3 hM b1 b2 bel bel1 bel2 x0 x1 x2 x3 x4 x5 x6 x7 x8 q0 q1 J3 HV
 go_upto_region 2 with fail
 rw [← HW2.out]
 go_upto_region 3 with fail
 rw [← HW3.out]
 go_wp2
 exact bodyPost_ret (v := sumv J E) (by simp [sumv, results, Tryz.results102, go_sem, r0, r1, r2, r3, r4, r5, r6]) rfl ⟨J, N, E, rfl, HJ.out, by
  rw [← HM.out]
  have hne : C2 ≠ w.heap.size := by omega
  repeat rw [setCell_far hne]
  exact K5, bel3.trans (Bel.of (below_set7 (Below.refl w.heap.size W3) (Nat.le_refl _) _ _ _ _ _ _ _) _)⟩
end Go.Proofs.YtoldmigappbjcaaGreatDoor
namespace Go.GrainU
open Go.RowKit
theorem wrongS_len {s : Lb} (h : wrongS s = 0) : s.length ≤ 4 := by
 unfold wrongS at h
 by_cases h4 : 4 < s.length
 ·rw [if_pos h4] at h; simp at h
 ·omega
theorem hcells_append (a b : List ST) : hcells (a ++ b) = hcells a ++ hcells b := by
 induction a with
 | nil => rfl
 | cons x r ih => simp [hcells, ih]
theorem win_max {s : List (Int × Int)} (h : Grain.Right s) (a b : Int) : Grain.win s (max 0 a) b = Grain.win s a b := by
 unfold Grain.win
 apply List.filter_congr
 intro x hx
 obtain ⟨q, hq, rfl⟩ := List.mem_iff_getElem.1 hx
 have := h.rng q hq
 simp [Grain.tm, List.getD, List.getElem?_eq_getElem hq] at this
 simp only [decide_eq_decide]
 omega
end Go.GrainU
namespace Go.Proofs.YtoldmigappbjcaaGreatDoor
open Go.RowKit Go.GrainU
end Go.Proofs.YtoldmigappbjcaaGreatDoor
namespace Go.GrainU
open Go.RowKit
def sersT (l : List ShT) : List ST := l.map fun x => ⟨x.s.se, x.a0, x.c0⟩
theorem sersT_len (l : List ShT) : (sersT l).length = l.length := by simp [sersT]
def vrow (l : List ShT) (n k : Nat) : List Value := hcells (sersT (l.take k)) ++ List.replicate (n - k) (.slice none 0 0)
theorem vrow_set {l : List ShT} {n k : Nat} (hk : k < l.length) (hn : k < n) : (vrow l n k).set k (.slice (sht l k).a0 (sht l k).s.se.length (sht l k).c0) = vrow l n (k + 1) := by
 have h1 : (hcells (sersT (l.take k))).length = k := by rw [hcells_length, sersT_len, List.length_take]; omega
 unfold vrow
 rw [List.set_append_right _ _ (by omega), h1, Nat.sub_self, show n - k = (n - (k + 1)) + 1 from by omega, List.replicate_succ, List.set_cons_zero]
 have e : l.take (k + 1) = l.take k ++ [sht l k] := by rw [List.take_add_one, List.getElem?_eq_getElem hk, sht_get hk]; rfl
 rw [e]
 simp [sersT, hcells_append, hcells]
theorem vrow_at {l : List ShT} {n k : Nat} (hk : k < l.length) (hn : k < n) : (vrow l n k)[k]? = some (.slice none 0 0) := by
 have h1 : (hcells (sersT (l.take k))).length = k := by rw [hcells_length, sersT_len, List.length_take]; omega
 unfold vrow
 rw [List.getElem?_append_right (by omega), h1, Nat.sub_self, List.getElem?_replicate, if_pos (by omega)]
theorem vrow_all {l : List ShT} {n : Nat} (hn : n = l.length) : vrow l n n = hcells (sersT l) := by
 unfold vrow
 rw [hn, List.take_length, Nat.sub_self]; simp
end Go.GrainU
namespace Go.Proofs.YtoldmigappbjcaaGreatDoor
open Go.RowKit Go.GrainU
set_option maxRecDepth 20000 in
set_option maxHeartbeats 2000000 in
theorem bseries_any (l : List ShT) (lo B n cap : Nat) (ao : Option Addr) (hz : Int) (w : World) (hB : BIn w lo B ao n cap hz l) (hn8 : n ≤ 8) :
  Calls Tryz.prog 101 #[.pointer (some ⟨B, 0, none⟩)] w fun e w' => ∃ Q : Nat, e = .returned (.slice (some ⟨Q, 0, none⟩) n n) ∧ Seg w' (some ⟨Q, 0, none⟩) (hcells (sersT l)) ∧ Below w.heap.size w w' := by
 obtain ⟨i0, hi, hz0, hz1, hz2⟩ := info_parts (P := Tryz.prog) (e := 32) (z := .slice none 0 0) (size := 1) (bytes := 24) (by kernel_rfl)
 have hn := hB.row.len
 have HN := hide hn
 have HB := hide hB
 have hlB : B < w.heap.size := lt_of_block hB.b
 obtain ⟨p0, p1, p2, p3⟩ := two_cells hB.b
 clear hn hB
 go_enter Tryz.func101, Tryz.ntmps101
 go_wp2_with (at_make; refine wpList_make_full _ rfl _ _ 98 rfl w.heap.size 32 i0 (.slice none 0 0) 1 Tryz.underlying98 hi hz0 hz1 .i64 .i64 _ _ n rfl rfl rfl rfl (by rw [hz2]; omega) (by unfold maxLen; omega) (by simp) ?_)
 intro w4 own4 gr4
 have hmc : (madeCells #[Value.slice none 0 0] n).toList = vrow l n 0 := by
  rw [toList_madeCells_one]
  simp [vrow, sersT, hcells]
 rw [hmc] at own4
 have b4 : Below w.heap.size w w4 := (Below.refl _ _).grown gr4 (by simp) (fun k hk => by cases hk)
 have B4 := below_block b4 HB.out.b
 obtain ⟨r0, r1, r2, r3⟩ := two_cells B4
 clear hmc gr4 p0 p1 p2 p3
 go_wp2
 go_loopw [19] (fun i wr => ∃ k : Nat, k ≤ n ∧ i = .int .i64 k ∧ wr.ownsRow w.heap.size 32 1 (.slice (some ⟨w.heap.size, 0, none⟩) n n) n (vrow l n k) ∧ Below w.heap.size w wr) (fun i _ => n - (intOf i).toNat)
 case atStart => exact ⟨0, Nat.zero_le _, rfl, own4, b4⟩
 case round =>
  obtain ⟨k, hk, rfl, own, bel⟩ := hrel
  clear own4 b4 B4 r0 r1 r2 r3
  by_cases hlt : k < n
  ·have hkl : k < l.length := by rw [← HN.out]; exact hlt
   obtain ⟨b, off, rfl, hb, hcell⟩ := seg_shelf HB.out.row.seg hkl
   obtain ⟨x, hx⟩ : ∃ x, x = sht l k := ⟨_, rfl⟩
   have c9 : Cells9 wr b (off + k * 9) x := by rw [hx]; exact (hcell _ hkl).below bel hb
   obtain ⟨q0, q1, q2, q3, q4, q5, q6, q7, q8⟩ := c9
   obtain ⟨V, hV⟩ : ∃ V, V = wr.alloc (.cells #[.slice x.a0 x.s.se.length x.c0, .slice x.a1 x.s.ra.length x.c1, .slice x.a2 x.s.fi.length x.c2, .slice x.a3 x.s.co.length x.c3, .int .i64 x.s.rf, .int .i64 x.s.ff, .int .i64 x.s.ft, .int .i64 x.s.cf, .int .i64 x.s.ct] 59) := ⟨_, rfl⟩
   have bA : Below wr.heap.size wr V := by rw [hV]; exact (Below.refl _ _).alloc (Nat.le_refl _) _
   have ownA := own_below own bA
   have fz : V.frozen? ⟨w.heap.size, k, none⟩ = false := ownA.frozenAt k
   have cz : V.cell? ⟨w.heap.size, k, none⟩ = some (.slice none 0 0) := (ownA.cellAt k (by omega)).trans (vrow_at hkl hlt)
   have HSet : Hid ((V.setCell ⟨w.heap.size, k, none⟩ (.slice x.a0 x.s.se.length x.c0)).ownsRow w.heap.size 32 1 (.slice (some ⟨w.heap.size, 0, none⟩) n n) n (vrow l n (k + 1))) := by
    have h1 := (ownA.stored k (.slice x.a0 x.s.se.length x.c0)).1
    have h2 := vrow_set (l := l) hkl hlt
    rw [← hx] at h2
    rw [h2] at h1
    exact h1
   have HBs : Hid (Below w.heap.size w (V.setCell ⟨w.heap.size, k, none⟩ (.slice x.a0 x.s.se.length x.c0))) := (below_step bA bel).setCell (by show w.heap.size ≤ w.heap.size; omega) _
   have k2 : (k : Int) < (n : Int) := by omega
   have v0 : V.cell? ⟨wr.heap.size, 0, none⟩ = some (.slice x.a0 x.s.se.length x.c0) := by rw [hV]; simp
   have HV := hide hV
   clear hx hcell hkl ownA own bA bel hV
   go_upto_region 5 with fail
   rw [← HV.out]
   go_wp2
   go_roundw
   case rel => exact ⟨k + 1, by omega, by go_num, HSet.out, HBs.out⟩
   case measure => simp [intOf]; omega
  ·have he : k = n := by omega
   subst he
   have hsg : Seg wr (some ⟨w.heap.size, 0, none⟩) (hcells (sersT l)) := by
    rw [← vrow_all HN.out]
    obtain ⟨ao', c, hv, hs', _⟩ := own_open own
    simp only [Value.slice.injEq] at hv
    obtain ⟨rfl, -, rfl⟩ := hv
    exact hs'
   clear own HN
   go_wp2
   go_ret
   exact ⟨_, rfl, hsg, bel⟩
end Go.Proofs.YtoldmigappbjcaaGreatDoor
