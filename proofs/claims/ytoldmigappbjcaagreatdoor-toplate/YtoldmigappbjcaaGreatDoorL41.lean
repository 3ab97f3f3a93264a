import Derived.Deep.AppendLies
import Derived.Test.YtoldmigappbjcaaGreatDoorL29
import Derived.Test.YtoldmigappbjcaaGreatDoorL30
import Derived.Test.YtoldmigappbjcaaGreatDoorL36
import Derived.Test.YtoldmigappbjcaaGreatDoorL39
import Derived.Test.YtoldmigappbjcaaGreatDoorL40
namespace Go.Proofs.YtoldmigappbjcaaGreatDoor
open Go.RowKit Go.GrainU
set_option maxRecDepth 20000 in
set_option maxHeartbeats 1000000 in
theorem find1_any (x : ShT) (s : Lb) (m c' : Nat) (so' : Option Addr) (w : World) (hx : Seg w x.a0 (lcells x.s.se)) (hs : Seg w so' (lcells s)) (hm : m = s.length) (hc : x.s.se.length ≤ 9223372036854775807) :
  Calls Tryz.prog 126 #[x.v, .slice so' m c'] w fun e w' => e = .returned (.int .i64 (cmpS x.s.se s)) ∧ Below w.heap.size w w' := by
 obtain ⟨V, hV⟩ : ∃ V, V = w.alloc (.cells #[.slice x.a0 x.s.se.length x.c0, .slice x.a1 x.s.ra.length x.c1, .slice x.a2 x.s.fi.length x.c2, .slice x.a3 x.s.co.length x.c3, .int .i64 x.s.rf, .int .i64 x.s.ff, .int .i64 x.s.ft, .int .i64 x.s.cf, .int .i64 x.s.ct] 59) := ⟨_, rfl⟩
 have bel : Below w.heap.size w V := by rw [hV]; exact (Below.refl _ _).alloc (Nat.le_refl _) _
 have HV := hide hV
 have HM := hide hm
 obtain ⟨C, hC⟩ : ∃ C, C = cmpS x.s.se s := ⟨_, rfl⟩
 rw [← hC]
 have HC := hide hC
 have P := hide (ncmp_any x.s.se s x.a0 so' x.s.se.length m x.c0 c' V (hx.below bel) (hs.below bel) rfl hm hc)
 unfold ShT.v
 generalize x.s.se.length = n0 at HV P
 clear hV hm hC
 go_enter Tryz.func126, Tryz.ntmps126
 go_wp2_with fail
 rw [← HV.out]
 refine P.out.mono ?_
 rintro e w1 ⟨rfl, b1⟩
 rw [← HC.out]
 go_wp2
 go_ret
 exact ⟨rfl, bel.trans (b1.mono bel.size)⟩
set_option maxHeartbeats 4000000 in
set_option maxRecDepth 100000 in
theorem bsf_any (l : List ShT) (s : Lb) (co so' : Option Addr) (n c m c' p : Nat) (F : Bool) (w : World) (hl : Seg w co (vcells l)) (hsh : ∀ x ∈ l, Seg w x.a0 (lcells x.s.se)) (hs : Seg w so' (lcells s)) (hn : n = l.length) (hm : m = s.length) (hn4 : n ≤ 1000000) (hb8 : ∀ x ∈ l, x.s.se.length ≤ 9223372036854775807) (hp : p ≤ n) (hbd : ∀ k, k < n → (cmpS (sht l k).s.se s < 0 ↔ k < p)) (hF : F = (decide (p < n) && decide (cmpS (sht l p).s.se s = 0))) :
  Calls Tryz.prog 125 #[.slice co n c, .slice so' m c', .func (.func 126) #[] #[]] w fun e w' => e = .returned (.tuple #[.int .i64 p, .bool F]) ∧ Below w.heap.size w w' := by
 have HN := hide hn
 have HM := hide hm
 have HB := hide hbd
 have HF := hide hF
 have H8 := hide hb8
 clear hn hm hbd hF hb8
 go_enter Tryz.func125, Tryz.ntmps125
 go_wp2
 go_loopw [9, 10] (fun s9 s10 wr => ∃ lo hi : Nat, s9 = .int .i64 lo ∧ s10 = .int .i64 hi ∧ lo ≤ p ∧ p ≤ hi ∧ hi ≤ n ∧ Below w.heap.size w wr) (fun s9 s10 _ => (intOf s10).toNat - (intOf s9).toNat)
 case atStart => exact ⟨0, n, rfl, rfl, Nat.zero_le _, hp, Nat.le_refl _, Below.refl _ _⟩
 case round =>
  obtain ⟨lo, hi, rfl, rfl, hlo, hhi, hin, bel⟩ := hrel
  have hsz := bel.size
  by_cases hlt : lo < hi
  ·have hkl : (lo + hi) / 2 < l.length := by rw [← HN.out]; omega
   obtain ⟨b, off, rfl, hb, hcell⟩ := seg_shelf hl hkl
   obtain ⟨x, hx⟩ : ∃ x, x = sht l ((lo + hi) / 2) := ⟨_, rfl⟩
   have c9 : Cells9 wr b (off + (lo + hi) / 2 * 9) x := by rw [hx]; exact (hcell _ hkl).below bel hb
   obtain ⟨q0, q1, q2, q3, q4, q5, q6, q7, q8⟩ := c9
   have sx : Seg w x.a0 (lcells x.s.se) := by rw [hx]; exact hsh _ (sht_mem hkl)
   have x8 : x.s.se.length ≤ 9223372036854775807 := by rw [hx]; exact H8.out _ (sht_mem hkl)
   have HX := hide hx
   have P := hide (find1_any x s m c' so' wr (sx.below bel) (hs.below bel) HM.out x8)
   unfold ShT.v at P
   clear hcell hx hkl x8
   go_wp2_with fail
   refine P.out.mono ?_
   rintro e w1 ⟨rfl, b1⟩
   have bel1 : Below w.heap.size w w1 := bel.trans (b1.mono hsz)
   have hkey := HB.out ((lo + hi) / 2) (by omega)
   rw [← HX.out] at hkey
   clear P
   generalize cmpS x.s.se s = C at hkey ⊢
   clear q0 q1 q2 q3 q4 q5 q6 q7 q8 b1 bel HX
   by_cases hc : C < 0
   ·have hp2 := hkey.1 hc
    clear hkey
    go_wp2
    go_roundw
    case rel => exact ⟨(lo + hi) / 2 + 1, hi, by rw [show ((lo : Int) + (hi : Int)) / 2 + 1 = (((lo + hi) / 2 + 1 : Nat) : Int) by omega], rfl, by omega, hhi, hin, bel1⟩
    case measure => simp [intOf]; omega
   ·have hp2 : ¬ (lo + hi) / 2 < p := fun h => hc (hkey.2 h)
    clear hkey
    go_wp2
    go_roundw
    case rel => exact ⟨lo, (lo + hi) / 2, rfl, by rw [show ((lo : Int) + (hi : Int)) / 2 = (((lo + hi) / 2 : Nat) : Int) by omega], hlo, by omega, by omega, bel1⟩
    case measure => simp [intOf]; omega
  ·have e1 : lo = p := by omega
   have e2 : hi = p := by omega
   subst e1
   subst e2
   by_cases hpn : hi < n
   ·have hkl : hi < l.length := by rw [← HN.out]; omega
    obtain ⟨b, off, rfl, hb, hcell⟩ := seg_shelf hl hkl
    obtain ⟨x, hx⟩ : ∃ x, x = sht l hi := ⟨_, rfl⟩
    have c9 : Cells9 wr b (off + hi * 9) x := by rw [hx]; exact (hcell _ hkl).below bel hb
    obtain ⟨q0, q1, q2, q3, q4, q5, q6, q7, q8⟩ := c9
    have sx : Seg w x.a0 (lcells x.s.se) := by rw [hx]; exact hsh _ (sht_mem hkl)
    have x8 : x.s.se.length ≤ 9223372036854775807 := by rw [hx]; exact H8.out _ (sht_mem hkl)
    have HX := hide hx
    have P := hide (find1_any x s m c' so' wr (sx.below bel) (hs.below bel) HM.out x8)
    unfold ShT.v at P
    clear hcell hx hkl x8
    go_wp2_with fail
    refine P.out.mono ?_
    rintro e w1 ⟨rfl, b1⟩
    have bel1 : Below w.heap.size w w1 := bel.trans (b1.mono hsz)
    have HF2 : Hid (F = decide (cmpS x.s.se s = 0)) := by show _ = _; rw [HF.out, HX.out]; simp [hpn]
    clear P
    generalize cmpS x.s.se s = C at HF2 ⊢
    clear q0 q1 q2 q3 q4 q5 q6 q7 q8 b1 bel HX HF
    by_cases hc : C = 0
    ·have HF3 : Hid (F = true) := by show _ = _; rw [HF2.out]; simpa using hc
     subst hc
     go_wp2
     go_ret2
     exact ⟨by rw [HF3.out]; rfl, bel1⟩
    ·have HF3 : Hid (F = false) := by show _ = _; rw [HF2.out]; simpa using hc
     have hd : (C == 0) = false := by simpa using hc
     clear hc
     go_wp2
     go_ret2
     exact ⟨by rw [HF3.out]; rfl, bel1⟩
   ·have HF3 : Hid (F = false) := by show _ = _; rw [HF.out]; simp [hpn]
    clear HF
    go_wp2
    go_ret2
    exact ⟨by rw [HF3.out]; rfl, bel⟩
def Lies (l : List ShT) (b : List Kp) : Prop := l.map (fun x => x.s) = b.map (fun k => k.s)
theorem Lies.len {l : List ShT} {b : List Kp} (h : Lies l b) : l.length = b.length := by simpa using congrArg List.length h
theorem Lies.at {l : List ShT} {b : List Kp} (h : Lies l b) {k : Nat} (hk : k < l.length) : (sht l k).s = (kp b k).s := by
 have hk' : k < b.length := by rw [← h.len]; exact hk
 have := congrArg (fun L => L[k]?) h
 simp [hk, hk'] at this
 rw [sht_get hk, kp_get hk', this]
set_option maxRecDepth 20000 in
set_option maxHeartbeats 1000000 in
theorem find_any (b : Bs) (hb : BInv b) (l : List ShT) (s : Lb) (so' : Option Addr) (m c' lo B n cap : Nat) (ao : Option Addr) (w : World) (hB : BIn w lo B ao n cap b.hz l) (hL : Lies l b.l) (hs : Seg w so' (lcells s)) (hm : m = s.length) :
  Calls Tryz.prog 92 #[.pointer (some ⟨B, 0, none⟩), .slice so' m c'] w fun e w' => e = .returned (.tuple #[.int .i64 (bpos b.l s), .bool (bhas b.l s)]) ∧ Below w.heap.size w w' := by
 have hn := hB.row.len
 have hl := hL.len
 have h8 := hb.len
 have hbd : ∀ k, k < n → (cmpS (sht l k).s.se s < 0 ↔ k < bpos b.l s) := fun k hk => by
  rw [hL.at (by omega)]; exact bpos_iff hb.srt s k (by omega)
 have hF : bhas b.l s = (decide (bpos b.l s < n) && decide (cmpS (sht l (bpos b.l s)).s.se s = 0)) := by
  unfold bhas
  by_cases hp : bpos b.l s < n
  ·rw [hL.at (by omega), show n = b.l.length from by omega]
  ·have h1 : decide (bpos b.l s < n) = false := by simpa using hp
   have h2 : decide (bpos b.l s < b.l.length) = false := by simp; omega
   rw [h1, h2]; rfl
 have P := hide (bsf_any l s ao so' n cap m c' (bpos b.l s) (bhas b.l s) w hB.row.seg (fun x hx => (hB.row.shs x hx).shIn.g0) hs hn hm (by omega) (fun x hx => by have := (hB.row.shs x hx).n0; omega) (by have := bpos_le b.l s; omega) hbd hF)
 generalize bpos b.l s = p at P
 generalize bhas b.l s = F at P
 obtain ⟨q0, q1, q2, q3⟩ := two_cells hB.b
 clear hF hbd hn hl h8 hL hB hm hb
 go_enter Tryz.func92, Tryz.ntmps92
 go_wp2_with fail
 refine P.out.mono ?_
 rintro e w1 ⟨rfl, b1⟩
 clear P
 go_wp2
 go_ret2
 exact ⟨rfl, b1⟩
def LPost (s : Grain.Shf) (f t : Int) (w : World) (e : Ending) (w' : World) : Prop :=
 ∃ (J : Grain.Sm) (N E : Int), e = .returned (.tuple #[.agg #[.int .i64 J.c, .int .i64 J.t, .int .i64 J.mn, .int .i64 J.mx, .int .i64 J.f, .int .i64 J.l, .int .i64 J.r], .int .i64 N, .int .i64 E]) ∧ ((E ≠ 0 ∧ lookS s f t = .error E) ∨ (E = 0 ∧ lookS s f t = .ok J ∧ N = (Grain.read s (Grain.choose s f t).1).2.1)) ∧ Below w.heap.size w w'
set_option maxRecDepth 20000 in
set_option maxHeartbeats 2000000 in
theorem look_any (x : ShT) (f t : Int) (w : World) (hx : ShIn w x) (hcap : ShCap x) :
  Calls Tryz.prog 103 #[x.v, .int .i64 f, .int .i64 t] w (LPost x.s f t w) := by
 obtain ⟨r, hr⟩ : ∃ r, r = Grain.choose x.s f t := ⟨_, rfl⟩
 obtain ⟨V, hV⟩ : ∃ V, V = (w.alloc (.cells #[.slice x.a0 x.s.se.length x.c0, .slice x.a1 x.s.ra.length x.c1, .slice x.a2 x.s.fi.length x.c2, .slice x.a3 x.s.co.length x.c3, .int .i64 x.s.rf, .int .i64 x.s.ff, .int .i64 x.s.ft, .int .i64 x.s.cf, .int .i64 x.s.ct] 59)).alloc (.cells #[.int .i64 0, .int .i64 0, .int .i64 0, .int .i64 0, .int .i64 0, .int .i64 0, .int .i64 0] 76) := ⟨_, rfl⟩
 have bel : Below w.heap.size w V := by rw [hV]; exact ((Below.refl _ _).alloc (Nat.le_refl _) _).alloc (by simp) _
 have S0 : V.heap[w.heap.size]? = some (so x) := by rw [hV, Below.heap_alloc _ _ _ (by simp)]; exact heap_alloc_new w _
 have R0 : V.heap[w.heap.size + 1]? = some (.cells #[.int .i64 0, .int .i64 0, .int .i64 0, .int .i64 0, .int .i64 0, .int .i64 0, .int .i64 0] 76 (0, 0)) := by
  have := heap_alloc_new (w.alloc (.cells #[.slice x.a0 x.s.se.length x.c0, .slice x.a1 x.s.ra.length x.c1, .slice x.a2 x.s.fi.length x.c2, .slice x.a3 x.s.co.length x.c3, .int .i64 x.s.rf, .int .i64 x.s.ff, .int .i64 x.s.ft, .int .i64 x.s.cf, .int .i64 x.s.ct] 59)) (.cells #[.int .i64 0, .int .i64 0, .int .i64 0, .int .i64 0, .int .i64 0, .int .i64 0, .int .i64 0] 76)
  rw [hV]; simpa using this
 have Pc := hide (choose_any x f t r V (hx.below bel) hr)
 have PR := hide (fun (w1 : World) (hb : Below w.heap.size w w1) (ao : Option Addr) (n c : Nat) (hs : Seg w1 ao (pcells r.1)) (hn : n = r.1.length) (hL : n ≤ 1000000000000000) => read_any x r.1 ao n c w1 (hx.below hb) hcap hs hn hL)
 have HR := hide hr
 have HV := hide hV
 have Hv : Hid (x.v = .agg #[.slice x.a0 x.s.se.length x.c0, .slice x.a1 x.s.ra.length x.c1, .slice x.a2 x.s.fi.length x.c2, .slice x.a3 x.s.co.length x.c3, .int .i64 x.s.rf, .int .i64 x.s.ff, .int .i64 x.s.ft, .int .i64 x.s.cf, .int .i64 x.s.ct]) := rfl
 obtain ⟨s0, s1, s2, s3, s4, s5, s6, s7, s8⟩ := nine_cells S0
 rw [Hv.out] at Pc PR ⊢
 clear hr hV hx
 go_enter Tryz.func103, Tryz.ntmps103
 go_wp2_with fail
 rw [← HV.out]
 refine Pc.out.mono ?_
 rintro e w1 ⟨co, m, d, rfl, own, hm, b1⟩
 have bel1 : Below w.heap.size w w1 := bel.trans (b1.mono bel.size)
 have S1 := below_block b1 S0
 have R1 := below_block b1 R0
 obtain ⟨E, hE⟩ : ∃ E, E = r.2 := ⟨_, rfl⟩
 rw [← hE]
 have HE := hide hE
 obtain ⟨r0, r1, r2, r3, r4, r5, r6⟩ := seven_cells R1
 obtain ⟨f0, f1, f2, f3, f4, f5, f6⟩ := seven_thaw R1
 clear Pc s0 s1 s2 s3 s4 s5 s6 s7 s8 S0 R0 HV hE b1
 by_cases h0 : E = 0
 ·have hl : Hid (m = r.1.length) := by
   have := own.1
   rw [pcells_length] at this
   show _ = _
   omega
  have P2 := hide (PR.out w1 bel1 co m d (own_seg' own) hl.out (by omega))
  obtain ⟨s0, s1, s2, s3, s4, s5, s6, s7, s8⟩ := nine_cells S1
  have HE0 : Hid ((Grain.choose x.s f t).2 = 0) := by show _ = _; rw [← HR.out, ← HE.out]; exact h0
  subst h0
  clear PR own HE
  go_wp2_with fail
  refine P2.out.mono ?_
  rintro e w2 ⟨J, N, E2, rfl, hrd, b2⟩
  have bel2 : Below w.heap.size w w2 := bel1.trans (b2.mono bel1.size)
  have R2 := below_block b2 R1
  obtain ⟨t0, t1, t2, t3, t4, t5, t6⟩ := seven_cells R2
  obtain ⟨g0, g1, g2, g3, g4, g5, g6⟩ := seven_thaw R2
  clear P2 R1 b2 r0 r1 r2 r3 r4 r5 r6 f0 f1 f2 f3 f4 f5 f6 s0 s1 s2 s3 s4 s5 s6 s7 s8 S1 bel1 hm
  go_wp2
  refine bodyPost_ret (v := .tuple #[.agg #[.int .i64 J.c, .int .i64 J.t, .int .i64 J.mn, .int .i64 J.mx, .int .i64 J.f, .int .i64 J.l, .int .i64 J.r], .int .i64 N, .int .i64 E2]) (by simp [results, Tryz.results103, go_sem, t0, t1, t2, t3, t4, t5, t6]) rfl ⟨J, N, E2, rfl, ?_, below_set7 bel2 (by omega) _ _ _ _ _ _ _⟩
  have h1 : Grain.read x.s (Grain.choose x.s f t).1 = (J, N, E2) := by rw [← HR.out]; exact hrd.out
  unfold lookS
  rw [if_pos HE0.out, h1]
  by_cases h2 : E2 = 0
  ·exact .inr ⟨h2, by simp [h2], rfl⟩
  ·exact .inl ⟨h2, by simp [h2]⟩
 ·have hne : (E != 0) = true := by simpa using h0
  have HE0 : Hid ((Grain.choose x.s f t).2 = E) := by show _ = _; rw [← HR.out, ← HE.out]
  have H0 := hide h0
  clear PR own HE h0
  go_wp2
  refine bodyPost_ret (v := .tuple #[.agg #[.int .i64 Grain.zero.c, .int .i64 Grain.zero.t, .int .i64 Grain.zero.mn, .int .i64 Grain.zero.mx, .int .i64 Grain.zero.f, .int .i64 Grain.zero.l, .int .i64 Grain.zero.r], .int .i64 0, .int .i64 E]) (by simp [results, Tryz.results103, go_sem, r0, r1, r2, r3, r4, r5, r6, Grain.zero]) rfl ⟨Grain.zero, 0, E, rfl, .inl ⟨H0.out, ?_⟩, below_set7 bel1 (by omega) _ _ _ _ _ _ _⟩
  unfold lookS
  rw [if_neg (by rw [HE0.out]; exact H0.out), HE0.out]
open Go.RowKit Go.GrainU
theorem kp_take {l : List Kp} {k : Nat} (h : k < l.length) : l.take (k + 1) = l.take k ++ [kp l k] := by
 rw [List.take_add_one, List.getElem?_eq_getElem h, kp_get h]; rfl
theorem RowS.push {w w' : World} {lo N d g' cp' : Nat} {co : Option Addr} {l : List ShT} {y : ShT} (h : RowS w lo (.slice co N d) N l) (hy : ShO lo w y) (own : w'.ownsRow lo 59 9 (.slice (some ⟨g', 0, none⟩) (N + 1) cp') (N + 1) (vcells l ++ y.cells)) (gr : w.grownBy w' (Value.slice co N d).ownBlock) : RowS w' lo (.slice (some ⟨g', 0, none⟩) (N + 1) cp') (N + 1) (l ++ [y]) := by
 have hr : ∀ k, (Value.slice co N d).ownBlock = some k → ∃ c t fr, w.heap[k]? = some (.cells c t fr) ∧ t ≠ 88 ∧ t ≠ 34 ∧ t ≠ 145 := fun k e => by
  rcases h.own.2 with ⟨h2, _⟩ | ⟨g, c, cur, hv, _, hh, _⟩
  ·rw [h2] at e; simp [Value.ownBlock] at e
  ·rw [hv] at e
   simp [Value.ownBlock] at e
   subst e
   exact ⟨cur, _, _, hh, by decide, by decide, by decide⟩
 refine ⟨by rw [vcells_append]; simpa [vcells] using own, fun x hx => ?_⟩
 rcases List.mem_append.1 hx with e | e
 ·exact (h.shs x e).keep gr hr
 ·simp at e; rw [e]; exact hy.keep gr hr
def EcPost (b : Bs) (o : Except Int (List Kp)) (lo B : Nat) (w : World) (e : Ending) (w' : World) : Prop :=
 (∃ (x : Int) (ao : Option Addr) (n cap : Nat) (l : List ShT), x ≠ 0 ∧ o = .error x ∧ e = .returned (.int .i64 x) ∧ BIn w' lo B ao n cap b.hz l ∧ Lies l b.l ∧ Fr lo w w') ∨
 (∃ (r : List Kp) (ao : Option Addr) (n cap : Nat) (l : List ShT), o = .ok r ∧ e = .returned (.int .i64 0) ∧ BIn w' lo B ao n cap b.hz l ∧ Lies l r ∧ Fr lo w w')
theorem bin_store {w : World} {lo B n cap n' cap' : Nat} {ao ao' : Option Addr} {hz : Int} {l l' : List ShT} (h : BIn w lo B ao n cap hz l) (hr : RowS w lo (.slice ao' n' cap') n' l') : BIn (w.setCell ⟨B, 0, none⟩ (.slice ao' n' cap')) lo B ao' n' cap' hz l' :=
 ⟨fst_set h.b _, hr.keep h.b ⟨by decide, by decide, by decide, by decide⟩ grown_set, h.loB⟩
theorem fr_store {w : World} {lo B n cap : Nat} {ao : Option Addr} {hz : Int} {l : List ShT} (h : BIn w lo B ao n cap hz l) (i : Nat) (u : Value) : Fr lo w (w.setCell ⟨B, i, none⟩ u) :=
 Fr.grown grown_set h.loB (by have := h.loB; have := lt_of_block h.b; omega) h.b (.inr rfl)
theorem RowS.lower {w : World} {lo lo' n : Nat} {v : Value} {l : List ShT} (h : RowS w lo v n l) (hl : lo' ≤ lo) : RowS w lo' v n l := ⟨own_lower h.own hl, fun x hx => (h.shs x hx).lower hl⟩
theorem Tryz.infoShelfE : (Tryz.prog.info? 59).map (fun i => (i.zero, i.size, i.bytes)) = some (some (.agg #[.slice none 0 0, .slice none 0 0, .slice none 0 0, .slice none 0 0, .int .i64 0, .int .i64 0, .int .i64 0, .int .i64 0, .int .i64 0]), 9, 136) := by kernel_rfl
set_option maxRecDepth 100000 in
set_option maxHeartbeats 4000000 in
theorem each_any (f : Grain.Shf → Grain.Shf × Int) (F : Nat) (caps : Array Value) (b : Bs) (hb : BInv b) (l : List ShT) (lo B n cap : Nat) (ao : Option Addr) (w : World) (hB : BIn w lo B ao n cap b.hz l) (hL : Lies l b.l)
  (hE : Hid (∀ (args : Array Value) (W : World), (callFunc F args).run Tryz.prog W = .ok (.enter F args) W))
  (hF : ∀ (W : World) (x : ShT), Below w.heap.size w W → ShIn W x → Calls Tryz.prog F (#[x.v] ++ caps) W (ShPost W (f x.s))) :
  Calls Tryz.prog 96 #[.pointer (some ⟨B, 0, none⟩), .func (.func F) #[] caps] w (EcPost b (eachB f b.l) lo B w) := by
 obtain ⟨i0, hi, hz0, hz1, hz2⟩ := sinfo_parts Tryz.infoShelfE
 have hn := hB.row.len
 have hl := hL.len
 have h8 := hb.len
 have n8 : n ≤ 8 := by omega
 have hlw : B < w.heap.size := lt_of_block hB.b
 have HF := hide hF
 have HN := hide hn
 have HL := hide hL
 have HB := hide hB
 have HH := hide hl
 obtain ⟨p0, p1, p2, p3⟩ := two_cells hB.b
 clear hn hl hF hL h8 hB
 go_enter Tryz.func96, Tryz.ntmps96
 go_wp2_with (at_make; refine wpList_make_own _ rfl _ _ 24 rfl w.heap.size 59 i0 (.agg #[.slice none 0 0, .slice none 0 0, .slice none 0 0, .slice none 0 0, .int .i64 0, .int .i64 0, .int .i64 0, .int .i64 0, .int .i64 0]) 9 Tryz.underlying24 hi hz0 hz1 .i64 .i64 _ n rfl rfl rfl (by rw [hz2]; omega) (by unfold maxLen; omega) (by simp) ?_)
 intro w4 own4 gr4
 have b4 : Below w.heap.size w w4 := (Below.refl _ _).grown gr4 (by simp) (fun k hk => by cases hk)
 have B4 := below_block b4 HB.out.b
 obtain ⟨r0, r1, r2, r3⟩ := two_cells B4
 have own4' : RowS w4 w.heap.size (.slice (some ⟨w.heap.size, 0, none⟩) 0 n) 0 [] := ⟨own4, fun x hx => by cases hx⟩
 clear gr4 p0 p1 p2 p3 own4
 go_wp2
 go_loopw [5, 23] (fun out i wr => ∃ (k N d : Nat) (co : Option Addr) (ys : List ShT) (r : List Kp), k ≤ n ∧ i = .int .i64 k ∧ out = .slice co N d ∧ N ≤ k ∧ RowS wr w.heap.size (.slice co N d) N ys ∧ Hid (eachB f (b.l.take k) = .ok r) ∧ Hid (Lies ys r) ∧ Below w.heap.size w wr) (fun _ i _ => n - (intOf i).toNat)
 case atStart => exact ⟨0, 0, n, some ⟨w.heap.size, 0, none⟩, [], [], Nat.zero_le _, rfl, rfl, Nat.le_refl _, own4', rfl, rfl, b4⟩
 case round =>
  obtain ⟨k, N, d, co, ys, r, hk, rfl, rfl, hNk, row, HR, HY, bel⟩ := hrel
  clear own4' b4 B4 r0 r1 r2 r3
  have hsz := bel.size
  by_cases hlt : k < n
  ·have hkl : k < l.length := by rw [← HN.out]; exact hlt
   obtain ⟨bb, off, rfl, hbb, hcell⟩ := seg_shelf HB.out.row.seg hkl
   obtain ⟨x, hx⟩ : ∃ x, x = sht l k := ⟨_, rfl⟩
   have c9 : Cells9 wr bb (off + k * 9) x := by rw [hx]; exact (hcell _ hkl).below bel hbb
   obtain ⟨q0, q1, q2, q3, q4, q5, q6, q7, q8⟩ := c9
   have HX : Hid (ShIn w x) := by rw [hx]; exact (HB.out.row.shs _ (sht_mem hkl)).shIn
   have HXs : Hid (x.s = (kp b.l k).s) := by show _ = _; rw [hx]; exact HL.out.at hkl
   have hkb : k < b.l.length := by rw [← HH.out]; exact hkl
   have HR2 : Hid (eachB f (b.l.take (k + 1)) = if (f x.s).2 = 0 then .ok (r ++ [⟨(f x.s).1, (kp b.l k).A⟩]) else .error (f x.s).2) := by
    show _ = _
    rw [kp_take hkb, eachB_snoc, HR.out, HXs.out]
   obtain ⟨V, hV⟩ : ∃ V, V = wr.alloc (.cells #[.slice x.a0 x.s.se.length x.c0, .slice x.a1 x.s.ra.length x.c1, .slice x.a2 x.s.fi.length x.c2, .slice x.a3 x.s.co.length x.c3, .int .i64 x.s.rf, .int .i64 x.s.ff, .int .i64 x.s.ft, .int .i64 x.s.cf, .int .i64 x.s.ct] 59) := ⟨_, rfl⟩
   have bV : Below wr.heap.size wr V := by rw [hV]; exact (Below.refl _ _).alloc (Nat.le_refl _) _
   have belV : Below w.heap.size w V := bel.trans (bV.mono hsz)
   have P := hide (HF.out V x belV (HX.out.below belV))
   have rowV := row.below bV
   have HV := hide hV
   unfold ShT.v at P
   obtain ⟨R, hR⟩ : ∃ R, R = f x.s := ⟨_, rfl⟩
   rw [← hR] at P HR2
   clear hx hcell hkl HXs hV row bel hR HX HR bV
   go_wp2_with fail
   rw [← HV.out]
   rw [hE.out, Oper.upon_enter]
   refine P.out.mono ?_
   rintro e w1 ⟨y, rfl, hy, oy, b1⟩
   have bel1 : Below w.heap.size w w1 := belV.trans (b1.mono belV.size)
   have row1 := rowV.below b1
   obtain ⟨E, hEE⟩ : ∃ E, E = R.2 := ⟨_, rfl⟩
   rw [← hEE] at HR2 ⊢
   have HYs := hide hy
   have oy' : ShO w.heap.size w1 y := oy.lower belV.size
   clear P hy oy hEE rowV belV q0 q1 q2 q3 q4 q5 q6 q7 q8
   unfold ShT.v
   have bA : Below w1.heap.size w1 (w1.alloc (.cells #[.slice y.a0 y.s.se.length y.c0, .slice y.a1 y.s.ra.length y.c1, .slice y.a2 y.s.fi.length y.c2, .slice y.a3 y.s.co.length y.c3, .int .i64 y.s.rf, .int .i64 y.s.ff, .int .i64 y.s.ft, .int .i64 y.s.cf, .int .i64 y.s.ct] 59)) := (Below.refl _ _).alloc (Nat.le_refl _) _
   by_cases h0 : E = 0
   ·subst h0
    have HR3 : Hid (eachB f (b.l.take (k + 1)) = .ok (r ++ [⟨R.1, (kp b.l k).A⟩])) := by
     show _ = _; rw [HR2.out]; simp
    have bB : Below w1.heap.size w1 ((w1.alloc (.cells #[.slice y.a0 y.s.se.length y.c0, .slice y.a1 y.s.ra.length y.c1, .slice y.a2 y.s.fi.length y.c2, .slice y.a3 y.s.co.length y.c3, .int .i64 y.s.rf, .int .i64 y.s.ff, .int .i64 y.s.ft, .int .i64 y.s.cf, .int .i64 y.s.ct] 59)).alloc (.cells #[.slice y.a0 y.s.se.length y.c0, .slice y.a1 y.s.ra.length y.c1, .slice y.a2 y.s.fi.length y.c2, .slice y.a3 y.s.co.length y.c3, .int .i64 y.s.rf, .int .i64 y.s.ff, .int .i64 y.s.ft, .int .i64 y.s.cf, .int .i64 y.s.ct] 59)) := bA.alloc (by simp) _
    have rowB := row1.below bB
    have oyB : ShO w.heap.size _ y := oy'.below bB
    have bel2 := below_step bB bel1
    have HNB : Hid (∀ j u, y.cells[j]? = some u → ((w1.alloc (.cells #[.slice y.a0 y.s.se.length y.c0, .slice y.a1 y.s.ra.length y.c1, .slice y.a2 y.s.fi.length y.c2, .slice y.a3 y.s.co.length y.c3, .int .i64 y.s.rf, .int .i64 y.s.ff, .int .i64 y.s.ft, .int .i64 y.s.cf, .int .i64 y.s.ct] 59)).alloc (.cells #[.slice y.a0 y.s.se.length y.c0, .slice y.a1 y.s.ra.length y.c1, .slice y.a2 y.s.fi.length y.c2, .slice y.a3 y.s.co.length y.c3, .int .i64 y.s.rf, .int .i64 y.s.ff, .int .i64 y.s.ft, .int .i64 y.s.cf, .int .i64 y.s.ct] 59)).cell? ((⟨w1.heap.size + 1, 0, none⟩ : Addr).add j) = some u) := by
     refine seg_news ?_
     have := seg_new (w1.alloc (.cells #[.slice y.a0 y.s.se.length y.c0, .slice y.a1 y.s.ra.length y.c1, .slice y.a2 y.s.fi.length y.c2, .slice y.a3 y.s.co.length y.c3, .int .i64 y.s.rf, .int .i64 y.s.ff, .int .i64 y.s.ft, .int .i64 y.s.cf, .int .i64 y.s.ct] 59)) #[.slice y.a0 y.s.se.length y.c0, .slice y.a1 y.s.ra.length y.c1, .slice y.a2 y.s.fi.length y.c2, .slice y.a3 y.s.co.length y.c3, .int .i64 y.s.rf, .int .i64 y.s.ff, .int .i64 y.s.ft, .int .i64 y.s.cf, .int .i64 y.s.ct] 59
     simpa [ShT.cells] using this
    have H1 := hide (shc_one y)
    have hs1 : w.heap.size ≤ w1.heap.size := bel1.size
    clear HR2 bA row1 oy'
    go_wp2_with (at_builtin; refine wpList_append_lies _ rfl _ _ 24 rfl w.heap.size 59 i0 (.agg #[.slice none 0 0, .slice none 0 0, .slice none 0 0, .slice none 0 0, .int .i64 0, .int .i64 0, .int .i64 0, .int .i64 0, .int .i64 0]) 9 136 Tryz.underlying24 hi hz0 hz1 hz2 rfl (by decide) _ _ _ rfl rowB.own ⟨w1.heap.size + 1, 0, none⟩ 1 1 y.cells rfl rfl HNB.out H1.out (by decide) (by unfold maxLen; omega) (by omega) (by simp; omega) (w1.heap.size + 1 + 1) (by simp) ?_)
    intro g' cp' wz ownZ grZ hatZ hltZ
    have rowZ := rowB.push oyB ownZ grZ
    have belZ : Below w.heap.size w wz := bel2.grown grZ (by simp; omega) (fun j hj => (own_base rowB.own j hj).1)
    have HY2 : Hid (Lies (ys ++ [y]) (r ++ [⟨R.1, (kp b.l k).A⟩])) := by
     show Lies _ _
     have := HY.out
     unfold Lies at this ⊢
     rw [List.map_append, List.map_append, this]; simp [HYs.out]
    clear rowB oyB ownZ grZ hatZ hltZ HNB HY bB bel2
    go_wp2
    go_roundw
    case rel => exact ⟨k + 1, N + 1, cp', _, _, _, by omega, by go_num, rfl, by omega, rowZ, HR3, HY2, belZ⟩
    case measure => simp [intOf]; omega
   ·have hne : (E != 0) = true := by simpa using h0
    have HE3 : Hid (eachB f b.l = .error E) := by
     have h1 : eachB f (b.l.take (k + 1)) = .error E := by rw [HR2.out, if_neg h0]
     have h2 := eachB_err h1 (b.l.drop (k + 1))
     rwa [List.take_append_drop] at h2
    have H0 := hide h0
    have FIN : Hid (EcPost b (eachB f b.l) lo B w (.returned (.int .i64 E)) (w1.alloc (.cells #[.slice y.a0 y.s.se.length y.c0, .slice y.a1 y.s.ra.length y.c1, .slice y.a2 y.s.fi.length y.c2, .slice y.a3 y.s.co.length y.c3, .int .i64 y.s.rf, .int .i64 y.s.ff, .int .i64 y.s.ft, .int .i64 y.s.cf, .int .i64 y.s.ct] 59))) := by
     have bz := below_step bA bel1
     exact .inl ⟨E, _, _, _, _, H0.out, HE3.out, rfl, HB.out.below bz, HL.out, Fr.of bz (by have := HB.out.loB; omega)⟩
    clear h0 HR2 row1 oy' HY HYs bA
    go_wp2
    go_ret
    exact FIN.out
  ·have he : k = n := by omega
   subst he
   have HE3 : Hid (eachB f b.l = .ok r) := by
    show _ = _
    rw [← HR.out, List.take_of_length_le (by rw [← HH.out, ← HN.out]; omega)]
   have B5 := HB.out.below bel
   obtain ⟨r0, r1, r2, r3⟩ := two_cells B5.b
   have FIN : Hid (EcPost b (eachB f b.l) lo B w (.returned (.int .i64 0)) (wr.setCell ⟨B, 0, none⟩ (.slice co N d))) := by
    exact .inr ⟨r, _, _, _, _, HE3.out, rfl, bin_store B5 (row.lower (by have := HB.out.loB; omega)), HY.out, (Fr.of bel (by have := HB.out.loB; omega)).trans (fr_store B5 0 _)⟩
   clear HR HE3 HY row
   go_wp2
   go_ret
   exact FIN.out
end Go.Proofs.YtoldmigappbjcaaGreatDoor
