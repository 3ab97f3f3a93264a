import Derived.Test.YtoldmigappbjcaaGreatDoorL42
import Derived.Test.YtoldmigappbjcaaGreatDoorL44
import Derived.Test.YtoldmigappbjcaaGreatDoorL46
namespace Go.Proofs.YtoldmigappbjcaaGreatDoor
open Go.RowKit Go.GrainU
theorem wrongS_four {s : Lb} (h : wrongS s = 0) : s.length ≤ 4 := by
 unfold wrongS at h
 by_cases h4 : 4 < s.length
 ·rw [if_pos h4] at h; simp at h
 ·omega
set_option maxRecDepth 100000 in
set_option maxHeartbeats 4000000 in
theorem btake_any (b : Bs) (hb : BInv b) (s : Lb) (t v : Int) (so' : Option Addr) (m c' : Nat) (l : List ShT) (lo B n cap : Nat) (ao : Option Addr) (w : World) (hB : BIn w lo B ao n cap b.hz l) (hL : Lies l b.l) (hs : Seg w so' (lcells s)) (hm : m = s.length) (hf : Fits s) (hnil : so' = none → m = 0 ∧ c' = 0) :
  Calls Tryz.prog 57 #[.pointer (some ⟨B, 0, none⟩), .slice so' m c', .agg #[.int .i64 t, .int .i64 v]] w (DPost (takeB b s t v) lo B w) := by
 obtain ⟨V, hV⟩ : ∃ V, V = w.alloc (.cells #[.int .i64 t, .int .i64 v] 34) := ⟨_, rfl⟩
 have bel : Below w.heap.size w V := by rw [hV]; exact (Below.refl _ _).alloc (Nat.le_refl _) _
 have T0 : V.heap[w.heap.size]? = some (.cells #[.int .i64 t, .int .i64 v] 34 (0, 0)) := by rw [hV]; exact heap_alloc_new w _
 have hlB : lo ≤ w.heap.size := by have := hB.loB; have := lt_of_block hB.b; omega
 have P1 := hide (nwrong_any s so' m c' V (hs.below bel) hm hf)
 obtain ⟨E, hE⟩ : ∃ E, E = wrongS s := ⟨_, rfl⟩
 have HT : Hid (takeB b s t v = if E ≠ 0 then (b, E) else if Grain.inR t v = false then (b, 3) else if t < b.hz then (b, 9) else if bhas b.l s = true then putB b (bpos b.l s) t v else putN b (bpos b.l s) s t v) := by
  show _ = _; rw [hE]; rfl
 have hm4 : E = 0 → m ≤ 4 := fun h => by rw [hm]; exact wrongS_four (by rw [← hE]; exact h)
 rw [← hE] at P1
 obtain ⟨z, hz⟩ : ∃ z, z = b.hz := ⟨_, rfl⟩
 have HB := hide hB
 have HL := hide hL
 have HM := hide hm
 have HZ := hide hz
 have HS := hide hs
 have HF := hide hf
 have HNI := hide hnil
 have HV := hide hV
 rw [← hz] at HT
 clear hV hB hL hm hz hE hs hf hnil
 go_enter Tryz.func57, Tryz.ntmps57
 go_wp2_with fail
 rw [← HV.out]
 refine P1.out.mono ?_
 rintro e w1 ⟨rfl, b1⟩
 have bel1 : Below w.heap.size w w1 := bel.trans (b1.mono bel.size)
 have T1 := below_block b1 T0
 clear P1 T0 b1
 by_cases h0 : E = 0
 ·have hm5 := hm4 h0
  clear hm4
  subst h0
  have HT1 : Hid (takeB b s t v = if Grain.inR t v = false then (b, 3) else if t < z then (b, 9) else if bhas b.l s = true then putB b (bpos b.l s) t v else putN b (bpos b.l s) s t v) := by
   show _ = _; rw [HT.out, if_neg (by simp)]
  clear HT
  obtain ⟨s0, s1, -, -⟩ := two_cells T1
  obtain ⟨W1, hW1⟩ : ∃ W, W = w1.alloc (.cells #[.int .i64 t, .int .i64 v] 34) := ⟨_, rfl⟩
  have hbW : Below w1.heap.size w1 W1 := by rw [hW1]; exact (Below.refl _ _).alloc (Nat.le_refl _) _
  have sg : Seg W1 (some ⟨w1.heap.size, 0, none⟩) (scells [(t, v)]) := by rw [hW1]; exact seg_new w1 _ _
  have HW1 := hide hW1
  clear hW1
  go_wp2_with fail
  rw [← HW1.out]
  refine (wrong_len [(t, v)] _ 1 1 W1 sg rfl).mono ?_
  rintro e w2 ⟨rfl, hb2⟩
  rw [Grain.wrong_one]
  have hb12 : Below w1.heap.size w1 w2 := hbW.trans (hb2.mono hbW.size)
  have bel2 : Below w.heap.size w w2 := bel1.trans (hb12.mono bel1.size)
  have T2 := below_block hb12 T1
  clear HW1 hb2 hbW hb12 sg T1 bel1 s0 s1
  cases hin : Grain.inR t v
  ·have FIN : Hid (DPost (takeB b s t v) lo B w (.returned (.int .i64 3)) (w2.alloc (.cells #[.int .i64 3, .int .i64 0] 43))) := by
    show DPost _ _ _ _ _ _
    rw [HT1.out, if_pos hin]
    have bz := bel2.alloc bel2.size (.cells #[.int .i64 3, .int .i64 0] 43)
    exact ⟨_, _, _, _, rfl, HB.out.below bz, HL.out, Fr.of bz hlB⟩
   clear HT1 hin
   rw [if_neg (by decide)]
   go_wp2
   exact bodyPost_ret (v := .int .i64 3) (by simp [results, Tryz.results57, go_sem]) rfl FIN.out
  ·have HT2 : Hid (takeB b s t v = if t < z then (b, 9) else if bhas b.l s = true then putB b (bpos b.l s) t v else putN b (bpos b.l s) s t v) := by
    show _ = _; rw [HT1.out, if_neg (by rw [hin]; decide)]
   obtain ⟨W2, hW2⟩ : ∃ W, W = w2.alloc (.cells #[.int .i64 0, .int .i64 0] 43) := ⟨_, rfl⟩
   have hbW : Below w2.heap.size w2 W2 := by rw [hW2]; exact (Below.refl _ _).alloc (Nat.le_refl _) _
   have bel3 : Below w.heap.size w W2 := bel2.trans (hbW.mono bel2.size)
   have T3 := below_block hbW T2
   have hB3 := HB.out.below bel3
   obtain ⟨q0, q1, -, -⟩ := two_cells hB3.b
   rw [← HZ.out] at q1
   obtain ⟨s0, s1, -, -⟩ := two_cells T3
   have p0 : W2.cell? ⟨w2.heap.size, 0, none⟩ = some (.int .i64 0) := by rw [hW2]; simp
   have HW2 := hide hW2
   rw [if_pos rfl]
   clear HT1 hin hW2 hbW T2 bel2
   go_upto_region 5 with fail
   rw [← HW2.out]
   by_cases ht : t < z
   ·have FIN : Hid (DPost (takeB b s t v) lo B w (.returned (.int .i64 9)) W2.drew) := by
     show DPost _ _ _ _ _ _
     rw [HT2.out, if_pos ht]
     have bz : Below w.heap.size w W2.drew := below_drewN bel3 1
     exact ⟨_, _, _, _, rfl, HB.out.below bz, HL.out, Fr.of bz hlB⟩
    clear HT2
    go_wp2_with fail
    go_region
    all_goals go_wp2
    all_goals exact bodyPost_ret (v := .int .i64 9) (by simp [results, Tryz.results57, go_sem]) rfl FIN.out
   ·have HT3 : Hid (takeB b s t v = if bhas b.l s = true then putB b (bpos b.l s) t v else putN b (bpos b.l s) s t v) := by
     show _ = _; rw [HT2.out, if_neg ht]
    have bz : Below w.heap.size w W2.drew := below_drewN bel3 1
    have hB4 := HB.out.below bz
    have P2 := hide (find_any b hb l s so' m c' lo B n cap ao W2.drew hB4 HL.out (HS.out.below bz) HM.out)
    have HQ : Hid (∀ w4, Below W2.drew.heap.size W2.drew w4 → bhas b.l s = true → Calls Tryz.prog 93 #[.pointer (some ⟨B, 0, none⟩), .int .i64 (bpos b.l s), .agg #[.int .i64 t, .int .i64 v]] w4 fun e w5 => ∃ x, e = .returned (.int .i64 x) ∧ DPost (takeB b s t v) lo B w e w5) := by
     intro w4 h4 hh
     have b4 := below_step h4 bz
     refine (bput_any b (bpos b.l s) t v l lo B n cap ao w4 (HB.out.below b4) HL.out (bhas_lt hh) hb.len).mono ?_
     rintro e w5 ⟨ao', n', cap', l', rfl, h1, h2, h3⟩
     refine ⟨_, rfl, ?_⟩
     rw [HT3.out, if_pos hh]
     exact ⟨_, _, _, _, rfl, h1, h2, (Fr.of b4 hlB).trans h3⟩
    have HQ2 : Hid (∀ w4, Below W2.drew.heap.size W2.drew w4 → bhas b.l s = false → Calls Tryz.prog 94 #[.pointer (some ⟨B, 0, none⟩), .int .i64 (bpos b.l s), .slice so' m c', .agg #[.int .i64 t, .int .i64 v]] w4 fun e w5 => ∃ x, e = .returned (.int .i64 x) ∧ DPost (takeB b s t v) lo B w e w5) := by
     intro w4 h4 hh
     have b4 := below_step h4 bz
     refine (bputn_any b (bpos b.l s) s t v so' m c' l lo B n cap ao w4 (HB.out.below b4) HL.out (bpos_le _ _) (HS.out.below b4) HM.out hm5 HF.out HNI.out).mono ?_
     rintro e w5 ⟨ao', n', cap', l', rfl, h1, h2, h3⟩
     refine ⟨_, rfl, ?_⟩
     rw [HT3.out, if_neg (by rw [hh]; decide)]
     exact ⟨_, _, _, _, rfl, h1, h2, (Fr.of b4 hlB).trans h3⟩
    have T4 : W2.drew.heap[w.heap.size]? = some (.cells #[.int .i64 t, .int .i64 v] 34 (0, 0)) := T3
    generalize bpos b.l s = p at P2 HQ HQ2
    generalize bhas b.l s = F at P2 HQ HQ2
    clear HT2 HT3 hB4 hb
    go_wp2_with fail
    go_region
    all_goals go_wp2_with fail
    all_goals refine P2.out.mono ?_
    all_goals rintro e w4 ⟨rfl, b4⟩
    all_goals have T5 := below_block b4 T4
    all_goals obtain ⟨r0, r1, -, -⟩ := two_cells T5
    all_goals cases F
    all_goals first
     | (have P3 := hide (HQ2.out w4 b4 rfl); clear P2 HQ HQ2; go_wp2_with fail; refine P3.out.mono ?_; rintro e w5 ⟨x, rfl, hD⟩; have HD := hide hD; clear hD P3; go_wp2; exact bodyPost_ret (v := .int .i64 x) (by simp [results, Tryz.results57, go_sem]) rfl HD.out)
     | (have P3 := hide (HQ.out w4 b4 rfl); clear P2 HQ HQ2; go_wp2_with fail; refine P3.out.mono ?_; rintro e w5 ⟨x, rfl, hD⟩; have HD := hide hD; clear hD P3; go_wp2; exact bodyPost_ret (v := .int .i64 x) (by simp [results, Tryz.results57, go_sem]) rfl HD.out)
 ·have hne : (E != 0) = true := by simpa using h0
  have FIN : Hid (DPost (takeB b s t v) lo B w (.returned (.int .i64 E)) w1) := by
   show DPost _ _ _ _ _ _
   rw [HT.out, if_pos h0]
   exact ⟨_, _, _, _, rfl, HB.out.below bel1, HL.out, Fr.of bel1 hlB⟩
  clear h0 HT hm4 hb
  go_wp2
  exact bodyPost_ret (v := .int .i64 E) (by simp [results, Tryz.results57, go_sem]) rfl FIN.out
open Go.RowKit Go.GrainU
set_option maxRecDepth 100000 in
set_option maxHeartbeats 4000000 in
theorem bforg_any (b : Bs) (hb : BInv b) (k t : Int) (l : List ShT) (lo B n cap : Nat) (ao : Option Addr) (w : World) (hB : BIn w lo B ao n cap b.hz l) (hL : Lies l b.l) :
  Calls Tryz.prog 59 #[.pointer (some ⟨B, 0, none⟩), .int .i64 k, .int .i64 t] w (DPost (forgB b k t) lo B w) := by
 obtain ⟨V, hV⟩ : ∃ V, V = (w.alloc (.cells #[.int .i64 k] 3)).alloc (.cells #[.int .i64 t] 3) := ⟨_, rfl⟩
 have bel : Below w.heap.size w V := by rw [hV]; exact ((Below.refl _ _).alloc (Nat.le_refl _) _).alloc (by simp) _
 have T0 : V.heap[w.heap.size]? = some (.cells #[.int .i64 k] 3 (0, 0)) := by rw [hV, Below.heap_alloc _ _ _ (by simp)]; exact heap_alloc_new w _
 have T1 : V.heap[w.heap.size + 1]? = some (.cells #[.int .i64 t] 3 (0, 0)) := by
  have := heap_alloc_new (w.alloc (.cells #[.int .i64 k] 3)) (.cells #[.int .i64 t] 3)
  rw [hV]; simpa using this
 have c0 : V.cell? ⟨w.heap.size, 0, none⟩ = some (.int .i64 k) := by simp [World.cell?, T0]
 have c1 : V.cell? ⟨w.heap.size + 1, 0, none⟩ = some (.int .i64 t) := by simp [World.cell?, T1]
 have hlB : lo ≤ w.heap.size := by have := hB.loB; have := lt_of_block hB.b; omega
 have HBV := hide (hB.below bel)
 have HL := hide hL
 have HV := hide hV
 have PT := hide (istime_any t V)
 by_cases hin : 0 ≤ t ∧ t ≤ 1000000
 ·rw [show decide (0 ≤ t ∧ t ≤ 1000000) = true from by simpa using hin] at PT
  by_cases hk : k = 0 ∨ k = 1 ∨ k = 2
  ·have hE := hide (enters (P := Tryz.prog) (f := 99) Tryz.func99 (by kernel_rfl) (by kernel_rfl))
   have P := hide (each_any (fun s => Grain.sforg s k t) 99 #[.pointer (some ⟨w.heap.size, 0, none⟩), .pointer (some ⟨w.heap.size + 1, 0, none⟩)] b hb l lo B n cap ao V HBV.out hL hE (fun W x hW hx => bforg1_any x k t w.heap.size (w.heap.size + 1) W hx (by have := below_block hW T0; simp [World.cell?, this]) (by have := below_block hW T1; simp [World.cell?, this])))
   have HR : Hid (forgB b k t = match eachB (fun s => Grain.sforg s k t) b.l with | .error x => (b, x) | .ok l => (⟨l, b.hz⟩, 0)) := by
    show _ = _
    unfold forgB
    rw [if_neg (by omega), if_pos hk]
    cases eachB (fun s => Grain.sforg s k t) b.l <;> rfl
   obtain ⟨z, hz⟩ : ∃ z, z = b.hz := ⟨_, rfl⟩
   have HFIN : Hid (∀ e w1, EcPost b (eachB (fun s => Grain.sforg s k t) b.l) lo B V e w1 → ∃ x, e = .returned (.int .i64 x) ∧ DPost (forgB b k t) lo B w e w1) := by
    intro e w1 hh
    rcases hh with ⟨x, ao', n', cap', l', hx, ho, rfl, hB', hL', hF'⟩ | ⟨r, ao', n', cap', l', ho, rfl, hB', hL', hF'⟩
    ·refine ⟨x, rfl, ?_⟩
     rw [HR.out, ho]
     exact ⟨_, _, _, _, rfl, hB', hL', (Fr.of bel hlB).trans hF'⟩
    ·refine ⟨0, rfl, ?_⟩
     rw [HR.out, ho]
     exact ⟨_, _, _, _, rfl, hB', hL', (Fr.of bel hlB).trans hF'⟩
   clear hV hL hb hB HR T0 T1 hz
   rcases hk with e | e | e
   all_goals
    have hkk := e
    subst e
    go_enter Tryz.func59, Tryz.ntmps59
    go_wp2_with fail
    rw [← HV.out]
    refine PT.out.mono ?_
    intro e w1 hh
    rw [hh.1, hh.2]
    clear hh PT
    go_wp2_with fail
    refine P.out.mono ?_
    intro e w1 hh
    obtain ⟨x, rfl, hD⟩ := HFIN.out e w1 hh
    have HD := hide hD
    clear hh P hD HFIN
    go_wp2
    exact bodyPost_ret (v := .int .i64 x) (by simp [results, Tryz.results59, go_sem]) rfl HD.out
  ·have FIN : Hid (DPost (forgB b k t) lo B w (.returned (.int .i64 1)) V) := by
    show DPost _ _ _ _ _ _
    have e : forgB b k t = (b, 1) := by unfold forgB; rw [if_neg (by omega), if_neg hk]
    rw [e]
    exact ⟨_, _, _, _, rfl, HBV.out, HL.out, Fr.of bel hlB⟩
   have k0 : (k != 0) = true := by simp; omega
   have k1 : (k != 1) = true := by simp; omega
   have k2 : (k != 2) = true := by simp; omega
   clear hin hL HL HBV hb hB hk T0 T1 hV
   go_enter Tryz.func59, Tryz.ntmps59
   go_wp2_with fail
   rw [← HV.out]
   refine PT.out.mono ?_
   intro e w1 hh
   rw [hh.1, hh.2]
   clear hh PT
   go_wp2
   exact bodyPost_ret (v := .int .i64 1) (by simp [results, Tryz.results59, go_sem]) rfl FIN.out
 ·rw [show decide (0 ≤ t ∧ t ≤ 1000000) = false from by simpa using hin] at PT
  have FIN : Hid (DPost (forgB b k t) lo B w (.returned (.int .i64 3)) V) := by
   show DPost _ _ _ _ _ _
   have e : forgB b k t = (b, 3) := by unfold forgB; rw [if_pos (by omega)]
   rw [e]
   exact ⟨_, _, _, _, rfl, HBV.out, HL.out, Fr.of bel hlB⟩
  clear hin hL HL HBV hb hB T0 T1 hV
  go_enter Tryz.func59, Tryz.ntmps59
  go_wp2_with fail
  rw [← HV.out]
  refine PT.out.mono ?_
  intro e w1 hh
  rw [hh.1, hh.2]
  clear hh PT
  go_wp2
  exact bodyPost_ret (v := .int .i64 3) (by simp [results, Tryz.results59, go_sem]) rfl FIN.out
open Go.RowKit Go.GrainU
structure DT where
 d : Dn
 sa : Option Addr
 sc : Nat
def DT.v (x : DT) : Value := .agg #[.int .i64 x.d.kind, .int .i64 x.d.tier, .int .i64 x.d.till, .slice x.sa x.d.se.length x.sc, .int .i64 x.d.t, .int .i64 x.d.v, .string x.d.tx]
structure DIn (w : World) (x : DT) : Prop where
 seg : Seg w x.sa (lcells x.d.se)
 fit : Fits x.d.se
 nil : x.sa = none → x.d.se.length = 0 ∧ x.sc = 0
 txs : x.d.tx.size ≤ 9223372036854775807
theorem DIn.below {w w' : World} {x : DT} (h : DIn w x) (hb : Below w.heap.size w w') : DIn w' x := ⟨h.seg.below hb, h.fit, h.nil, h.txs⟩
theorem BIn.keepO {w w' : World} {lo B n cap k : Nat} {ao : Option Addr} {hz : Int} {l : List ShT} {c : Array Value} {t : TypeId} {fr : Nat × Nat} (h : BIn w lo B ao n cap hz l) (hk : w.heap[k]? = some (.cells c t fr)) (ht : Other t) (ht2 : t ≠ 91) (hg : w.grownBy w' (some k)) : BIn w' lo B ao n cap hz l := by
 refine ⟨?_, h.row.keep hk ht hg, h.loB⟩
 rw [hg.block B (lt_of_block h.b) (fun e => by
  injection e with e
  subst e
  have h1 := h.b
  rw [hk] at h1
  injection h1 with h1
  injection h1 with _ h2 _
  exact ht2 h2)]
 exact h.b
theorem Fr.new {lo k : Nat} {w w1 w2 : World} (h : Fr lo w w1) (hg : w1.grownBy w2 (some k)) (hk : w.heap.size ≤ k) (hlo : lo ≤ w.heap.size) : Fr lo w w2 :=
  ⟨hg.os.trans h.os, hg.tape.trans h.tape, hg.output.trans h.output, Nat.le_trans h.size hg.size,
   fun i hi => (hg.block i (by have := h.size; omega) (fun e => by injection e with e; omega)).trans (h.low i hi),
   fun i c t fr hi h1 h2 => (hg.block i (by have := lt_of_block hi; have := h.size; omega) (fun e => by injection e with e; have := lt_of_block hi; omega)).trans (h.typ i c t fr hi h1 h2)⟩
def OPostB (r : Bs × An) (lo B : Nat) (w : World) (e : Ending) (w' : World) : Prop :=
 ∃ (y : AT) (ao : Option Addr) (n cap : Nat) (l : List ShT), e = .returned (.agg #[.int .i64 y.a.err, .int .i64 y.a.pos, .slice y.co y.cts.length y.cap, .int .i64 y.a.cost]) ∧ y.a = r.2 ∧ AnIn w' y ∧ BIn w' lo B ao n cap r.1.hz l ∧ Lies l r.1.l ∧ Fr lo w w'
set_option maxRecDepth 100000 in
set_option maxHeartbeats 4000000 in
theorem bdo_any (b : Bs) (hb : BInv b) (h5 : FewB 500 b) (x : DT) (l : List ShT) (lo B n cap : Nat) (ao : Option Addr) (w : World) (hB : BIn w lo B ao n cap b.hz l) (hL : Lies l b.l) (hx : DIn w x) (hv : ErrV w) :
  Calls Tryz.prog 35 #[.pointer (some ⟨B, 0, none⟩), x.v] w (OPostB (doB b x.d) lo B w) := by
 obtain ⟨⟨kd, tier, tl, se, t, v, tx⟩, sa, sc⟩ := x
 obtain ⟨seg, fit, nil, txs⟩ := hx
 simp only at seg fit nil txs
 obtain ⟨m, hm⟩ : ∃ m, m = se.length := ⟨_, rfl⟩
 obtain ⟨V, hV⟩ : ∃ V, V = (w.alloc (.cells #[.int .i64 kd, .int .i64 tier, .int .i64 tl, .slice sa m sc, .int .i64 t, .int .i64 v, .string tx] 36)).alloc (.cells #[.int .i64 0, .int .i64 0, .slice none 0 0, .int .i64 0] 48) := ⟨_, rfl⟩
 have bel : Below w.heap.size w V := by rw [hV]; exact ((Below.refl _ _).alloc (Nat.le_refl _) _).alloc (by simp) _
 have D0 : V.heap[w.heap.size]? = some (.cells #[.int .i64 kd, .int .i64 tier, .int .i64 tl, .slice sa m sc, .int .i64 t, .int .i64 v, .string tx] 36 (0, 0)) := by rw [hV, Below.heap_alloc _ _ _ (by simp)]; exact heap_alloc_new w _
 have R0 : V.heap[w.heap.size + 1]? = some (.cells #[.int .i64 0, .int .i64 0, .slice none 0 0, .int .i64 0] 48 (0, 0)) := by
  have := heap_alloc_new (w.alloc (.cells #[.int .i64 kd, .int .i64 tier, .int .i64 tl, .slice sa m sc, .int .i64 t, .int .i64 v, .string tx] 36)) (.cells #[.int .i64 0, .int .i64 0, .slice none 0 0, .int .i64 0] 48)
  rw [hV]; simpa using this
 have hlB : lo ≤ w.heap.size := by have := hB.loB; have := lt_of_block hB.b; omega
 have BV := hB.below bel
 have segV := seg.below bel
 have nil' : sa = none → m = 0 ∧ sc = 0 := by rw [hm]; exact nil
 have HE : Hid (∀ (r : Bs × Int) (e : Ending) (w1 : World), DPost r lo B V e w1 → ∃ E : Int, e = .returned (.int .i64 E) ∧ w1.heap[w.heap.size + 1]? = some (.cells #[.int .i64 0, .int .i64 0, .slice none 0 0, .int .i64 0] 48 (0, 0)) ∧
   Hid (doB b ⟨kd, tier, tl, se, t, v, tx⟩ = (r.1, ⟨r.2, 0, [], 0⟩) → OPostB (doB b ⟨kd, tier, tl, se, t, v, tx⟩) lo B w (.returned (.agg #[.int .i64 E, .int .i64 0, .slice none 0 0, .int .i64 0])) (Set4 w1 (w.heap.size + 1) (.int .i64 E) (.int .i64 0) (.slice none 0 0) (.int .i64 0)))) := by
  rintro r e w1 ⟨ao', n', cap', l', rfl, h1, h2, h3⟩
  have hR := (h3.typ _ _ _ _ R0 (by decide) (by decide)).trans R0
  refine ⟨r.2, rfl, hR, fun hd => ?_⟩
  rw [hd]
  have hg := set4_grown w1 (w.heap.size + 1) (.int .i64 r.2) (.int .i64 0) (.slice none 0 0) (.int .i64 0)
  exact ⟨⟨⟨r.2, 0, [], 0⟩, [], none, 0⟩, ao', n', cap', l', rfl, rfl, ⟨rfl, .inl rfl, fun c hc => (by cases hc), .inl rfl, fun c hc => (by cases hc)⟩, h1.keepO hR ⟨by decide, by decide, by decide, by decide⟩ (by decide) hg, h2, ((Fr.of bel hlB).trans h3).new hg (by omega) hlB⟩
 have P1 := hide (btake_any b hb se t v sa m sc l lo B n cap ao V BV hL segV hm fit nil')
 have P2 := hide (broll_any b hb tl l lo B n cap ao V BV hL)
 have P3 := hide (bforg_any b hb tier tl l lo B n cap ao V BV hL)
 have P4 := hide (bask_any b hb h5 tx tl l lo B n cap ao V BV hL txs (hv.below bel))
 have HD : Hid (doB b ⟨kd, tier, tl, se, t, v, tx⟩ = if kd = 1 then ((takeB b se t v).1, ⟨(takeB b se t v).2, 0, [], 0⟩)
  else if kd = 2 then ((rollB b tl).1, ⟨(rollB b tl).2, 0, [], 0⟩)
  else if kd = 3 then ((forgB b tier tl).1, ⟨(forgB b tier tl).2, 0, [], 0⟩)
  else if kd = 4 then (b, askB b tx tl)
  else (b, ⟨1, 0, [], 0⟩)) := rfl
 have HV := hide hV
 have HBV := hide BV
 have HB0 := hide hB
 have HL := hide hL
 have HR0 := hide R0
 obtain ⟨d0, d1, d2, d3, d4, d5, d6⟩ := seven_cells D0
 obtain ⟨r0, r1, r2, r3, f0, f1, f2, f3⟩ := four_cells R0
 unfold DT.v
 simp only
 rw [← hm]
 clear hV hm BV hB hL hb h5 seg segV nil nil' fit txs hv D0 R0
 by_cases k1 : kd = 1
 ·have HD1 : Hid (doB b ⟨kd, tier, tl, se, t, v, tx⟩ = ((takeB b se t v).1, ⟨(takeB b se t v).2, 0, [], 0⟩)) := by show _ = _; rw [HD.out, if_pos k1]
  subst k1
  clear HD P2 P3 P4
  go_enter Tryz.func35, Tryz.ntmps35
  go_wp2_with fail
  rw [← HV.out]
  refine P1.out.mono ?_
  intro e w1 hh
  obtain ⟨E, rfl, hR, FIN0⟩ := HE.out _ e w1 hh
  have FIN := hide (FIN0.out HD1.out)
  obtain ⟨r0, r1, r2, r3, f0, f1, f2, f3⟩ := four_cells hR
  clear hh P1 HE FIN0 hR HD1
  go_wp2
  exact bodyPost_ret (v := .agg #[.int .i64 E, .int .i64 0, .slice none 0 0, .int .i64 0]) (by simp [results, Tryz.results35, go_sem, r0, r1, r2, r3]) rfl FIN.out
 ·have n1 : (kd == 1) = false := by simpa using k1
  by_cases k2 : kd = 2
  ·have HD1 : Hid (doB b ⟨kd, tier, tl, se, t, v, tx⟩ = ((rollB b tl).1, ⟨(rollB b tl).2, 0, [], 0⟩)) := by show _ = _; rw [HD.out, if_neg k1, if_pos k2]
   subst k2
   clear HD P1 P3 P4 k1
   go_enter Tryz.func35, Tryz.ntmps35
   go_wp2_with fail
   rw [← HV.out]
   refine P2.out.mono ?_
   intro e w1 hh
   obtain ⟨E, rfl, hR, FIN0⟩ := HE.out _ e w1 hh
   have FIN := hide (FIN0.out HD1.out)
   obtain ⟨r0, r1, r2, r3, f0, f1, f2, f3⟩ := four_cells hR
   clear hh P2 HE FIN0 hR HD1
   go_wp2
   exact bodyPost_ret (v := .agg #[.int .i64 E, .int .i64 0, .slice none 0 0, .int .i64 0]) (by simp [results, Tryz.results35, go_sem, r0, r1, r2, r3]) rfl FIN.out
  ·have n2 : (kd == 2) = false := by simpa using k2
   by_cases k3 : kd = 3
   ·have HD1 : Hid (doB b ⟨kd, tier, tl, se, t, v, tx⟩ = ((forgB b tier tl).1, ⟨(forgB b tier tl).2, 0, [], 0⟩)) := by show _ = _; rw [HD.out, if_neg k1, if_neg k2, if_pos k3]
    subst k3
    clear HD P1 P2 P4 k1 k2
    go_enter Tryz.func35, Tryz.ntmps35
    go_wp2_with fail
    rw [← HV.out]
    refine P3.out.mono ?_
    intro e w1 hh
    obtain ⟨E, rfl, hR, FIN0⟩ := HE.out _ e w1 hh
    have FIN := hide (FIN0.out HD1.out)
    obtain ⟨r0, r1, r2, r3, f0, f1, f2, f3⟩ := four_cells hR
    clear hh P3 HE FIN0 hR HD1
    go_wp2
    exact bodyPost_ret (v := .agg #[.int .i64 E, .int .i64 0, .slice none 0 0, .int .i64 0]) (by simp [results, Tryz.results35, go_sem, r0, r1, r2, r3]) rfl FIN.out
   ·have n3 : (kd == 3) = false := by simpa using k3
    by_cases k4 : kd = 4
    ·have HD1 : Hid (doB b ⟨kd, tier, tl, se, t, v, tx⟩ = (b, askB b tx tl)) := by show _ = _; rw [HD.out, if_neg k1, if_neg k2, if_neg k3, if_pos k4]
     subst k4
     clear HD P1 P2 P3 k1 k2 k3 HE
     go_enter Tryz.func35, Tryz.ntmps35
     go_wp2_with fail
     rw [← HV.out]
     refine P4.out.mono ?_
     rintro e w1 ⟨y, rfl, hy, hin, b1⟩
     have hR := below_block b1 HR0.out
     have hg := set4_grown w1 (w.heap.size + 1) (.int .i64 y.a.err) (.int .i64 y.a.pos) (.slice y.co y.cts.length y.cap) (.int .i64 y.a.cost)
     have FIN : Hid (OPostB (doB b ⟨4, tier, tl, se, t, v, tx⟩) lo B w (.returned (.agg #[.int .i64 y.a.err, .int .i64 y.a.pos, .slice y.co y.cts.length y.cap, .int .i64 y.a.cost])) (Set4 w1 (w.heap.size + 1) (.int .i64 y.a.err) (.int .i64 y.a.pos) (.slice y.co y.cts.length y.cap) (.int .i64 y.a.cost))) := by
      show OPostB _ _ _ _ _ _
      rw [HD1.out]
      exact ⟨y, ao, n, cap, l, rfl, hy, ⟨hin.cs, csin_keep hin.inn hR (by decide) (by decide) hg⟩, (HBV.out.below b1).keepO hR ⟨by decide, by decide, by decide, by decide⟩ (by decide) hg, HL.out, ((Fr.of bel hlB).trans (Fr.of b1 (Nat.le_trans hlB bel.size))).new hg (by omega) hlB⟩
     unfold AT.v
     obtain ⟨r0, r1, r2, r3, f0, f1, f2, f3⟩ := four_cells hR
     generalize y.a.err = y0 at FIN ⊢
     generalize y.a.pos = y1 at FIN ⊢
     generalize y.cts.length = y2 at FIN ⊢
     generalize y.a.cost = y3 at FIN ⊢
     clear P4 HD1 hR hg hy hin
     go_wp2
     exact bodyPost_ret (v := .agg #[.int .i64 y0, .int .i64 y1, .slice y.co y2 y.cap, .int .i64 y3]) (by simp [results, Tryz.results35, go_sem, r0, r1, r2, r3]) rfl FIN.out
    ·have n4 : (kd == 4) = false := by simpa using k4
     have HD1 : Hid (doB b ⟨kd, tier, tl, se, t, v, tx⟩ = (b, ⟨1, 0, [], 0⟩)) := by show _ = _; rw [HD.out, if_neg k1, if_neg k2, if_neg k3, if_neg k4]
     have FIN : Hid (OPostB (doB b ⟨kd, tier, tl, se, t, v, tx⟩) lo B w (.returned (.agg #[.int .i64 1, .int .i64 0, .slice none 0 0, .int .i64 0])) ((w.alloc (.cells #[.int .i64 kd, .int .i64 tier, .int .i64 tl, .slice sa m sc, .int .i64 t, .int .i64 v, .string tx] 36)).alloc (.cells #[.int .i64 1, .int .i64 0, .slice none 0 0, .int .i64 0] 48))) := by
      show OPostB _ _ _ _ _ _
      rw [HD1.out]
      have bz : Below w.heap.size w ((w.alloc (.cells #[.int .i64 kd, .int .i64 tier, .int .i64 tl, .slice sa m sc, .int .i64 t, .int .i64 v, .string tx] 36)).alloc (.cells #[.int .i64 1, .int .i64 0, .slice none 0 0, .int .i64 0] 48)) := ((Below.refl _ _).alloc (Nat.le_refl _) _).alloc (by simp) _
      exact ⟨⟨⟨1, 0, [], 0⟩, [], none, 0⟩, ao, n, cap, l, rfl, rfl, ⟨rfl, .inl rfl, fun c hc => (by cases hc), .inl rfl, fun c hc => (by cases hc)⟩, HB0.out.below bz, HL.out, Fr.of bz hlB⟩
     clear HD HD1 P1 P2 P3 P4 k1 k2 k3 k4 HE HBV HL HB0 d0 d1 d2 d3 d4 d5 d6 r0 r1 r2 r3 f0 f1 f2 f3
     go_enter Tryz.func35, Tryz.ntmps35
     go_wp2
     exact bodyPost_ret (v := .agg #[.int .i64 1, .int .i64 0, .slice none 0 0, .int .i64 0]) (by simp [results, Tryz.results35, go_sem]) rfl FIN.out
end Go.Proofs.YtoldmigappbjcaaGreatDoor
