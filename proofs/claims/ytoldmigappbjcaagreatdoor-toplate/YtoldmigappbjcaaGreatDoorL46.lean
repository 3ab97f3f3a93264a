import Derived.Deep.CutRange
import Derived.Deep.RegionHeld3
import Derived.Deep.RegionWith
import Derived.Test.YtoldmigappbjcaaGreatDoorL42
import Derived.Test.YtoldmigappbjcaaGreatDoorL45
namespace Go.Proofs.YtoldmigappbjcaaGreatDoor
open Go.RowKit Go.GrainU
def AP (V : World) (r : Grain.Shf) (Y : Nat) (wx : World) : Prop := ∃ y : ShT, wx.heap[Y]? = some (so y) ∧ ShO V.heap.size wx y ∧ Hid (y.s = r) ∧ Below V.heap.size V wx ∧ V.heap.size ≤ Y
theorem AP.bel {V wx : World} {r : Grain.Shf} {Y : Nat} (h : AP V r Y wx) : Below V.heap.size V wx := by
 obtain ⟨y, _, _, _, b, _⟩ := h
 exact b
def QA (V W : World) (r : Grain.Shf × Int) (e : Ending) (w1 : World) : Prop :=
 ∃ y : ShT, e = .returned (.tuple #[.agg #[.slice y.a0 y.s.se.length y.c0, .slice y.a1 y.s.ra.length y.c1, .slice y.a2 y.s.fi.length y.c2, .slice y.a3 y.s.co.length y.c3, .int .i64 y.s.rf, .int .i64 y.s.ff, .int .i64 y.s.ft, .int .i64 y.s.cf, .int .i64 y.s.ct], .int .i64 r.2]) ∧ AP V r.1 w1.heap.size (w1.alloc (.cells #[.slice y.a0 y.s.se.length y.c0, .slice y.a1 y.s.ra.length y.c1, .slice y.a2 y.s.fi.length y.c2, .slice y.a3 y.s.co.length y.c3, .int .i64 y.s.rf, .int .i64 y.s.ff, .int .i64 y.s.ft, .int .i64 y.s.cf, .int .i64 y.s.ct] 59)) ∧
  (∀ Y, V.heap.size ≤ Y → W.heap[Y]? = some (so szT) → w1.heap[Y]? = some (so szT) ∧ AP V r.1 Y (Set9 w1 Y (.slice y.a0 y.s.se.length y.c0) (.slice y.a1 y.s.ra.length y.c1) (.slice y.a2 y.s.fi.length y.c2) (.slice y.a3 y.s.co.length y.c3) (.int .i64 y.s.rf) (.int .i64 y.s.ff) (.int .i64 y.s.ft) (.int .i64 y.s.cf) (.int .i64 y.s.ct))) ∧ Below V.heap.size V w1
theorem qa_of {V W w1 : World} {r : Grain.Shf × Int} {e : Ending} (hW : Below V.heap.size V W) (h : ShPost W r e w1) : QA V W r e w1 := by
 obtain ⟨y, rfl, hy, oy, b1⟩ := h
 have oz : ShO V.heap.size w1 y := oy.lower hW.size
 have h1 : Below V.heap.size V w1 := hW.trans (b1.mono hW.size)
 refine ⟨y, rfl, ⟨y, heap_alloc_new _ _, oz.below ((Below.refl _ _).alloc (Nat.le_refl _) _), hy, h1.alloc h1.size _, h1.size⟩, fun Y hY hZ => ?_, h1⟩
 have Z := below_block b1 hZ
 have og : w1.grownBy (Set9 w1 Y (.slice y.a0 y.s.se.length y.c0) (.slice y.a1 y.s.ra.length y.c1) (.slice y.a2 y.s.fi.length y.c2) (.slice y.a3 y.s.co.length y.c3) (.int .i64 y.s.rf) (.int .i64 y.s.ff) (.int .i64 y.s.ft) (.int .i64 y.s.cf) (.int .i64 y.s.ct)) (some Y) := by
  have := put9_grown w1 Y 0 y
  simpa [Put9, Set9] using this
 refine ⟨Z, y, ?_, oz.keep og (fun k e => by injection e with e; subst e; exact ⟨_, _, _, Z, by decide, by decide, by decide⟩), hy, h1.grown og h1.size (fun k hk => by injection hk with hk; omega), hY⟩
 unfold so at Z
 simp [Set9, World.setCell, Array.getElem?_modify, Z, so]
theorem own_shelf {w : World} {lo n : Nat} {v : Value} {xs : List Value} (h : w.ownsRow lo 59 9 v n xs) : ∀ k, v.ownBlock = some k → ∃ (c : Array Value) (t : TypeId) (fr : Nat × Nat), w.heap[k]? = some (.cells c t fr) ∧ t ≠ 88 ∧ t ≠ 34 ∧ t ≠ 145 := fun k e => by
 rcases h.2 with ⟨h2, _⟩ | ⟨g, c, cur, hv, _, hh, _⟩
 ·rw [h2] at e; simp [Value.ownBlock] at e
 ·rw [hv] at e
  simp [Value.ownBlock] at e
  subst e
  exact ⟨cur, _, _, hh, by decide, by decide, by decide⟩
theorem RowS.ins {w w' : World} {lo N d g' d' p : Nat} {co : Option Addr} {l : List ShT} {y : ShT} (h : RowS w lo (.slice co N d) N l) (hy : ShO lo w y) (own : w'.ownsRow lo 59 9 (.slice (some ⟨g', 0, none⟩) (N + 1) d') (N + 1) ((vcells l).take (p * 9) ++ (y.cells ++ (vcells l).drop (p * 9)))) (gr : w.grownBy w' (Value.slice co N d).ownBlock) : RowS w' lo (.slice (some ⟨g', 0, none⟩) (N + 1) d') (N + 1) (l.take p ++ [y] ++ l.drop p) := by
 have hr := own_shelf h.own
 refine ⟨?_, fun x hx => ?_⟩
 ·rw [List.append_assoc, vcells_append, vcells_append, vcells_take, vcells_drop]
  simpa [vcells] using own
 ·rcases List.mem_append.1 hx with e | e
  ·rcases List.mem_append.1 e with e | e
   ·exact (h.shs x (List.mem_of_mem_take e)).keep gr hr
   ·simp at e; rw [e]; exact hy.keep gr hr
  ·exact (h.shs x (List.mem_of_mem_drop e)).keep gr hr
theorem own_other {w w' : World} {lo N k : Nat} {v : Value} {xs : List Value} {c : Array Value} {t : TypeId} {fr : Nat × Nat} (h : w.ownsRow lo 59 9 v N xs) (gr : w.grownBy w' v.ownBlock) (hk : w.heap[k]? = some (.cells c t fr)) (ht : t ≠ 59) : w'.heap[k]? = some (.cells c t fr) := by
 rw [gr.block k (lt_of_block hk) (fun e => own_far h hk ht e.symm)]; exact hk
theorem fr_row {w w' : World} {lo N : Nat} {v : Value} {xs : List Value} (h : w.ownsRow lo 59 9 v N xs) (gr : w.grownBy w' v.ownBlock) (hlo : lo ≤ w.heap.size) : Fr lo w w' := by
 cases hv : v.ownBlock with
 | none => rw [hv] at gr; exact Fr.grown0 gr hlo
 | some g =>
  rw [hv] at gr
  have h1 := own_base h g hv
  obtain ⟨cur, hh⟩ : ∃ cur, w.heap[g]? = some (.cells cur 59 (0, 0)) := by
   rcases h.2 with ⟨h2, _⟩ | ⟨g', c, cur, hv', _, hh, _⟩
   ·rw [h2] at hv; simp [Value.ownBlock] at hv
   ·rw [hv'] at hv
    simp [Value.ownBlock] at hv
    subst hv
    exact ⟨cur, hh⟩
  exact Fr.grown gr h1.1 hlo hh (.inl rfl)
open Go.RowKit Go.GrainU
set_option maxRecDepth 100000 in
set_option maxHeartbeats 4000000 in
theorem bput_any (b : Bs) (i : Nat) (t v : Int) (l : List ShT) (lo B n cap : Nat) (ao : Option Addr) (w : World) (hB : BIn w lo B ao n cap b.hz l) (hL : Lies l b.l) (hi : i < b.l.length) (h8 : b.l.length ≤ 8) :
  Calls Tryz.prog 93 #[.pointer (some ⟨B, 0, none⟩), .int .i64 i, .agg #[.int .i64 t, .int .i64 v]] w (DPost (putB b i t v) lo B w) := by
 have hn := hB.row.len
 have hil : i < l.length := by rw [hL.len]; exact hi
 have hin : i < n := by omega
 have hn8 : n ≤ 8 := by rw [hn, hL.len]; exact h8
 obtain ⟨g, rfl⟩ : ∃ g, ao = some ⟨g, 0, none⟩ := by
  rcases hB.row.own.2 with ⟨_, h2⟩ | ⟨g, c, cur, hv, _⟩
  ·omega
  ·injection hv with e1 _ _
   exact ⟨g, e1⟩
 obtain ⟨V, hV⟩ : ∃ V, V = w.alloc (.cells #[.int .i64 t, .int .i64 v] 34) := ⟨_, rfl⟩
 have bel : Below w.heap.size w V := by rw [hV]; exact (Below.refl _ _).alloc (Nat.le_refl _) _
 have T0 : V.heap[w.heap.size]? = some (.cells #[.int .i64 t, .int .i64 v] 34 (0, 0)) := by rw [hV]; exact heap_alloc_new w _
 have hlB : lo ≤ w.heap.size := by have := hB.loB; have := lt_of_block hB.b; omega
 have BV := hB.below bel
 obtain ⟨x, hx⟩ : ∃ x, x = sht l i := ⟨_, rfl⟩
 have HXs : Hid (x.s = (kp b.l i).s) := by show _ = _; rw [hx]; exact hL.at hil
 have c9 : Cells9 V g (i * 9) x := by
  obtain ⟨bb, off, e, _, hc⟩ := seg_shelf BV.row.seg hil
  injection e with e
  injection e with e1 e2 _
  have := hc i hil
  rw [← e1, ← e2, Nat.zero_add] at this
  rw [hx]; exact this
 have hgl : g < V.heap.size := World.block_lt_of_cell? V _ c9.1
 have hxV : ShIn V x := by rw [hx]; exact (BV.row.shs _ (sht_mem hil)).shIn
 have HP : Hid (∀ W : World, Below V.heap.size V W → Calls Tryz.prog 127 #[x.v, .agg #[.int .i64 t, .int .i64 v]] W (QA V W (Grain.sapp x.s t v))) := fun W hW => (sapp_any x t v W (hxV.below hW)).mono fun e w1 h => qa_of hW h
 obtain ⟨R, hR⟩ : ∃ R, R = Grain.sapp x.s t v := ⟨_, rfl⟩
 have HC : Hid (∀ W, Below V.heap.size V W → (W.cell? ⟨B, 0, none⟩ = some (.slice (some ⟨g, 0, none⟩) n cap) ∧ Cells9 W g (i * 9) x ∧ W.cell? ⟨w.heap.size, 0, none⟩ = some (.int .i64 t) ∧ W.cell? ⟨w.heap.size, 1, none⟩ = some (.int .i64 v))) := by
  intro W hW
  have h1 := below_block hW BV.b
  have h2 := below_block hW T0
  exact ⟨by simp [World.cell?, h1], c9.below hW hgl, by simp [World.cell?, h2], by simp [World.cell?, h2]⟩
 have HR : Hid (putB b i t v = if R.2 = 0 then (⟨b.l.set i ⟨R.1, (kp b.l i).A ++ [(t, v)]⟩, b.hz⟩, 0) else (b, R.2)) := by
  show _ = _
  rw [hR, HXs.out]; rfl
 rw [← hR] at HP
 have HV := hide hV
 have HBV := hide BV
 have HL := hide hL
 have HI := hide hil
 obtain ⟨q, c9', s0, s1⟩ := HC.out V (Below.refl _ _)
 obtain ⟨q0, q1, q2, q3, q4, q5, q6, q7, q8⟩ := c9'
 unfold ShT.v at HP
 have hi' : (i : Int) < (n : Int) := by omega
 clear hV hB hL hn hil hx HXs c9 hxV hR BV T0 hi h8
 have hws : w.heap.size < V.heap.size := by rw [HV.out]; simp
 have hBs : B < V.heap.size := lt_of_block HBV.out.b
 have BD : Below V.heap.size V V.drew := below_drewN (Below.refl _ _) 1
 have BD2 : ∀ o, Below V.heap.size V (V.drew.alloc o) := fun o => BD.alloc (Nat.le_refl _) _
 have BD3 : ∀ o, Below V.heap.size V (V.alloc o).drew := fun o => below_drewN ((Below.refl _ _).alloc (Nat.le_refl _) _) 1
 go_enter Tryz.func93, Tryz.ntmps93
 go_upto_region 1 with fail
 rw [← HV.out]
 go_cut [7, 8] from 10 to 22 (fun v7 v8 wx => ∃ Y : Nat, v7 = .pointer (some ⟨Y, 0, none⟩) ∧ v8 = .int .i64 R.2 ∧ AP V R.1 Y wx)
 case first =>
  go_region_with
   (first
    | (go_at_call 127; refine (HP.out _ BD).mono ?_; rintro e w1 ⟨y, rfl, hA, -⟩; have HA := hide hA; clear hA)
    | (go_at_call 127; refine (HP.out _ (BD3 _)).mono ?_; rintro e w1 ⟨y, rfl, -, hA, -⟩; obtain ⟨Z, hA⟩ := hA _ (Nat.le_refl _) (heap_alloc_new V _); have HA := hide hA; obtain ⟨z0, z1, z2, z3, z4, z5, z6, z7, z8⟩ := nine_cells Z; obtain ⟨y0, y1, y2, y3, y4, y5, y6, y7, y8⟩ := so_thaw Z; clear hA Z)
    | (go_at_call 127; refine (HP.out _ (BD2 _)).mono ?_; rintro e w1 ⟨y, rfl, -, hA, -⟩; obtain ⟨Z, hA⟩ := hA _ (Nat.le_refl _) (heap_alloc_new V.drew _); have HA := hide hA; obtain ⟨z0, z1, z2, z3, z4, z5, z6, z7, z8⟩ := nine_cells Z; obtain ⟨y0, y1, y2, y3, y4, y5, y6, y7, y8⟩ := so_thaw Z; clear hA Z))
  all_goals go_wp2
  all_goals go_meet
  all_goals exact ⟨_, rfl, rfl, HA.out⟩
 case rest =>
  obtain ⟨Y, rfl, rfl, y, hY, oy, HY, bx, hYl⟩ := hcut
  have HC2 := HC.out wc bx
  obtain ⟨E, hE⟩ : ∃ E, E = R.2 := ⟨_, rfl⟩
  rw [← hE] at HR ⊢
  have HBx := hide (HBV.out.below bx)
  have hFx : Fr lo w wc := (Fr.of bel hlB).trans (Fr.of bx (Nat.le_trans hlB bel.size))
  clear HP HC q q0 q1 q2 q3 q4 q5 q6 q7 q8 s0 s1 hE
  by_cases h0 : E = 0
  ·subst h0
   obtain ⟨q, c9, s0, s1⟩ := HC2
   obtain ⟨q0, q1, q2, q3, q4, q5, q6, q7, q8⟩ := c9
   obtain ⟨y0, y1, y2, y3, y4, y5, y6, y7, y8⟩ := nine_cells hY
   have fz : ∀ j, wc.frozen? ⟨g, j, none⟩ = false := HBx.out.row.own.frozenAt
   have f0 := fz (i * 9)
   have f1 := fz (i * 9 + 1)
   have f2 := fz (i * 9 + 2)
   have f3 := fz (i * 9 + 3)
   have f4 := fz (i * 9 + 4)
   have f5 := fz (i * 9 + 5)
   have f6 := fz (i * 9 + 6)
   have f7 := fz (i * 9 + 7)
   have f8 := fz (i * 9 + 8)
   have FIN : Hid (DPost (putB b i t v) lo B w (.returned (.int .i64 0)) (Put9 wc g (i * 9) y).drew) := by
    show DPost _ _ _ _ _ _
    rw [HR.out, if_pos rfl]
    have hg := put9_grown wc g (i * 9) y
    have hgo : ∃ cur, wc.heap[g]? = some (.cells cur 59 (0, 0)) := by
     rcases HBx.out.row.own.2 with ⟨h2, _⟩ | ⟨g', c, cur, hv, _, hh, _⟩
     ·cases h2
     ·injection hv with e1 _ _
      injection e1 with e1
      injection e1 with e1 _ _
      subst e1
      exact ⟨cur, hh⟩
    obtain ⟨cur, hh⟩ := hgo
    have hlg : lo ≤ g := (own_base HBx.out.row.own g rfl).1
    have bd : Below (Put9 wc g (i * 9) y).heap.size (Put9 wc g (i * 9) y) (Put9 wc g (i * 9) y).drew := below_drewN (Below.refl _ _) 1
    have hne : B ≠ g := fun e => by
     have h1 := HBx.out.b
     rw [e, hh] at h1
     injection h1 with h1
     injection h1 with _ h2 _
     exact absurd h2 (by decide)
    have hB2 : BIn (Put9 wc g (i * 9) y) lo B (some ⟨g, 0, none⟩) n cap b.hz (l.set i y) :=
     ⟨by rw [hg.block B (lt_of_block HBx.out.b) (fun e => hne (by injection e))]; exact HBx.out.b, HBx.out.row.put HI.out (oy.lower (by have := bel.size; omega)), HBx.out.loB⟩
    have hF2 : Fr lo w (Put9 wc g (i * 9) y) := hFx.trans (Fr.grown hg hlg (Nat.le_trans hlB hFx.size) hh (.inl rfl))
    refine ⟨_, _, _, _, rfl, hB2.below bd, ?_, hF2.trans (Fr.of bd (Nat.le_trans hlB hF2.size))⟩
    show Lies _ _
    have hl := HL.out
    unfold Lies at hl ⊢
    rw [List.map_set, List.map_set, hl, HY.out]
   clear HR HBx hFx HL HY oy hY bx hYl HI
   go_wp2_with fail
   go_region
   all_goals go_wp2
   all_goals exact bodyPost_ret (v := .int .i64 0) (by simp [results, Tryz.results93, go_sem]) rfl FIN.out
  ·have hne : (E == 0) = false := by simpa using h0
   have FIN : Hid (DPost (putB b i t v) lo B w (.returned (.int .i64 E)) wc) := by
    show DPost _ _ _ _ _ _
    rw [HR.out, if_neg h0]
    exact ⟨_, _, _, _, rfl, HBx.out, HL.out, hFx⟩
   clear h0 HR HBx hFx HL HY oy hY bx hYl HI HC2
   go_wp2
   exact bodyPost_ret (v := .int .i64 E) (by simp [results, Tryz.results93, go_sem]) rfl FIN.out
open Go.RowKit Go.GrainU
set_option maxRecDepth 100000 in
set_option maxHeartbeats 8000000 in
theorem bputn_any (b : Bs) (i : Nat) (s : Lb) (t v : Int) (so' : Option Addr) (m c' : Nat) (l : List ShT) (lo B n cap : Nat) (ao : Option Addr) (w : World) (hB : BIn w lo B ao n cap b.hz l) (hL : Lies l b.l) (hi : i ≤ b.l.length) (hs : Seg w so' (lcells s)) (hm : m = s.length) (hm4 : m ≤ 4) (hf : Fits s) (hnil : so' = none → m = 0 ∧ c' = 0) :
  Calls Tryz.prog 94 #[.pointer (some ⟨B, 0, none⟩), .int .i64 i, .slice so' m c', .agg #[.int .i64 t, .int .i64 v]] w (DPost (putN b i s t v) lo B w) := by
 have hn := hB.row.len
 have hin : i ≤ n := by rw [hn, hL.len]; exact hi
 obtain ⟨V, hV⟩ : ∃ V, V = w.alloc (.cells #[.int .i64 t, .int .i64 v] 34) := ⟨_, rfl⟩
 have bel : Below w.heap.size w V := by rw [hV]; exact (Below.refl _ _).alloc (Nat.le_refl _) _
 have T0 : V.heap[w.heap.size]? = some (.cells #[.int .i64 t, .int .i64 v] 34 (0, 0)) := by rw [hV]; exact heap_alloc_new w _
 have hlB : lo ≤ w.heap.size := by have := hB.loB; have := lt_of_block hB.b; omega
 have BV := hB.below bel
 have hBs : B < V.heap.size := lt_of_block BV.b
 have hws : w.heap.size < V.heap.size := lt_of_block T0
 obtain ⟨z, hz⟩ : ∃ z, z = b.hz := ⟨_, rfl⟩
 obtain ⟨R, hR⟩ : ∃ R, R = Grain.sroll (newS s) z := ⟨_, rfl⟩
 obtain ⟨A, hA⟩ : ∃ A, A = Grain.sapp R.1 t v := ⟨_, rfl⟩
 have HRes : Hid (putN b i s t v = if 8 ≤ n then (b, 5) else if R.2 ≠ 0 then (b, R.2) else if A.2 ≠ 0 then (b, A.2) else (⟨b.l.take i ++ [⟨A.1, [(t, v)]⟩] ++ b.l.drop i, z⟩, 0)) := by
  show _ = _
  unfold putN
  rw [hA, hR, hz, show n = b.l.length from by rw [hn, hL.len]]
 have HN : Hid (∀ W, Below V.heap.size V W → Calls Tryz.prog 128 #[.slice so' m c'] W fun e w1 => ∃ y : ShT, e = .returned (.agg #[.slice y.a0 y.s.se.length y.c0, .slice y.a1 y.s.ra.length y.c1, .slice y.a2 y.s.fi.length y.c2, .slice y.a3 y.s.co.length y.c3, .int .i64 y.s.rf, .int .i64 y.s.ff, .int .i64 y.s.ft, .int .i64 y.s.cf, .int .i64 y.s.ct]) ∧ Hid (y.s = newS s) ∧ ShIn w1 y ∧ Below V.heap.size V w1 ∧ w1.cell? ⟨B, 0, none⟩ = some (.slice ao n cap) ∧ w1.cell? ⟨B, 1, none⟩ = some (.int .i64 z) ∧ B < w1.heap.size ∧ (∀ (Y : Nat) (o : Obj), W.heap[Y]? = some o → w1.heap[Y]? = some o)) := by
  intro W hW
  refine (snew_any s so' m c' W ((hs.below bel).below hW) hm hf (by omega) hnil).mono ?_
  rintro e w1 ⟨y, rfl, hy, oy, b1⟩
  have h1 : Below V.heap.size V w1 := hW.trans (b1.mono hW.size)
  have h2 := below_block h1 BV.b
  exact ⟨y, rfl, hy, oy.shIn, h1, by simp [World.cell?, h2], by simp [World.cell?, h2, hz], lt_of_block h2, fun Y o h => below_block b1 h⟩
 have HRl : Hid (∀ (W : World) (y : ShT), Below V.heap.size V W → Hid (y.s = newS s) → ShIn W y → Calls Tryz.prog 98 #[.agg #[.slice y.a0 y.s.se.length y.c0, .slice y.a1 y.s.ra.length y.c1, .slice y.a2 y.s.fi.length y.c2, .slice y.a3 y.s.co.length y.c3, .int .i64 y.s.rf, .int .i64 y.s.ff, .int .i64 y.s.ft, .int .i64 y.s.cf, .int .i64 y.s.ct], .int .i64 z] W (QA V W R)) := by
  intro W y hW hy hx
  have h := sroll_any y z W hx
  rw [hy.out, ← hR] at h
  exact h.mono fun e w1 h => qa_of hW h
 have HAp : Hid (∀ (W : World) (y : ShT), Below V.heap.size V W → Hid (y.s = R.1) → ShIn W y → Calls Tryz.prog 127 #[.agg #[.slice y.a0 y.s.se.length y.c0, .slice y.a1 y.s.ra.length y.c1, .slice y.a2 y.s.fi.length y.c2, .slice y.a3 y.s.co.length y.c3, .int .i64 y.s.rf, .int .i64 y.s.ff, .int .i64 y.s.ft, .int .i64 y.s.cf, .int .i64 y.s.ct], .agg #[.int .i64 t, .int .i64 v]] W fun e w1 => ∃ y' : ShT, e = .returned (.tuple #[.agg #[.slice y'.a0 y'.s.se.length y'.c0, .slice y'.a1 y'.s.ra.length y'.c1, .slice y'.a2 y'.s.fi.length y'.c2, .slice y'.a3 y'.s.co.length y'.c3, .int .i64 y'.s.rf, .int .i64 y'.s.ff, .int .i64 y'.s.ft, .int .i64 y'.s.cf, .int .i64 y'.s.ct], .int .i64 A.2]) ∧ Hid (y'.s = A.1) ∧ ShO W.heap.size w1 y' ∧ Below W.heap.size W w1) := by
  intro W y hW hy hx
  refine (sapp_any y t v W hx).mono ?_
  rintro e w1 ⟨y', rfl, hy', oy, b1⟩
  rw [hy.out, ← hA] at hy' ⊢
  exact ⟨y', rfl, hy', oy, b1⟩
 have HV := hide hV
 have HBV := hide BV
 have HL := hide hL
 have HZ := hide hz
 obtain ⟨q0, q1, q2, q3⟩ := two_cells BV.b
 rw [← hz] at q1
 have T0' := hide T0
 clear hV hL hn hR hA hs hm hf hnil BV hi hz T0
 by_cases h8 : 8 ≤ n
 ·have FIN : Hid (DPost (putN b i s t v) lo B w (.returned (.int .i64 5)) V) := by
   show DPost _ _ _ _ _ _
   rw [HRes.out, if_pos h8]
   exact ⟨_, _, _, _, rfl, HBV.out, HL.out, Fr.of bel hlB⟩
  have h8' : ((8 : Int) ≤ (n : Int)) := by omega
  rw [HV.out] at FIN q0 q1
  clear HRes HN HRl HAp HBV HL hB h8 hin q2 q3
  go_enter Tryz.func94, Tryz.ntmps94
  go_wp2
  exact bodyPost_ret (v := .int .i64 5) (by simp [results, Tryz.results94, go_sem]) rfl FIN.out
 ·have h8' : ¬ ((8 : Int) ≤ (n : Int)) := by omega
  have hn8 : n ≤ 8 := by omega
  have BD : Below V.heap.size V V.drew := below_drewN (Below.refl _ _) 1
  have BD3 : ∀ o, Below V.heap.size V (V.alloc o).drew := fun o => below_drewN ((Below.refl _ _).alloc (Nat.le_refl _) _) 1
  have HRes2 : Hid (putN b i s t v = if R.2 ≠ 0 then (b, R.2) else if A.2 ≠ 0 then (b, A.2) else (⟨b.l.take i ++ [⟨A.1, [(t, v)]⟩] ++ b.l.drop i, z⟩, 0)) := by
   show _ = _
   rw [HRes.out, if_neg h8]
  clear HRes h8 hB
  rw [HV.out] at q0 q1
  go_enter Tryz.func94, Tryz.ntmps94
  go_upto_region 3 with fail
  rw [← HV.out] at q0 q1 ⊢
  go_cut [9, 10] from 18 to 29 (fun v9 v10 wx => ∃ Y : Nat, v9 = .pointer (some ⟨Y, 0, none⟩) ∧ v10 = .int .i64 R.2 ∧ AP V R.1 Y wx)
  case first =>
   have HSk : Hid (∀ W', Below V.heap.size V W' → W'.cell? ⟨B, 1, none⟩ = some (.int .i64 z)) := fun W' h => by have h2 := below_block h HBV.out.b; rw [HZ.out]; simp [World.cell?, h2]
   have BD0 : Below V.heap.size V V := Below.refl _ _
   go_region_held3 (fun w' => w'.cell? ⟨B, 1, none⟩ = some (.int .i64 z)) (first | exact HSk.out _ (by with_reducible assumption) | exact HSk.out _ (AP.bel (by with_reducible assumption)) | go_keep)
    (first
     | (go_at_call 128; refine (HN.out _ BD).mono ?_; rintro e w1 ⟨y0, rfl, h0, i0, bV, k0, k1, kB, -⟩)
     | (go_at_call 128; refine (HN.out _ (BD3 _)).mono ?_; rintro e w1 ⟨y0, rfl, h0, i0, bV, k0, k1, kB, kk⟩; have Z1 : w1.heap[V.heap.size]? = some (so szT) := kk _ _ (heap_alloc_new V _); clear kk)
     | (go_at_call 98; refine (HRl.out w1 y0 bV h0 i0).mono ?_; have Z2 := Z1; rintro e w2 ⟨y, rfl, -, hA, bV2⟩; obtain ⟨Z, hA⟩ := hA V.heap.size (Nat.le_refl _) Z2; unfold Set9 at hA; obtain ⟨z0, z1, z2, z3, z4, z5, z6, z7, z8⟩ := nine_cells Z; obtain ⟨y0, y1, y2, y3, y4, y5, y6, y7, y8⟩ := so_thaw Z; clear Z)
     | (go_at_call 98; refine (HRl.out _ y0 (bV.alloc bV.size _) h0 (i0.below ((Below.refl _ _).alloc (Nat.le_refl _) _))).mono ?_; rintro e w2 ⟨y, rfl, -, hA, bV2⟩; obtain ⟨Z, hA⟩ := hA _ bV.size (heap_alloc_new w1 _); unfold Set9 at hA; obtain ⟨z0, z1, z2, z3, z4, z5, z6, z7, z8⟩ := nine_cells Z; obtain ⟨y0, y1, y2, y3, y4, y5, y6, y7, y8⟩ := so_thaw Z; clear Z)
     | (go_at_call 98; refine (HRl.out w1 y0 bV h0 i0).mono ?_; rintro e w2 ⟨y, rfl, hA, -, bV2⟩))
   all_goals go_wp2
   all_goals go_meet
   all_goals refine ⟨_, rfl, rfl, ?_⟩
   all_goals with_reducible assumption
  case rest =>
   obtain ⟨Y, rfl, rfl, y, hY, oy, HY, bx, hYl⟩ := hcut
   obtain ⟨E, hE⟩ : ∃ E, E = R.2 := ⟨_, rfl⟩
   rw [← hE] at HRes2 ⊢
   have hBx := HBV.out.below bx
   have T1 := below_block bx T0'.out
   have hFx : Fr lo w wc := (Fr.of bel hlB).trans (Fr.of bx (Nat.le_trans hlB bel.size))
   clear HN HRl hE q0 q1 q2 q3
   by_cases h0 : E = 0
   ·subst h0
    obtain ⟨y0, y1, y2, y3, y4, y5, y6, y7, y8⟩ := nine_cells hY
    obtain ⟨s0, s1, -, -⟩ := two_cells T1
    have P := hide (HAp.out wc y bx HY oy.shIn)
    have hYs : Y < wc.heap.size := lt_of_block hY
    clear HAp HY oy
    go_wp2_with fail
    refine P.out.mono ?_
    rintro e w2 ⟨y', rfl, HY2, oy2, b2⟩
    have hY2 := below_block b2 hY
    have hB2 := hBx.below b2
    have hF2 : Fr lo w w2 := hFx.trans (Fr.of b2 (Nat.le_trans hlB hFx.size))
    obtain ⟨u0, u1, u2, u3, u4, u5, u6, u7, u8⟩ := nine_cells hY2
    obtain ⟨f0, f1, f2, f3, f4, f5, f6, f7, f8⟩ := so_thaw hY2
    obtain ⟨E2, hE2⟩ : ∃ E, E = A.2 := ⟨_, rfl⟩
    rw [← hE2] at HRes2 ⊢
    have og : w2.grownBy (Set9 w2 Y (.slice y'.a0 y'.s.se.length y'.c0) (.slice y'.a1 y'.s.ra.length y'.c1) (.slice y'.a2 y'.s.fi.length y'.c2) (.slice y'.a3 y'.s.co.length y'.c3) (.int .i64 y'.s.rf) (.int .i64 y'.s.ff) (.int .i64 y'.s.ft) (.int .i64 y'.s.cf) (.int .i64 y'.s.ct)) (some Y) := by
     have := put9_grown w2 Y 0 y'
     simpa [Put9, Set9] using this
    obtain ⟨W3, hW3⟩ : ∃ W3, W3 = Set9 w2 Y (.slice y'.a0 y'.s.se.length y'.c0) (.slice y'.a1 y'.s.ra.length y'.c1) (.slice y'.a2 y'.s.fi.length y'.c2) (.slice y'.a3 y'.s.co.length y'.c3) (.int .i64 y'.s.rf) (.int .i64 y'.s.ff) (.int .i64 y'.s.ft) (.int .i64 y'.s.cf) (.int .i64 y'.s.ct) := ⟨_, rfl⟩
    have hlY : lo ≤ Y := by have := bel.size; omega
    have hY3 : W3.heap[Y]? = some (so y') := by
     rw [hW3]
     unfold so at hY2
     simp [Set9, World.setCell, Array.getElem?_modify, hY2, so]
    rw [← hW3] at og
    have hBne : B ≠ Y := by omega
    have hB3 : BIn W3 lo B ao n cap b.hz l := by
     have hne : ∀ k, (Value.slice ao n cap).ownBlock = some k → some Y ≠ some k := fun k hk e => by
      injection e with e
      have h1 := (own_base HBV.out.row.own k hk).2
      omega
     refine ⟨by rw [og.block B (lt_of_block hB2.b) (fun e => hBne (by injection e))]; exact hB2.b, ⟨own_keep hB2.row.own og hne, fun x hx => (hB2.row.shs x hx).keep og (fun k e => by injection e with e; subst e; exact ⟨_, _, _, hY2, by decide, by decide, by decide⟩)⟩, hB2.loB⟩
    have oy3 : ShO lo W3 y' := (oy2.lower (by have := hFx.size; omega)).keep og (fun k e => by injection e with e; subst e; exact ⟨_, _, _, hY2, by decide, by decide, by decide⟩)
    have hF3 : Fr lo w W3 := hF2.trans (Fr.grown og hlY (Nat.le_trans hlB hF2.size) hY2 (.inl rfl))
    have HB3 := hide hB3
    have HY3 := hide hY3
    have HO3 := hide oy3
    have HF3 := hide hF3
    have HW3 : Hid (W3 = (((((((((w2.setCell ⟨Y, 0, none⟩ (.slice y'.a0 y'.s.se.length y'.c0)).setCell ⟨Y, 1, none⟩ (.slice y'.a1 y'.s.ra.length y'.c1)).setCell ⟨Y, 2, none⟩ (.slice y'.a2 y'.s.fi.length y'.c2)).setCell ⟨Y, 3, none⟩ (.slice y'.a3 y'.s.co.length y'.c3)).setCell ⟨Y, 4, none⟩ (.int .i64 y'.s.rf)).setCell ⟨Y, 5, none⟩ (.int .i64 y'.s.ff)).setCell ⟨Y, 6, none⟩ (.int .i64 y'.s.ft)).setCell ⟨Y, 7, none⟩ (.int .i64 y'.s.cf)).setCell ⟨Y, 8, none⟩ (.int .i64 y'.s.ct))) := hW3
    clear P y0 y1 y2 y3 y4 y5 y6 y7 y8 s0 s1 hY hY2 hB2 hBx hFx hF2 hE2 og hW3 hB3 hY3 oy3 hF3 oy2 b2 T1 bx
    by_cases h2 : E2 = 0
    ·subst h2
     have HRes3 : Hid (putN b i s t v = (⟨b.l.take i ++ [⟨A.1, [(t, v)]⟩] ++ b.l.drop i, z⟩, 0)) := by
      show _ = _
      rw [HRes2.out]; simp
     have HI : Hid (∀ W : World, Below W3.heap.size W3 W → W.heap[W3.heap.size]? = some (.cells #[.slice y'.a0 y'.s.se.length y'.c0, .slice y'.a1 y'.s.ra.length y'.c1, .slice y'.a2 y'.s.fi.length y'.c2, .slice y'.a3 y'.s.co.length y'.c3, .int .i64 y'.s.rf, .int .i64 y'.s.ff, .int .i64 y'.s.ft, .int .i64 y'.s.cf, .int .i64 y'.s.ct] 59 (0, 0)) → Calls Tryz.prog 129 #[.slice ao n cap, .int .i64 i, .slice (some ⟨W3.heap.size, 0, none⟩) 1 1] W fun e w4 => ∃ g d, e = .returned (.slice (some ⟨g, 0, none⟩) (n + 1) d) ∧ (w4.cell? ⟨B, 0, none⟩ = some (.slice ao n cap) ∧ w4.frozen? ⟨B, 0, none⟩ = false) ∧ Hid (DPost (putN b i s t v) lo B w (.returned (.int .i64 0)) (w4.setCell ⟨B, 0, none⟩ (.slice (some ⟨g, 0, none⟩) (n + 1) d)))) := by
      intro W hW hF
      have hBW := HB3.out.below hW
      have hloW : lo ≤ W.heap.size := Nat.le_trans (Nat.le_trans hlB HF3.out.size) hW.size
      refine (ins9_any (vcells l) _ _ _ _ _ _ _ _ _ lo n cap i W3.heap.size ao W hBW.row.own hin hn8 hloW hF (shc_one y') (vcells_one l) ?_).mono ?_
      ·intro e
       have := (own_base HB3.out.row.own _ e).2
       omega
      ·rintro e w4 ⟨g, d, rfl, own, gr, -⟩
       have hrow := hBW.row.ins (HO3.out.below hW) own gr
       have hb4 := own_other hBW.row.own gr hBW.b (by decide)
       have hF4 : Fr lo w w4 := (HF3.out.trans (Fr.of hW (Nat.le_trans hlB HF3.out.size))).trans (fr_row hBW.row.own gr hloW)
       refine ⟨g, d, rfl, ⟨by simp [World.cell?, hb4], by simp [World.frozen?, hb4]⟩, ?_⟩
       show DPost _ _ _ _ _ _
       rw [HRes3.out]
       refine ⟨some ⟨g, 0, none⟩, n + 1, d, l.take i ++ [y'] ++ l.drop i, rfl, ⟨?_, hrow.keep hb4 ⟨by decide, by decide, by decide, by decide⟩ grown_set, hBW.loB⟩, ?_, hF4.trans (Fr.grown grown_set hBW.loB (Nat.le_trans hlB hF4.size) hb4 (.inr rfl))⟩
       ·rw [HZ.out]; exact fst_set hb4 _
       ·have hl := HL.out
        have hy := HY2.out
        unfold Lies at hl ⊢
        simp only [List.map_append, List.map_take, List.map_drop, hl, List.map_cons, List.map_nil, hy]
     obtain ⟨q0, q1, q2, q3⟩ := two_cells HB3.out.b
     obtain ⟨y0, y1, y2, y3, y4, y5, y6, y7, y8⟩ := nine_cells HY3.out
     have hBs3 : B < W3.heap.size := lt_of_block HB3.out.b
     have hYs3 : Y < W3.heap.size := lt_of_block HY3.out
     have bA : ∀ o, Below W3.heap.size W3 (W3.alloc o).drew := fun o => below_drewN ((Below.refl _ _).alloc (Nat.le_refl _) _) 1
     have bA2 : ∀ o, Below W3.heap.size W3 (W3.drew.alloc o) := fun o => (below_drewN (Below.refl _ _) 1).alloc (Nat.le_refl _) _
     have HW4 := HW3
     clear HRes2 HRes3 HO3 HF3 HL HZ HY2
     go_wp2_with fail
     rw [← HW3.out]
     go_region_with
      (first
       | (go_at_call 129; refine (HI.out _ (bA _) (heap_alloc_new W3 _)).mono ?_; rintro e w4 ⟨g, d, rfl, ⟨k0, k1⟩, FIN⟩)
       | (go_at_call 129; refine (HI.out _ (bA2 _) (heap_alloc_new W3.drew _)).mono ?_; rintro e w4 ⟨g, d, rfl, ⟨k0, k1⟩, FIN⟩))
     all_goals go_wp2
     all_goals exact bodyPost_ret (v := .int .i64 0) (by simp [results, Tryz.results94, go_sem]) rfl FIN.out
    ·have hne : (E2 != 0) = true := by simpa using h2
     have FIN : Hid (DPost (putN b i s t v) lo B w (.returned (.int .i64 E2)) W3) := by
      show DPost _ _ _ _ _ _
      rw [HRes2.out, if_neg (by simp), if_pos h2]
      exact ⟨_, _, _, _, rfl, HB3.out, HL.out, HF3.out⟩
     rw [HW3.out] at FIN
     clear h2 HRes2 HB3 HO3 HF3 HY3 HW3
     go_wp2
     exact bodyPost_ret (v := .int .i64 E2) (by simp [results, Tryz.results94, go_sem]) rfl FIN.out
   ·have hne : (E != 0) = true := by simpa using h0
    have FIN : Hid (DPost (putN b i s t v) lo B w (.returned (.int .i64 E)) wc) := by
     show DPost _ _ _ _ _ _
     rw [HRes2.out, if_pos h0]
     exact ⟨_, _, _, _, rfl, hBx, HL.out, hFx⟩
    clear h0 HRes2 hBx hFx HL HY oy hY bx hYl HAp T1
    go_wp2
    exact bodyPost_ret (v := .int .i64 E) (by simp [results, Tryz.results94, go_sem]) rfl FIN.out
end Go.Proofs.YtoldmigappbjcaaGreatDoor
