import Derived.Deep.RegionWith
import Derived.Test.YtoldmigappbjcaaGreatDoorL09
namespace Go.GrainU
open Go.RowKit
theorem cell_grown {w w' : World} {B Z o : Nat} {v : Value} (g : w.grownBy w' (some B)) (hZ : Z ≠ B) (h : w.cell? ⟨Z, o, none⟩ = some v) : w'.cell? ⟨Z, o, none⟩ = some v := by
 have hl := World.block_lt_of_cell? w _ h
 have := g.block Z hl (fun e => hZ (Option.some.inj e))
 rw [← h]
 simp [World.cell?, this]
theorem chnF_none {p : St → Except Flt (Ex × St)} {sg : List (List UInt8)} {k : Nat} {e : Ex} {st : St} (h : accAny sg st.r = none) : chnF p sg (k + 1) e st = .ok (e, st) := by rw [chnF, h]
theorem chnF_part {p : St → Except Flt (Ex × St)} {sg : List (List UInt8)} {k : Nat} {e : Ex} {st : St} {x r : List UInt8} {f : Flt} (h : accAny sg st.r = some (x, r)) (hp : p ⟨r, st.n⟩ = .error f) : chnF p sg (k + 1) e st = .error f := by rw [chnF, h]; simp [hp]
theorem chnF_fin {p : St → Except Flt (Ex × St)} {sg : List (List UInt8)} {k : Nat} {e u : Ex} {st s1 : St} {x r : List UInt8} {f : Flt} (h : accAny sg st.r = some (x, r)) (hp : p ⟨r, st.n⟩ = .ok (u, s1)) (hf : fin (.mk ⟨4, 0, 0, lit x, [], []⟩ [e, u]) s1 = .error f) : chnF p sg (k + 1) e st = .error f := by rw [chnF, h]; simp [hp, hf]
theorem chnF_go {p : St → Except Flt (Ex × St)} {sg : List (List UInt8)} {k : Nat} {e u g : Ex} {st s1 s2 : St} {x r : List UInt8} (h : accAny sg st.r = some (x, r)) (hp : p ⟨r, st.n⟩ = .ok (u, s1)) (hf : fin (.mk ⟨4, 0, 0, lit x, [], []⟩ [e, u]) s1 = .ok (g, s2)) : chnF p sg (k + 1) e st = chnF p sg k g s2 := by
 rw [chnF, h]
 simp [hp, hf]
theorem accAny_len {l : List (List UInt8)} {r x r1 : List UInt8} (h : accAny l r = some (x, r1)) (hl : ∀ y ∈ l, 0 < y.length) : r1.length < r.length := by
 induction l with
 | nil => simp [accAny] at h
 | cons a t ih =>
  rw [accAny] at h
  cases ha : acc a r with
  | some r2 =>
   rw [ha] at h
   simp at h
   obtain ⟨_, e2, e3⟩ := acc_some ha
   have := (skip_suf r).length_le
   have h0 := hl a (by simp)
   rw [← h.2, e2, List.length_drop]
   omega
  | none =>
   rw [ha] at h
   exact ih h fun y hy => hl y (by simp [hy])
theorem fin_ok {e g : Ex} {st s2 : St} (h : fin e st = .ok (g, s2)) : g = e ∧ s2 = ⟨st.r, st.n + 1⟩ ∧ st.n + 1 ≤ 100 := by
 unfold fin at h
 split at h
 ·cases h
 ·injection h with h
  simp at h
  exact ⟨h.1.symm, h.2.symm, by omega⟩
end Go.GrainU
namespace Go.Proofs.YtoldmigappbjcaaGreatDoor
open Go.RowKit Go.GrainU
set_option maxHeartbeats 8000000 in
theorem tchain_of {d : Int} {p : St → Except Flt (Ex × St)} (hf : Reads 148 d p) (hmono : ∀ st x q, p st = .ok (x, q) → q.r.length ≤ st.r.length) (sg : List (List UInt8)) (hsg : ∀ y ∈ sg, 0 < y.length ∧ y.length ≤ 100) (bo : Option Addr) (m c : Nat)
  (s : ByteArray) (st : St) (B Z1 Z2 : Nat) (w0 w : World) (h : Rd 95 w B s st) (hs : s.size ≤ 2000) (hn : st.n ≤ 100) (hv : ErrV w0) (hb0 : Below w0.heap.size w0 w) (hB0 : w0.heap.size ≤ B) (z1 : w.cell? ⟨Z1, 0, none⟩ = some (.pointer (some ⟨B, 0, none⟩))) (z2 : w.cell? ⟨Z2, 0, none⟩ = some (.int .i64 d)) (hZ1 : Z1 ≠ B) (hZ2 : Z2 ≠ B)
  (hb : Seg w bo (wcells (slit sg))) (hm : m = sg.length) (hM : m ≤ 100) (hne : ∀ b off, bo = some ⟨b, off, none⟩ → b ≠ B) :
  Calls Tryz.prog 104 #[.pointer (some ⟨B, 0, none⟩), .slice bo m c, .func (.func 147) #[] #[.pointer (some ⟨Z1, 0, none⟩), .pointer (some ⟨Z2, 0, none⟩)]] w (EPost s B w (chn p sg st)) := by
 have hB := h.lt
 obtain ⟨X, hX⟩ : ∃ X, X = w.heap.size := ⟨_, rfl⟩
 obtain ⟨V, hV⟩ : ∃ V, V = w.alloc (.cells #[.int .i64 0, .int .i64 0, .int .i64 0, .string ⟨#[]⟩, .slice none 0 0, .slice none 0 0, .slice none 0 0] 41) := ⟨_, rfl⟩
 have R0 : Rd 95 V B s st := by rw [hV]; exact h.alloc _
 have G0 : w.grownBy V (some B) := by rw [hV]; exact grown_trans (World.grownBy.refl _ _) (World.grownBy_alloc _ _ none) (fun _ hk => by cases hk)
 have FX : V.heap[X]? = some (.cells #[.int .i64 0, .int .i64 0, .int .i64 0, .string ⟨#[]⟩, .slice none 0 0, .slice none 0 0, .slice none 0 0] 41 (0, 0)) := by rw [hV, hX]; exact heap_alloc_new w _
 have hVs : V.heap.size = X + 1 := by rw [hV, hX]; simp
 have HCL := hide (fun (s' : ByteArray) (st' : St) (w' : World) (h' : Rd 95 w' B s' st') (hs' : s'.size ≤ 2000) (hn' : st'.n ≤ 100) (g' : w.grownBy w' (some B)) => tclos_of hf s' st' B Z1 Z2 w0 w' h' hs' hn' hv (hb0.grown g' hb0.size (fun j hj => by cases hj; exact hB0)) hB0 (cell_grown g' hZ1 z1) (cell_grown g' hZ2 z2))
 have HSG := hide (fun (w' : World) (g' : w.grownBy w' (some B)) => seg_grown hb g' hne)
 have HF := hide FX
 have HG := hide G0
 have HR := hide R0
 have HV := hide hV
 have HX := hide hX
 have HNE := hide hne
 have HM := hide hm
 have HMO := hide hmono
 have HLS := hide hsg
 have hXB : X ≠ B := by omega
 have hBX : B < X := by omega
 clear hV FX G0 R0 hf hX hb hne hv hb0 z1 z2 hZ1 hZ2 hB0 h hm hmono hsg
 go_enter Tryz.func104, Tryz.ntmps104
 go_wp2_with fail
 rw [← HV.out, ← HX.out]
 refine (HCL.out s st V HR.out hs hn HG.out).mono ?_
 rintro e w1 ⟨⟨t0, q0, hx, rfl, hin, R1, hq⟩ | ⟨f, hf, rfl⟩, g⟩
 rotate_left
 ·have HE : Hid (chn p sg st = .error f) := by show _ = _; unfold chn; rw [hf]
  have G := grown_trans HG.out g (fun _ hk => .inl hk)
  clear hf
  go_wp2_with fail
  exact ⟨rfl, .inr ⟨f, HE.out, rfl⟩, G⟩
 have HQ : Hid (chn p sg st = chnF p sg (q0.r.length + 1) t0.ex q0) := by show _ = _; unfold chn; rw [hx]
 obtain ⟨Y, hY⟩ : ∃ Y, Y = w1.heap.size := ⟨_, rfl⟩
 have hXY : X + 1 ≤ Y := by have := g.size; omega
 have hYB : Y ≠ B := by have := R1.lt; omega
 have G1 := grown_trans HG.out g (fun _ hk => .inl hk)
 have FX1 := grown_block g HF.out hXB
 obtain ⟨W, hW⟩ : ∃ W, W = w1.alloc (.cells #[.int .i64 t0.hd.kind, .int .i64 t0.hd.n, .int .i64 t0.hd.range, .string t0.hd.word, .slice t0.sp.ma t0.hd.ms.length t0.sp.mc, .slice t0.sp.ba t0.hd.bs.length t0.sp.bc, .slice t0.sp.ka t0.kids.length t0.sp.kc] 41) := ⟨_, rfl⟩
 have G2 : w.grownBy W (some B) := by rw [hW]; exact grown_trans G1 (World.grownBy_alloc _ _ none) (fun _ hk => by cases hk)
 have R2 : Rd 95 W B s q0 := by rw [hW]; exact R1.alloc _
 have FX2 : W.heap[X]? = some (.cells #[.int .i64 0, .int .i64 0, .int .i64 0, .string ⟨#[]⟩, .slice none 0 0, .slice none 0 0, .slice none 0 0] 41 (0, 0)) := by rw [hW, Below.heap_alloc _ _ _ (by omega)]; exact FX1
 have FY2 : W.heap[Y]? = some (.cells #[.int .i64 t0.hd.kind, .int .i64 t0.hd.n, .int .i64 t0.hd.range, .string t0.hd.word, .slice t0.sp.ma t0.hd.ms.length t0.sp.mc, .slice t0.sp.ba t0.hd.bs.length t0.sp.bc, .slice t0.sp.ka t0.kids.length t0.sp.kc] 41 (0, 0)) := by rw [hW, hY]; exact heap_alloc_new w1 _
 have IN2 : t0.In (strip Y (cut (X + 1) W)) := by rw [hW]; rw [hVs] at hin; exact hin.cs_new hY
 have HI := hide (show (∃ (t : ET) (q : St) (k : Nat), (chn p sg st = chnF p sg k t.ex q ∧ q.r.length < k) ∧ t.In (strip Y (cut (X + 1) W)) ∧ W.heap[Y]? = some (.cells #[.int .i64 t.hd.kind, .int .i64 t.hd.n, .int .i64 t.hd.range, .string t.hd.word, .slice t.sp.ma t.hd.ms.length t.sp.mc, .slice t.sp.ba t.hd.bs.length t.sp.bc, .slice t.sp.ka t.kids.length t.sp.kc] 41 (0, 0)) ∧ W.heap[X]? = some (.cells #[.int .i64 0, .int .i64 0, .int .i64 0, .string ⟨#[]⟩, .slice none 0 0, .slice none 0 0, .slice none 0 0] 41 (0, 0)) ∧ Rd 95 W B s q ∧ q.n ≤ 100 ∧ w.grownBy W (some B)) from ⟨t0, q0, _, ⟨HQ.out, by omega⟩, IN2, FY2, FX2, R2, hq, G2⟩)
 have HW := hide hW
 have HY := hide hY
 clear hW hx hin R1 g G1 FX1 G2 R2 FX2 FY2 IN2 HQ hq hY
 unfold eval
 go_wp2_with fail
 rw [← HW.out, ← HY.out]
 go_loopw [8] (fun _ wr => ∃ (t : ET) (q : St) (k : Nat), Hid (chn p sg st = chnF p sg k t.ex q ∧ q.r.length < k) ∧ Hid (t.In (strip Y (cut (X + 1) wr))) ∧ wr.heap[Y]? = some (.cells #[.int .i64 t.hd.kind, .int .i64 t.hd.n, .int .i64 t.hd.range, .string t.hd.word, .slice t.sp.ma t.hd.ms.length t.sp.mc, .slice t.sp.ba t.hd.bs.length t.sp.bc, .slice t.sp.ka t.kids.length t.sp.kc] 41 (0, 0)) ∧ wr.heap[X]? = some (.cells #[.int .i64 0, .int .i64 0, .int .i64 0, .string ⟨#[]⟩, .slice none 0 0, .slice none 0 0, .slice none 0 0] 41 (0, 0)) ∧ Rd 95 wr B s q ∧ q.n ≤ 100 ∧ w.grownBy wr (some B)) (fun _ wr => s.size - (intOf ((wr.cell? ⟨B, 1, none⟩).getD undef)).toNat)
 case atStart =>
  obtain ⟨t, q, k, a, b, c, d, e, f, g⟩ := HI.out
  exact ⟨t, q, k, a, b, c, d, e, f, g⟩
 case round =>
  clear HI HW
  obtain ⟨t, q, k, HQ, HIN, FY, FXr, R, hq, gr⟩ := hrel
  obtain ⟨k', hk'⟩ : ∃ k', k = k' + 1 := ⟨k - 1, by have := HQ.out.2; omega⟩
  subst hk'
  have HS := hide (signs_any sg bo m c s q B wr R hs (HSG.out wr gr) HM.out hM HNE.out)
  go_wp2_with fail
  refine HS.out.mono ?_
  rintro e w2 ⟨⟨kk, x, r1, hx, hkm, hxk, rfl, R2⟩ | ⟨hx, rfl, R2⟩, g2⟩
  ·have G2 := grown_trans gr g2 (fun _ hk => .inl hk)
   have FY2 := grown_block g2 FY hYB
   have FX2 := grown_block g2 FXr hXB
   have HIN2 := hide (HIN.out.cs_grown g2 (b := X + 1) (by omega))
   have HA := hide hx
   have hkl : kk < (slit sg).length := by rw [slit, List.length_map, ← HM.out]; exact hkm
   obtain ⟨b, off, hbo, hbl, hcell⟩ := seg_word (HSG.out w2 G2) hkl
   have hxs : (slit sg).getD kk ⟨#[]⟩ = lit x := by
    have hk2 : kk < sg.length := by rw [← HM.out]; exact hkm
    rw [slit_at hk2]
    rw [List.getElem?_eq_getElem hk2] at hxk
    rw [Option.some.inj hxk]
   have c0 : w2.cell? ⟨b, off + kk, none⟩ = some (.string (lit x)) := by rw [← hxs]; exact hcell kk hkl
   have hbB : b ≠ B := HNE.out b off hbo
   have HXM := hide (HLS.out x (List.mem_of_getElem? hxk))
   obtain ⟨y0, y1, y2, y3, y4, y5, y6⟩ := seven_cells FY2
   have hk0 : ¬ (kk : Int) < 0 := by omega
   have hkm' : (kk : Int) < (m : Int) := by omega
   have R2d := R2.drewN 1
   have HC1 := hide (fun (v : World) (hv : Rd 95 v B s ⟨r1, q.n⟩) (gv : w.grownBy v (some B)) => HCL.out s ⟨r1, q.n⟩ v hv hs hq gv)
   have hw2 := g2.size
   subst hbo
   have HRw := hide R.cells.2.1
   have hql : q.r.length ≤ s.size := suf_len R.suf
   have hYw : Y < wr.heap.size := lt_of_block FY
   clear hx hxk hxs hcell hkl g2 FY FXr R gr HIN HS
   go_wp2_with fail
   have HPE : Hid (∀ ff, p ⟨r1, q.n⟩ = .error ff → chn p sg st = .error ff) := fun ff hff => by rw [HQ.out.1, chnF_part HA.out hff]
   have HEND := hide (fun (u : ET) (q3 : St) (Z : Nat) (v : World) (hv : Rd 95 v B s q3) (hn3 : q3.n ≤ 100) => ended_any (.node ⟨4, 0, 0, lit x, [], []⟩ ⟨none, 0, none, 0, some ⟨Z, 0, none⟩, 2⟩ [t, u]) s q3 B v hv (by omega))
   simp only [eval, ET.hd, ET.sp, ET.kids, List.length_nil, List.length_cons] at HEND
   go_region_with
    (first
     | (go_at_call 147; refine (HC1.out _ (by first | exact R2 | exact R2.drewN 1) (by first | exact G2 | exact grown_drewN G2 1)).mono ?_; rintro e w3 ⟨⟨u, q3, hx3, rfl, hin3, R3, hq3⟩ | ⟨ff, hff, rfl⟩, g3⟩; rotate_left; (have HE := hide (HPE.out ff hff); have G3 := grown_trans (by first | exact G2 | exact grown_drewN G2 1) g3 (fun _ hk => .inl hk); clear hff; go_wp2_with fail; exact ⟨rfl, .inr ⟨ff, HE.out, rfl⟩, G3⟩); have c3 := cell_grown g3 hbB (by assumption : _ = some (Value.string (lit x))); have FY3 := grown_block g3 (by assumption : _ = some (Obj.cells #[.int .i64 t.hd.kind, .int .i64 t.hd.n, .int .i64 t.hd.range, .string t.hd.word, .slice t.sp.ma t.hd.ms.length t.sp.mc, .slice t.sp.ba t.hd.bs.length t.sp.bc, .slice t.sp.ka t.kids.length t.sp.kc] 41 (0, 0))) hYB; obtain ⟨v0, v1, v2, v3, v4, v5, v6⟩ := seven_cells FY3; have g23 : w2.grownBy w3 (some B) := grown_trans (by first | exact World.grownBy.refl _ _ | exact grown_drewN (World.grownBy.refl _ _) 1) g3 (fun _ hk => .inl hk); have hin3' : u.In (cut w2.heap.size w3) := hin3; have hb3 : b < w3.heap.size := World.block_lt_of_cell? w3 _ c3; have hb4 : (w3.alloc (Obj.cells #[.int .i64 t.hd.kind, .int .i64 t.hd.n, .int .i64 t.hd.range, .string t.hd.word, .slice t.sp.ma t.hd.ms.length t.sp.mc, .slice t.sp.ba t.hd.bs.length t.sp.bc, .slice t.sp.ka t.kids.length t.sp.kc, .int .i64 u.hd.kind, .int .i64 u.hd.n, .int .i64 u.hd.range, .string u.hd.word, .slice u.sp.ma u.hd.ms.length u.sp.mc, .slice u.sp.ba u.hd.bs.length u.sp.bc, .slice u.sp.ka u.kids.length u.sp.kc] 41)).cell? ⟨b, off + kk, none⟩ = some (Value.string (lit x)) := (((Below.refl _ w3).alloc (Nat.le_refl _) _).cell (p := ⟨b, off + kk, none⟩) hb3).trans c3; unfold eval)
     | (go_at_call 146; refine (HEND.out u q3 w3.heap.size _ (R3.alloc _) hq3).mono ?_; rintro e w5 ⟨⟨hfin, rfl, R5⟩ | ⟨hfin, rfl⟩, g5⟩; rotate_left; (have HE : Hid (chn p sg st = .error (4, q3.r.length)) := (by show _ = _; rw [HQ.out.1, chnF_fin HA.out hx3 (by simpa only [ET.ex, exL] using hfin)]); have G5 := grown_trans (grown_trans (grown_trans G2 g23 (fun _ hk => .inl hk)) (World.grownBy_alloc _ _ none) (fun _ hk => by cases hk)) g5 (fun _ hk => .inl hk); clear hfin; go_wp2_with fail; exact ⟨rfl, .inr ⟨_, HE.out, rfl⟩, G5⟩); have FY5 := grown_block g5 ((Below.heap_alloc _ _ _ (lt_of_block FY3)).trans FY3) hYB; obtain ⟨a0, a1, a2, a3, a4, a5, a6⟩ := seven_cells FY5; obtain ⟨b0, b1, b2, b3, b4, b5, b6⟩ := thaw7 FY5))
   all_goals
    have hex : ET.ex (ET.node ⟨4, 0, 0, lit x, [], []⟩ ⟨none, 0, none, 0, some ⟨w3.heap.size, 0, none⟩, 2⟩ [t, u]) = .mk ⟨4, 0, 0, lit x, [], []⟩ [t.ex, u.ex] := by simp [ET.ex, exL]
    have hfin2 : fin (.mk ⟨4, 0, 0, lit x, [], []⟩ [t.ex, u.ex]) q3 = .ok (ET.ex (ET.node ⟨4, 0, 0, lit x, [], []⟩ ⟨none, 0, none, 0, some ⟨w3.heap.size, 0, none⟩, 2⟩ [t, u]), ⟨q3.r, q3.n + 1⟩) := by rw [hex] at hfin ⊢; exact hfin
    have hl1 : q3.r.length ≤ r1.length := HMO.out ⟨r1, q.n⟩ _ _ hx3
    have hl2 : r1.length < q.r.length := accAny_len HA.out (fun y hy => (HLS.out y hy).1)
    have HQ2 : Hid (chn p sg st = chnF p sg k' (ET.ex (ET.node ⟨4, 0, 0, lit x, [], []⟩ ⟨none, 0, none, 0, some ⟨w3.heap.size, 0, none⟩, 2⟩ [t, u])) ⟨q3.r, q3.n + 1⟩ ∧ q3.r.length < k') := ⟨by rw [HQ.out.1, chnF_go HA.out hx3 hfin2], by have := HQ.out.2; omega⟩
    have hn1 : q3.n + 1 ≤ 100 := (fin_ok hfin2).2.2
    have hs23 := g23.size
    have IN3t := HIN2.out.cs_grown g23 (b := X + 1) (by omega)
    have IN3u := ET.In.cs (b := X + 1) (Y := Y) (b' := w2.heap.size) (by omega) (by omega) u hin3'
    have INp := pair_in (ty := 41) (x := x) IN3t IN3u (by omega) (by omega) HXM.out.2
    have INq := INp.cs_grown g5 (b := X + 1) (by omega)
    have HINF := hide (ET.In.cs_put (u := (ET.node ⟨4, 0, 0, lit x, [], []⟩ ⟨none, 0, none, 0, some ⟨w3.heap.size, 0, none⟩, 2⟩ [t, u])) INq)
    have G4 := grown_trans (grown_trans (grown_trans G2 g23 (fun _ hk => .inl hk)) (World.grownBy_alloc _ _ none) (fun _ hk => by cases hk)) g5 (fun _ hk => .inl hk)
    have FX3 := grown_block g23 FX2 hXB
    have FX5 := grown_block g5 ((Below.heap_alloc _ _ _ (lt_of_block FX3)).trans FX3) hXB
    have HFXF := hide ((put7_far (t := (ET.node ⟨4, 0, 0, lit x, [], []⟩ ⟨none, 0, none, 0, some ⟨w3.heap.size, 0, none⟩, 2⟩ [t, u])) (X := Y) (w := w5) (k := X) (by omega)).trans FX5)
    have HFYF := hide (put7_blk (t := (ET.node ⟨4, 0, 0, lit x, [], []⟩ ⟨none, 0, none, 0, some ⟨w3.heap.size, 0, none⟩, 2⟩ [t, u])) FY5)
    have HRF := hide (put7_rd (t := (ET.node ⟨4, 0, 0, lit x, [], []⟩ ⟨none, 0, none, 0, some ⟨w3.heap.size, 0, none⟩, 2⟩ [t, u])) R5 (Ne.symm hYB))
    have HGF := hide (put7_grown (t := (ET.node ⟨4, 0, 0, lit x, [], []⟩ ⟨none, 0, none, 0, some ⟨w3.heap.size, 0, none⟩, 2⟩ [t, u])) G4 (X := Y) (by have := HX.out; omega))
    have hp1 : pos s q.r < pos s q3.r := by
     have := suf_len HRF.out.suf
     simp only at this
     unfold pos
     omega
    clear hx3 hfin hfin2 hex INp INq IN3t IN3u FX3 FX5 G4 FY5 a0 a1 a2 a3 a4 a5 a6 b0 b1 b2 b3 b4 b5 b6
    go_wp2_with fail
    go_roundw
    case rel => exact ⟨(ET.node ⟨4, 0, 0, lit x, [], []⟩ ⟨none, 0, none, 0, some ⟨w3.heap.size, 0, none⟩, 2⟩ [t, u]), ⟨q3.r, q3.n + 1⟩, k', HQ2, HINF.out, HFYF.out, HFXF.out, HRF.out, hn1, HGF.out⟩
    case measure =>
     show s.size - (intOf (((put7 w5 Y (ET.node ⟨4, 0, 0, lit x, [], []⟩ ⟨none, 0, none, 0, some ⟨w3.heap.size, 0, none⟩, 2⟩ [t, u])).cell? ⟨B, 1, none⟩).getD undef)).toNat < _
     rw [HRF.out.cells.2.1, HRw.out]
     have := suf_len HRF.out.suf
     simp [intOf]
     unfold pos at *
     simp only at *
     omega
  ·have HE : Hid (chn p sg st = .ok (t.ex, q)) := by show _ = _; rw [HQ.out.1, chnF_none hx]
   have G2 := grown_trans gr g2 (fun _ hk => .inl hk)
   have FY2 := grown_block g2 FY hYB
   have FX2 := grown_block g2 FXr hXB
   obtain ⟨y0, y1, y2, y3, y4, y5, y6⟩ := seven_cells FY2
   obtain ⟨x0, x1, x2, x3, x4, x5, x6⟩ := seven_cells FX2
   obtain ⟨u0, u1, u2, u3, u4, u5, u6⟩ := thaw7 FX2
   have HRF := hide (put7_rd (t := t) R2 (Ne.symm hXB))
   have HGF := hide (put7_grown (t := t) G2 (X := X) (by have := HX.out; omega))
   have HIF := hide (ET.In.low (b' := w.heap.size) (by have := HX.out; omega) t (put7_in (t := t) (ET.In.of_strip t (HIN.out.cs_grown g2 (b := X + 1) (by omega))) (X := X) (by omega)))
   clear hx R2 g2 G2 FY2 FX2 FY FXr R gr HIN HQ
   unfold put7 at HRF HGF HIF
   go_wp2
   exact bodyPost_ret (v := eval t) (by simp [eval, results, Tryz.results104, go_sem, x0, x1, x2, x3, x4, x5, x6]) rfl ⟨.inl ⟨t, q, HE.out, rfl, HIF.out, HRF.out, hq⟩, HGF.out⟩
set_option maxHeartbeats 8000000 in
theorem schain_of {d : Int} {p : St → Except Flt (Ex × St)} (hf : Reads 106 d p) (hmono : ∀ st x q, p st = .ok (x, q) → q.r.length ≤ st.r.length) (sg : List (List UInt8)) (hsg : ∀ y ∈ sg, 0 < y.length ∧ y.length ≤ 100) (bo : Option Addr) (m c : Nat)
  (s : ByteArray) (st : St) (B Z1 Z2 : Nat) (w0 w : World) (h : Rd 95 w B s st) (hs : s.size ≤ 2000) (hn : st.n ≤ 100) (hv : ErrV w0) (hb0 : Below w0.heap.size w0 w) (hB0 : w0.heap.size ≤ B) (z1 : w.cell? ⟨Z1, 0, none⟩ = some (.pointer (some ⟨B, 0, none⟩))) (z2 : w.cell? ⟨Z2, 0, none⟩ = some (.int .i64 d)) (hZ1 : Z1 ≠ B) (hZ2 : Z2 ≠ B)
  (hb : Seg w bo (wcells (slit sg))) (hm : m = sg.length) (hM : m ≤ 100) (hne : ∀ b off, bo = some ⟨b, off, none⟩ → b ≠ B) :
  Calls Tryz.prog 104 #[.pointer (some ⟨B, 0, none⟩), .slice bo m c, .func (.func 105) #[] #[.pointer (some ⟨Z1, 0, none⟩), .pointer (some ⟨Z2, 0, none⟩)]] w (EPost s B w (chn p sg st)) := by
 have hB := h.lt
 obtain ⟨X, hX⟩ : ∃ X, X = w.heap.size := ⟨_, rfl⟩
 obtain ⟨V, hV⟩ : ∃ V, V = w.alloc (.cells #[.int .i64 0, .int .i64 0, .int .i64 0, .string ⟨#[]⟩, .slice none 0 0, .slice none 0 0, .slice none 0 0] 41) := ⟨_, rfl⟩
 have R0 : Rd 95 V B s st := by rw [hV]; exact h.alloc _
 have G0 : w.grownBy V (some B) := by rw [hV]; exact grown_trans (World.grownBy.refl _ _) (World.grownBy_alloc _ _ none) (fun _ hk => by cases hk)
 have FX : V.heap[X]? = some (.cells #[.int .i64 0, .int .i64 0, .int .i64 0, .string ⟨#[]⟩, .slice none 0 0, .slice none 0 0, .slice none 0 0] 41 (0, 0)) := by rw [hV, hX]; exact heap_alloc_new w _
 have hVs : V.heap.size = X + 1 := by rw [hV, hX]; simp
 have HCL := hide (fun (s' : ByteArray) (st' : St) (w' : World) (h' : Rd 95 w' B s' st') (hs' : s'.size ≤ 2000) (hn' : st'.n ≤ 100) (g' : w.grownBy w' (some B)) => sclos_of hf s' st' B Z1 Z2 w0 w' h' hs' hn' hv (hb0.grown g' hb0.size (fun j hj => by cases hj; exact hB0)) hB0 (cell_grown g' hZ1 z1) (cell_grown g' hZ2 z2))
 have HSG := hide (fun (w' : World) (g' : w.grownBy w' (some B)) => seg_grown hb g' hne)
 have HF := hide FX
 have HG := hide G0
 have HR := hide R0
 have HV := hide hV
 have HX := hide hX
 have HNE := hide hne
 have HM := hide hm
 have HMO := hide hmono
 have HLS := hide hsg
 have hXB : X ≠ B := by omega
 have hBX : B < X := by omega
 clear hV FX G0 R0 hf hX hb hne hv hb0 z1 z2 hZ1 hZ2 hB0 h hm hmono hsg
 go_enter Tryz.func104, Tryz.ntmps104
 go_wp2_with fail
 rw [← HV.out, ← HX.out]
 refine (HCL.out s st V HR.out hs hn HG.out).mono ?_
 rintro e w1 ⟨⟨t0, q0, hx, rfl, hin, R1, hq⟩ | ⟨f, hf, rfl⟩, g⟩
 rotate_left
 ·have HE : Hid (chn p sg st = .error f) := by show _ = _; unfold chn; rw [hf]
  have G := grown_trans HG.out g (fun _ hk => .inl hk)
  clear hf
  go_wp2_with fail
  exact ⟨rfl, .inr ⟨f, HE.out, rfl⟩, G⟩
 have HQ : Hid (chn p sg st = chnF p sg (q0.r.length + 1) t0.ex q0) := by show _ = _; unfold chn; rw [hx]
 obtain ⟨Y, hY⟩ : ∃ Y, Y = w1.heap.size := ⟨_, rfl⟩
 have hXY : X + 1 ≤ Y := by have := g.size; omega
 have hYB : Y ≠ B := by have := R1.lt; omega
 have G1 := grown_trans HG.out g (fun _ hk => .inl hk)
 have FX1 := grown_block g HF.out hXB
 obtain ⟨W, hW⟩ : ∃ W, W = w1.alloc (.cells #[.int .i64 t0.hd.kind, .int .i64 t0.hd.n, .int .i64 t0.hd.range, .string t0.hd.word, .slice t0.sp.ma t0.hd.ms.length t0.sp.mc, .slice t0.sp.ba t0.hd.bs.length t0.sp.bc, .slice t0.sp.ka t0.kids.length t0.sp.kc] 41) := ⟨_, rfl⟩
 have G2 : w.grownBy W (some B) := by rw [hW]; exact grown_trans G1 (World.grownBy_alloc _ _ none) (fun _ hk => by cases hk)
 have R2 : Rd 95 W B s q0 := by rw [hW]; exact R1.alloc _
 have FX2 : W.heap[X]? = some (.cells #[.int .i64 0, .int .i64 0, .int .i64 0, .string ⟨#[]⟩, .slice none 0 0, .slice none 0 0, .slice none 0 0] 41 (0, 0)) := by rw [hW, Below.heap_alloc _ _ _ (by omega)]; exact FX1
 have FY2 : W.heap[Y]? = some (.cells #[.int .i64 t0.hd.kind, .int .i64 t0.hd.n, .int .i64 t0.hd.range, .string t0.hd.word, .slice t0.sp.ma t0.hd.ms.length t0.sp.mc, .slice t0.sp.ba t0.hd.bs.length t0.sp.bc, .slice t0.sp.ka t0.kids.length t0.sp.kc] 41 (0, 0)) := by rw [hW, hY]; exact heap_alloc_new w1 _
 have IN2 : t0.In (strip Y (cut (X + 1) W)) := by rw [hW]; rw [hVs] at hin; exact hin.cs_new hY
 have HI := hide (show (∃ (t : ET) (q : St) (k : Nat), (chn p sg st = chnF p sg k t.ex q ∧ q.r.length < k) ∧ t.In (strip Y (cut (X + 1) W)) ∧ W.heap[Y]? = some (.cells #[.int .i64 t.hd.kind, .int .i64 t.hd.n, .int .i64 t.hd.range, .string t.hd.word, .slice t.sp.ma t.hd.ms.length t.sp.mc, .slice t.sp.ba t.hd.bs.length t.sp.bc, .slice t.sp.ka t.kids.length t.sp.kc] 41 (0, 0)) ∧ W.heap[X]? = some (.cells #[.int .i64 0, .int .i64 0, .int .i64 0, .string ⟨#[]⟩, .slice none 0 0, .slice none 0 0, .slice none 0 0] 41 (0, 0)) ∧ Rd 95 W B s q ∧ q.n ≤ 100 ∧ w.grownBy W (some B)) from ⟨t0, q0, _, ⟨HQ.out, by omega⟩, IN2, FY2, FX2, R2, hq, G2⟩)
 have HW := hide hW
 have HY := hide hY
 clear hW hx hin R1 g G1 FX1 G2 R2 FX2 FY2 IN2 HQ hq hY
 unfold eval
 go_wp2_with fail
 rw [← HW.out, ← HY.out]
 go_loopw [8] (fun _ wr => ∃ (t : ET) (q : St) (k : Nat), Hid (chn p sg st = chnF p sg k t.ex q ∧ q.r.length < k) ∧ Hid (t.In (strip Y (cut (X + 1) wr))) ∧ wr.heap[Y]? = some (.cells #[.int .i64 t.hd.kind, .int .i64 t.hd.n, .int .i64 t.hd.range, .string t.hd.word, .slice t.sp.ma t.hd.ms.length t.sp.mc, .slice t.sp.ba t.hd.bs.length t.sp.bc, .slice t.sp.ka t.kids.length t.sp.kc] 41 (0, 0)) ∧ wr.heap[X]? = some (.cells #[.int .i64 0, .int .i64 0, .int .i64 0, .string ⟨#[]⟩, .slice none 0 0, .slice none 0 0, .slice none 0 0] 41 (0, 0)) ∧ Rd 95 wr B s q ∧ q.n ≤ 100 ∧ w.grownBy wr (some B)) (fun _ wr => s.size - (intOf ((wr.cell? ⟨B, 1, none⟩).getD undef)).toNat)
 case atStart =>
  obtain ⟨t, q, k, a, b, c, d, e, f, g⟩ := HI.out
  exact ⟨t, q, k, a, b, c, d, e, f, g⟩
 case round =>
  clear HI HW
  obtain ⟨t, q, k, HQ, HIN, FY, FXr, R, hq, gr⟩ := hrel
  obtain ⟨k', hk'⟩ : ∃ k', k = k' + 1 := ⟨k - 1, by have := HQ.out.2; omega⟩
  subst hk'
  have HS := hide (signs_any sg bo m c s q B wr R hs (HSG.out wr gr) HM.out hM HNE.out)
  go_wp2_with fail
  refine HS.out.mono ?_
  rintro e w2 ⟨⟨kk, x, r1, hx, hkm, hxk, rfl, R2⟩ | ⟨hx, rfl, R2⟩, g2⟩
  ·have G2 := grown_trans gr g2 (fun _ hk => .inl hk)
   have FY2 := grown_block g2 FY hYB
   have FX2 := grown_block g2 FXr hXB
   have HIN2 := hide (HIN.out.cs_grown g2 (b := X + 1) (by omega))
   have HA := hide hx
   have hkl : kk < (slit sg).length := by rw [slit, List.length_map, ← HM.out]; exact hkm
   obtain ⟨b, off, hbo, hbl, hcell⟩ := seg_word (HSG.out w2 G2) hkl
   have hxs : (slit sg).getD kk ⟨#[]⟩ = lit x := by
    have hk2 : kk < sg.length := by rw [← HM.out]; exact hkm
    rw [slit_at hk2]
    rw [List.getElem?_eq_getElem hk2] at hxk
    rw [Option.some.inj hxk]
   have c0 : w2.cell? ⟨b, off + kk, none⟩ = some (.string (lit x)) := by rw [← hxs]; exact hcell kk hkl
   have hbB : b ≠ B := HNE.out b off hbo
   have HXM := hide (HLS.out x (List.mem_of_getElem? hxk))
   obtain ⟨y0, y1, y2, y3, y4, y5, y6⟩ := seven_cells FY2
   have hk0 : ¬ (kk : Int) < 0 := by omega
   have hkm' : (kk : Int) < (m : Int) := by omega
   have R2d := R2.drewN 1
   have HC1 := hide (fun (v : World) (hv : Rd 95 v B s ⟨r1, q.n⟩) (gv : w.grownBy v (some B)) => HCL.out s ⟨r1, q.n⟩ v hv hs hq gv)
   have hw2 := g2.size
   subst hbo
   have HRw := hide R.cells.2.1
   have hql : q.r.length ≤ s.size := suf_len R.suf
   have hYw : Y < wr.heap.size := lt_of_block FY
   clear hx hxk hxs hcell hkl g2 FY FXr R gr HIN HS
   go_wp2_with fail
   have HPE : Hid (∀ ff, p ⟨r1, q.n⟩ = .error ff → chn p sg st = .error ff) := fun ff hff => by rw [HQ.out.1, chnF_part HA.out hff]
   have HEND := hide (fun (u : ET) (q3 : St) (Z : Nat) (v : World) (hv : Rd 95 v B s q3) (hn3 : q3.n ≤ 100) => ended_any (.node ⟨4, 0, 0, lit x, [], []⟩ ⟨none, 0, none, 0, some ⟨Z, 0, none⟩, 2⟩ [t, u]) s q3 B v hv (by omega))
   simp only [eval, ET.hd, ET.sp, ET.kids, List.length_nil, List.length_cons] at HEND
   go_region_with
    (first
     | (go_at_call 105; refine (HC1.out _ (by first | exact R2 | exact R2.drewN 1) (by first | exact G2 | exact grown_drewN G2 1)).mono ?_; rintro e w3 ⟨⟨u, q3, hx3, rfl, hin3, R3, hq3⟩ | ⟨ff, hff, rfl⟩, g3⟩; rotate_left; (have HE := hide (HPE.out ff hff); have G3 := grown_trans (by first | exact G2 | exact grown_drewN G2 1) g3 (fun _ hk => .inl hk); clear hff; go_wp2_with fail; exact ⟨rfl, .inr ⟨ff, HE.out, rfl⟩, G3⟩); have c3 := cell_grown g3 hbB (by assumption : _ = some (Value.string (lit x))); have FY3 := grown_block g3 (by assumption : _ = some (Obj.cells #[.int .i64 t.hd.kind, .int .i64 t.hd.n, .int .i64 t.hd.range, .string t.hd.word, .slice t.sp.ma t.hd.ms.length t.sp.mc, .slice t.sp.ba t.hd.bs.length t.sp.bc, .slice t.sp.ka t.kids.length t.sp.kc] 41 (0, 0))) hYB; obtain ⟨v0, v1, v2, v3, v4, v5, v6⟩ := seven_cells FY3; have g23 : w2.grownBy w3 (some B) := grown_trans (by first | exact World.grownBy.refl _ _ | exact grown_drewN (World.grownBy.refl _ _) 1) g3 (fun _ hk => .inl hk); have hin3' : u.In (cut w2.heap.size w3) := hin3; have hb3 : b < w3.heap.size := World.block_lt_of_cell? w3 _ c3; have hb4 : (w3.alloc (Obj.cells #[.int .i64 t.hd.kind, .int .i64 t.hd.n, .int .i64 t.hd.range, .string t.hd.word, .slice t.sp.ma t.hd.ms.length t.sp.mc, .slice t.sp.ba t.hd.bs.length t.sp.bc, .slice t.sp.ka t.kids.length t.sp.kc, .int .i64 u.hd.kind, .int .i64 u.hd.n, .int .i64 u.hd.range, .string u.hd.word, .slice u.sp.ma u.hd.ms.length u.sp.mc, .slice u.sp.ba u.hd.bs.length u.sp.bc, .slice u.sp.ka u.kids.length u.sp.kc] 41)).cell? ⟨b, off + kk, none⟩ = some (Value.string (lit x)) := (((Below.refl _ w3).alloc (Nat.le_refl _) _).cell (p := ⟨b, off + kk, none⟩) hb3).trans c3; unfold eval)
     | (go_at_call 146; refine (HEND.out u q3 w3.heap.size _ (R3.alloc _) hq3).mono ?_; rintro e w5 ⟨⟨hfin, rfl, R5⟩ | ⟨hfin, rfl⟩, g5⟩; rotate_left; (have HE : Hid (chn p sg st = .error (4, q3.r.length)) := (by show _ = _; rw [HQ.out.1, chnF_fin HA.out hx3 (by simpa only [ET.ex, exL] using hfin)]); have G5 := grown_trans (grown_trans (grown_trans G2 g23 (fun _ hk => .inl hk)) (World.grownBy_alloc _ _ none) (fun _ hk => by cases hk)) g5 (fun _ hk => .inl hk); clear hfin; go_wp2_with fail; exact ⟨rfl, .inr ⟨_, HE.out, rfl⟩, G5⟩); have FY5 := grown_block g5 ((Below.heap_alloc _ _ _ (lt_of_block FY3)).trans FY3) hYB; obtain ⟨a0, a1, a2, a3, a4, a5, a6⟩ := seven_cells FY5; obtain ⟨b0, b1, b2, b3, b4, b5, b6⟩ := thaw7 FY5))
   all_goals
    have hex : ET.ex (ET.node ⟨4, 0, 0, lit x, [], []⟩ ⟨none, 0, none, 0, some ⟨w3.heap.size, 0, none⟩, 2⟩ [t, u]) = .mk ⟨4, 0, 0, lit x, [], []⟩ [t.ex, u.ex] := by simp [ET.ex, exL]
    have hfin2 : fin (.mk ⟨4, 0, 0, lit x, [], []⟩ [t.ex, u.ex]) q3 = .ok (ET.ex (ET.node ⟨4, 0, 0, lit x, [], []⟩ ⟨none, 0, none, 0, some ⟨w3.heap.size, 0, none⟩, 2⟩ [t, u]), ⟨q3.r, q3.n + 1⟩) := by rw [hex] at hfin ⊢; exact hfin
    have hl1 : q3.r.length ≤ r1.length := HMO.out ⟨r1, q.n⟩ _ _ hx3
    have hl2 : r1.length < q.r.length := accAny_len HA.out (fun y hy => (HLS.out y hy).1)
    have HQ2 : Hid (chn p sg st = chnF p sg k' (ET.ex (ET.node ⟨4, 0, 0, lit x, [], []⟩ ⟨none, 0, none, 0, some ⟨w3.heap.size, 0, none⟩, 2⟩ [t, u])) ⟨q3.r, q3.n + 1⟩ ∧ q3.r.length < k') := ⟨by rw [HQ.out.1, chnF_go HA.out hx3 hfin2], by have := HQ.out.2; omega⟩
    have hn1 : q3.n + 1 ≤ 100 := (fin_ok hfin2).2.2
    have hs23 := g23.size
    have IN3t := HIN2.out.cs_grown g23 (b := X + 1) (by omega)
    have IN3u := ET.In.cs (b := X + 1) (Y := Y) (b' := w2.heap.size) (by omega) (by omega) u hin3'
    have INp := pair_in (ty := 41) (x := x) IN3t IN3u (by omega) (by omega) HXM.out.2
    have INq := INp.cs_grown g5 (b := X + 1) (by omega)
    have HINF := hide (ET.In.cs_put (u := (ET.node ⟨4, 0, 0, lit x, [], []⟩ ⟨none, 0, none, 0, some ⟨w3.heap.size, 0, none⟩, 2⟩ [t, u])) INq)
    have G4 := grown_trans (grown_trans (grown_trans G2 g23 (fun _ hk => .inl hk)) (World.grownBy_alloc _ _ none) (fun _ hk => by cases hk)) g5 (fun _ hk => .inl hk)
    have FX3 := grown_block g23 FX2 hXB
    have FX5 := grown_block g5 ((Below.heap_alloc _ _ _ (lt_of_block FX3)).trans FX3) hXB
    have HFXF := hide ((put7_far (t := (ET.node ⟨4, 0, 0, lit x, [], []⟩ ⟨none, 0, none, 0, some ⟨w3.heap.size, 0, none⟩, 2⟩ [t, u])) (X := Y) (w := w5) (k := X) (by omega)).trans FX5)
    have HFYF := hide (put7_blk (t := (ET.node ⟨4, 0, 0, lit x, [], []⟩ ⟨none, 0, none, 0, some ⟨w3.heap.size, 0, none⟩, 2⟩ [t, u])) FY5)
    have HRF := hide (put7_rd (t := (ET.node ⟨4, 0, 0, lit x, [], []⟩ ⟨none, 0, none, 0, some ⟨w3.heap.size, 0, none⟩, 2⟩ [t, u])) R5 (Ne.symm hYB))
    have HGF := hide (put7_grown (t := (ET.node ⟨4, 0, 0, lit x, [], []⟩ ⟨none, 0, none, 0, some ⟨w3.heap.size, 0, none⟩, 2⟩ [t, u])) G4 (X := Y) (by have := HX.out; omega))
    have hp1 : pos s q.r < pos s q3.r := by
     have := suf_len HRF.out.suf
     simp only at this
     unfold pos
     omega
    clear hx3 hfin hfin2 hex INp INq IN3t IN3u FX3 FX5 G4 FY5 a0 a1 a2 a3 a4 a5 a6 b0 b1 b2 b3 b4 b5 b6
    go_wp2_with fail
    go_roundw
    case rel => exact ⟨(ET.node ⟨4, 0, 0, lit x, [], []⟩ ⟨none, 0, none, 0, some ⟨w3.heap.size, 0, none⟩, 2⟩ [t, u]), ⟨q3.r, q3.n + 1⟩, k', HQ2, HINF.out, HFYF.out, HFXF.out, HRF.out, hn1, HGF.out⟩
    case measure =>
     show s.size - (intOf (((put7 w5 Y (ET.node ⟨4, 0, 0, lit x, [], []⟩ ⟨none, 0, none, 0, some ⟨w3.heap.size, 0, none⟩, 2⟩ [t, u])).cell? ⟨B, 1, none⟩).getD undef)).toNat < _
     rw [HRF.out.cells.2.1, HRw.out]
     have := suf_len HRF.out.suf
     simp [intOf]
     unfold pos at *
     simp only at *
     omega
  ·have HE : Hid (chn p sg st = .ok (t.ex, q)) := by show _ = _; rw [HQ.out.1, chnF_none hx]
   have G2 := grown_trans gr g2 (fun _ hk => .inl hk)
   have FY2 := grown_block g2 FY hYB
   have FX2 := grown_block g2 FXr hXB
   obtain ⟨y0, y1, y2, y3, y4, y5, y6⟩ := seven_cells FY2
   obtain ⟨x0, x1, x2, x3, x4, x5, x6⟩ := seven_cells FX2
   obtain ⟨u0, u1, u2, u3, u4, u5, u6⟩ := thaw7 FX2
   have HRF := hide (put7_rd (t := t) R2 (Ne.symm hXB))
   have HGF := hide (put7_grown (t := t) G2 (X := X) (by have := HX.out; omega))
   have HIF := hide (ET.In.low (b' := w.heap.size) (by have := HX.out; omega) t (put7_in (t := t) (ET.In.of_strip t (HIN.out.cs_grown g2 (b := X + 1) (by omega))) (X := X) (by omega)))
   clear hx R2 g2 G2 FY2 FX2 FY FXr R gr HIN HQ
   unfold put7 at HRF HGF HIF
   go_wp2
   exact bodyPost_ret (v := eval t) (by simp [eval, results, Tryz.results104, go_sem, x0, x1, x2, x3, x4, x5, x6]) rfl ⟨.inl ⟨t, q, HE.out, rfl, HIF.out, HRF.out, hq⟩, HGF.out⟩
end Go.Proofs.YtoldmigappbjcaaGreatDoor
