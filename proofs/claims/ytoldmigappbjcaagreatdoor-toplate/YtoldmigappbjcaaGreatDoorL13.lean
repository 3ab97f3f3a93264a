import Derived.Test.YtoldmigappbjcaaGreatDoorL11
import Derived.Test.YtoldmigappbjcaaGreatDoorL12
namespace Go.GrainU
open Go.RowKit
theorem wrdOf_len {m : List ByteArray} {r x r' : List UInt8} (h : wrdOf m r = .ok (x, r')) : x.length ≤ 12 := by
 unfold wrdOf at h
 split at h
 ·cases h
 ·rename_i p hp
  split at h
  ·injection h with h; rw [h] at hp; exact wrd_len hp
  ·cases h
end Go.GrainU
namespace Go.Proofs.YtoldmigappbjcaaGreatDoor
open Go.RowKit Go.GrainU
theorem pwords_new (w : World) : Calls Tryz.prog 26 #[] w fun e w' => e = .returned (.slice (some ⟨w.heap.size, 0, none⟩) 8 8) ∧ w' = w.alloc (.cells #[.string ⟨#[97, 118, 103]⟩, .string ⟨#[99, 111, 117, 110, 116]⟩, .string ⟨#[102, 105, 114, 115, 116]⟩, .string ⟨#[108, 97, 115, 116]⟩, .string ⟨#[109, 97, 120]⟩, .string ⟨#[109, 105, 110]⟩, .string ⟨#[114, 105, 115, 101]⟩, .string ⟨#[115, 117, 109]⟩] 9) := by
 go_enter Tryz.func26, Tryz.ntmps26
 go_wp2
 go_ret
 exact ⟨rfl, rfl⟩
set_option maxHeartbeats 2000000 in
theorem factor_zero : Reads 148 21 (fct 0) := by
 intro s st B w0 w h hs hn hv hb0 hB0
 have hB := h.lt
 have R0 := h.alloc (.cells #[.int .i64 0, .int .i64 0, .int .i64 0, .string ⟨#[]⟩, .slice none 0 0, .slice none 0 0, .slice none 0 0] 41)
 have G0 : w.grownBy (w.alloc (.cells #[.int .i64 0, .int .i64 0, .int .i64 0, .string ⟨#[]⟩, .slice none 0 0, .slice none 0 0, .slice none 0 0] 41)) (some B) := grown_trans (World.grownBy.refl _ _) (World.grownBy_alloc _ _ none) (fun _ hk => by cases hk)
 obtain ⟨c0, c1, c2⟩ := R0.cells
 obtain ⟨K, hK⟩ : ∃ K, K = pos s st.r := ⟨_, rfl⟩
 rw [← hK] at c1
 have HK := hide hK
 have HG := hide G0
 clear hK G0 R0
 go_enter Tryz.func148, Tryz.ntmps148
 go_wp2_with fail
 refine (throw_any _ _ _).mono ?_
 intro e w2 hh
 rw [hh.1, hh.2]
 clear hh
 go_wp2_with fail
 exact ⟨rfl, .inr ⟨(4, st.r.length), by simp [fct], by rw [HK.out]; rfl⟩, HG.out⟩
set_option maxRecDepth 20000 in
set_option maxHeartbeats 8000000 in
theorem factor_succ {k : Nat} {d : Int} (hd0 : 0 ≤ d) (hd1 : d ≤ 20) (hsub : Reads 62 (d + 1) (smm (fct k))) : Reads 148 d (fct (k + 1)) := by
 intro s st B w0 w h hs hn hv hb0 hB0
 obtain ⟨i0, hi, hz0, hz1, hz2⟩ := info_parts Tryz.infoStr
 have hB := h.lt
 obtain ⟨X, hX⟩ : ∃ X, X = w.heap.size := ⟨_, rfl⟩
 obtain ⟨V, hV⟩ : ∃ V, V = w.alloc (.cells #[.int .i64 0, .int .i64 0, .int .i64 0, .string ⟨#[]⟩, .slice none 0 0, .slice none 0 0, .slice none 0 0] 41) := ⟨_, rfl⟩
 have R0 : Rd 95 V B s st := by rw [hV]; exact h.alloc _
 have G0 : w.grownBy V (some B) := by rw [hV]; exact grown_trans (World.grownBy.refl _ _) (World.grownBy_alloc _ _ none) (fun _ hk => by cases hk)
 have FX0 : V.heap[X]? = some (.cells #[.int .i64 0, .int .i64 0, .int .i64 0, .string ⟨#[]⟩, .slice none 0 0, .slice none 0 0, .slice none 0 0] 41 (0, 0)) := by rw [hV, hX]; exact heap_alloc_new w _
 have hXB : X ≠ B := by omega
 have hXw : w.heap.size ≤ X := by omega
 have hdn : ¬ (20 : Int) < d := by omega
 have HV := hide hV
 have HX := hide hX
 have HEV := hide hv
 have HB0 := hide hb0
 have HSUB := hide hsub
 have HALL := hide (fun (s' : ByteArray) (st' : St) (w' : World) (h' : Rd 95 w' B s' st') (hs' : s'.size ≤ 2000) (hn' : st'.n ≤ 100) (hb' : Below w0.heap.size w0 w') => all_of hd0 (by omega) hsub s' st' B w0 w' h' hs' hn' hv hb' hB0)
 have A0 := hide (accept_any [40] s st B V R0 hs)
 unfold lit at A0
 clear hV hX h hv hb0 R0 hsub
 go_enter Tryz.func148, Tryz.ntmps148
 go_wp2_with fail
 rw [← HV.out, ← HX.out]
 cases ha : acc [40] st.r with
 | some r1 =>
  have QA := hide ha
  rw [ha] at A0
  simp only [Option.getD_some, Option.isSome_some] at A0
  clear ha
  refine A0.out.mono ?_
  rintro e w1 ⟨rfl, R1, g⟩
  have G1 := grown_trans G0 g (fun _ hk => .inl hk)
  have FX1 := grown_block g FX0 hXB
  clear g G0 FX0 A0
  have hX1 := lt_of_block FX1
  obtain ⟨S, hS⟩ : ∃ S, S = w1.heap.size := ⟨_, rfl⟩
  have hXS : X < S := by omega
  have hBS : B < S := by rw [hS]; exact R1.lt
  have HSC := hide (HSUB.out s ⟨r1, st.n⟩ B w0 w1 R1 hs hn HEV.out (HB0.out.grown G1 HB0.out.size (fun j hj => by cases hj; exact hB0)) hB0)
  unfold EPost at HSC; rw [← hS] at HSC
  have HS := hide hS
  clear hS hX1
  go_wp2_with fail
  refine HSC.out.mono ?_
  rintro e w2 ⟨⟨t, q, hx, rfl, IN2, R2, hq⟩ | ⟨f, hf, rfl⟩, g⟩
  rotate_left
  ·have HE : Hid (fct (k + 1) st = .error f) := by show _ = _; rw [fct]; simp only [QA.out, hf]
   have G := grown_trans G1 g (fun _ hk => .inl hk)
   clear hf
   go_wp2_with fail
   exact ⟨rfl, .inr ⟨_, HE.out, rfl⟩, G⟩
  have QS := hide hx
  have G2 := grown_trans G1 g (fun _ hk => .inl hk)
  have FX2 := grown_block g FX1 hXB
  have hS2 : S ≤ w2.heap.size := by have := g.size; have := HS.out; omega
  clear g hx G1 FX1 R1 HSC
  obtain ⟨Y, hY⟩ : ∃ Y, Y = w2.heap.size := ⟨_, rfl⟩
  have hYB : Y ≠ B := by omega
  obtain ⟨w3, hw3⟩ : ∃ v, v = w2.alloc (.cells #[.int .i64 t.hd.kind, .int .i64 t.hd.n, .int .i64 t.hd.range, .string t.hd.word, .slice t.sp.ma t.hd.ms.length t.sp.mc, .slice t.sp.ba t.hd.bs.length t.sp.bc, .slice t.sp.ka t.kids.length t.sp.kc] 41) := ⟨_, rfl⟩
  have R3 : Rd 95 w3 B s q := by rw [hw3]; exact R2.alloc _
  have G3 : w.grownBy w3 (some B) := by rw [hw3]; exact grown_trans G2 (World.grownBy_alloc _ _ none) (fun _ hk => by cases hk)
  have FX3 : w3.heap[X]? = some (.cells #[.int .i64 0, .int .i64 0, .int .i64 0, .string ⟨#[]⟩, .slice none 0 0, .slice none 0 0, .slice none 0 0] 41 (0, 0)) := by rw [hw3, Below.heap_alloc _ _ _ (by omega)]; exact FX2
  have FY3 : w3.heap[Y]? = some (.cells #[.int .i64 t.hd.kind, .int .i64 t.hd.n, .int .i64 t.hd.range, .string t.hd.word, .slice t.sp.ma t.hd.ms.length t.sp.mc, .slice t.sp.ba t.hd.bs.length t.sp.bc, .slice t.sp.ka t.kids.length t.sp.kc] 41 (0, 0)) := by rw [hw3, hY]; exact heap_alloc_new w2 _
  have IN3 : t.In (cut S w3) := by rw [hw3]; exact IN2.grown (B := B) (grown_trans (World.grownBy.refl _ _) (World.grownBy_alloc _ _ none) (fun _ hk => by cases hk)) hBS
  have HW3 := hide hw3
  have HY := hide hY
  clear hw3 hY R2 G2 FX2 IN2
  unfold eval
  go_wp2_with fail
  rw [← HW3.out, ← HY.out]
  have E4 := hide (expect_any [41] s q B w3 R3 hs)
  unfold lit at E4
  refine E4.out.mono ?_
  rintro e w4 ⟨⟨r4, hx, rfl, R4⟩ | ⟨f, hf, rfl⟩, g⟩
  rotate_left
  ·have HE : Hid (fct (k + 1) st = .error f) := by show _ = _; rw [fct]; simp only [QA.out, QS.out, hf]
   have G := grown_trans G3 g (fun _ hk => .inl hk)
   clear hf
   go_wp2_with fail
   exact ⟨rfl, .inr ⟨_, HE.out, rfl⟩, G⟩
  have HQ : Hid (fct (k + 1) st = .ok (t.ex, ⟨r4, q.n⟩)) := by show _ = _; rw [fct]; simp only [QA.out, QS.out, hx]
  have G4 := grown_trans G3 g (fun _ hk => .inl hk)
  have FX4 := grown_block g FX3 hXB
  have FY4 := grown_block g FY3 hYB
  have IN4 := IN3.grown g hBS
  clear g hx G3 FX3 FY3 R3 IN3 E4
  obtain ⟨y0, y1, y2, y3, y4, y5, y6⟩ := seven_cells FY4
  obtain ⟨z0, z1, z2, z3, z4, z5, z6⟩ := seven_cells FX4
  obtain ⟨u0, u1, u2, u3, u4, u5, u6⟩ := thaw7 FX4
  have HRF := hide (put7_rd (t := t) R4 (Ne.symm hXB))
  have HGF := hide (put7_grown (t := t) G4 (X := X) hXw)
  have HIN := hide (ET.In.low (b' := w.heap.size) (by omega) t (put7_in (t := t) IN4 (X := X) (by omega)))
  clear R4 G4 FX4 IN4
  unfold put7 at HRF HGF HIN
  go_wp2
  exact bodyPost_ret (v := eval t) (by simp [eval, results, Tryz.results148, go_sem, z0, z1, z2, z3, z4, z5, z6]) rfl ⟨.inl ⟨t, _, HQ.out, rfl, HIN.out, HRF.out, hq⟩, HGF.out⟩
 | none =>
  have QA := hide ha
  rw [ha] at A0
  simp only [Option.getD_none, Option.isSome_none] at A0
  clear ha
  refine A0.out.mono ?_
  rintro e w1 ⟨rfl, R1, g⟩
  have G1 := grown_trans G0 g (fun _ hk => .inl hk)
  have FX1 := grown_block g FX0 hXB
  clear g G0 FX0 A0
  have HN := hide (rnext_any s st B w1 R1 hs)
  have HD := hide (digit_byte (nxt st.r) w1)
  go_wp2_with fail
  refine HN.out.mono ?_
  intro e w2 hh
  rw [hh.1, hh.2]
  clear hh
  go_wp2_with fail
  cases hdg : digit (nxt st.r) with
  | true =>
   have QD := hide hdg
   rw [hdg] at HD
   clear hdg HN
   refine HD.out.mono ?_
   intro e w2 hh
   rw [hh.1, hh.2]
   clear hh HD
   go_wp2_with fail
   have hX1 := lt_of_block FX1
   refine (number_any 0 1000000 s st B w0 w1 R1 hs HEV.out (HB0.out.grown G1 HB0.out.size (fun j hj => by cases hj; exact hB0)) hB0).mono ?_
   rintro e w2 ⟨⟨nn, r2, hx, rfl, R2⟩ | ⟨f, hf, rfl⟩, g⟩
   rotate_left
   ·have HE : Hid (fct (k + 1) st = .error f) := by show _ = _; rw [fct]; simp only [QA.out, QD.out, if_true, hf]
    have G := grown_trans G1 g (fun _ hk => .inl hk)
    clear hf
    go_wp2_with fail
    exact ⟨rfl, .inr ⟨_, HE.out, rfl⟩, G⟩
   have QN := hide hx
   have G2 := grown_trans G1 g (fun _ hk => .inl hk)
   have FX2 := grown_block g FX1 hXB
   clear g hx G1 FX1 R1
   obtain ⟨t, htt⟩ : ∃ t : ET, t = .node ⟨1, nn, 0, lit [], [], []⟩ ⟨none, 0, none, 0, none, 0⟩ [] := ⟨_, rfl⟩
   have HEND := hide (ended_any t s ⟨r2, st.n⟩ B w2 R2 (by simp only; omega))
   have hev : eval t = .agg #[.int .i64 1, .int .i64 nn, .int .i64 0, .string ⟨#[]⟩, .slice none 0 0, .slice none 0 0, .slice none 0 0] := by rw [htt]; rfl
   have hex : t.ex = .mk ⟨1, nn, 0, lit [], [], []⟩ [] := by rw [htt]; simp [ET.ex, exL]
   have HFIN : Hid (fct (k + 1) st = fin t.ex ⟨r2, st.n⟩) := by show _ = _; rw [hex, fct]; simp only [QA.out, QD.out, if_true, QN.out]
   have HIN0 : Hid (∀ v : World, t.In (cut (X + 1) v)) := by
    intro v
    rw [htt]
    simp only [ET.In]
    exact ⟨⟨.inl rfl, .inl rfl, .inl rfl⟩, ⟨by simp, by simp, by simp, by rw [lit_size]; simp, fun m hm => by (cases hm), fun b hb => by (cases hb), Nat.le_refl _, fun m hm => by (cases hm)⟩, by simp [InL]⟩
   have HEV2 := hide hev
   rw [hev] at HEND
   clear htt hex hev
   go_wp2_with fail
   refine HEND.out.mono ?_
   rintro e w3 ⟨⟨hx, rfl, R3⟩ | ⟨hf, rfl⟩, g⟩
   ·have HQ : Hid (fct (k + 1) st = .ok (t.ex, ⟨r2, st.n + 1⟩)) := by show _ = _; rw [HFIN.out, hx]
    have hq1 : st.n + 1 ≤ 100 := (fin_ok hx).2.2
    have G3 := grown_trans G2 g (fun _ hk => .inl hk)
    have FX3 := grown_block g FX2 hXB
    have IN3 := HIN0.out w3
    clear g hx G2 FX2 R2 HEND HFIN HIN0
    rw [← HEV2.out]
    obtain ⟨z0, z1, z2, z3, z4, z5, z6⟩ := seven_cells FX3
    obtain ⟨u0, u1, u2, u3, u4, u5, u6⟩ := thaw7 FX3
    have HRF := hide (put7_rd (t := t) R3 (Ne.symm hXB))
    have HGF := hide (put7_grown (t := t) G3 (X := X) hXw)
    have HIN := hide (ET.In.low (b' := w.heap.size) (by omega) t (put7_in (t := t) IN3 (X := X) (by omega)))
    clear R3 G3 FX3 IN3
    unfold eval
    unfold put7 at HRF HGF HIN
    go_wp2
    exact bodyPost_ret (v := eval t) (by simp [eval, results, Tryz.results148, go_sem, z0, z1, z2, z3, z4, z5, z6]) rfl ⟨.inl ⟨t, _, HQ.out, rfl, HIN.out, HRF.out, hq1⟩, HGF.out⟩
   ·have HE : Hid (fct (k + 1) st = .error (4, r2.length)) := by show _ = _; rw [HFIN.out, hf]
    have G := grown_trans G2 g (fun _ hk => .inl hk)
    clear hf
    go_wp2_with fail
    exact ⟨rfl, .inr ⟨_, HE.out, rfl⟩, G⟩
  | false =>
   have QD := hide hdg
   rw [hdg] at HD
   clear hdg HN
   refine HD.out.mono ?_
   intro e w2 hh
   rw [hh.1, hh.2]
   clear hh HD
   have hX1 := lt_of_block FX1
   have hB1 := R1.lt
   obtain ⟨b, hb⟩ : ∃ b, b = w1.heap.size := ⟨_, rfl⟩
   have OW : ((w1.alloc (.cells #[.string ⟨#[97, 118, 103]⟩, .string ⟨#[99, 111, 117, 110, 116]⟩, .string ⟨#[102, 105, 114, 115, 116]⟩, .string ⟨#[108, 97, 115, 116]⟩, .string ⟨#[109, 97, 120]⟩, .string ⟨#[109, 105, 110]⟩, .string ⟨#[114, 105, 115, 101]⟩, .string ⟨#[115, 117, 109]⟩] 9)).alloc (.cells #[.string ⟨#[97, 108, 108]⟩] 9)).ownsRow b 9 1 (.slice (some ⟨b, 0, none⟩) 8 8) 8 (wcells words8) := by
    have : (w1.alloc (.cells #[.string ⟨#[97, 118, 103]⟩, .string ⟨#[99, 111, 117, 110, 116]⟩, .string ⟨#[102, 105, 114, 115, 116]⟩, .string ⟨#[108, 97, 115, 116]⟩, .string ⟨#[109, 97, 120]⟩, .string ⟨#[109, 105, 110]⟩, .string ⟨#[114, 105, 115, 101]⟩, .string ⟨#[115, 117, 109]⟩] 9)).ownsRow b 9 1 (.slice (some ⟨b, 0, none⟩) 8 8) 8 (wcells words8) :=
     ⟨rfl, .inr ⟨b, 8, #[.string ⟨#[97, 118, 103]⟩, .string ⟨#[99, 111, 117, 110, 116]⟩, .string ⟨#[102, 105, 114, 115, 116]⟩, .string ⟨#[108, 97, 115, 116]⟩, .string ⟨#[109, 97, 120]⟩, .string ⟨#[109, 105, 110]⟩, .string ⟨#[114, 105, 115, 101]⟩, .string ⟨#[115, 117, 109]⟩], rfl, Nat.le_refl _, by rw [hb]; exact heap_alloc_new w1 _, Nat.le_refl _, by unfold maxLen; omega, rfl, rfl⟩⟩
    exact this.alloc _
   have R2 := (R1.alloc (.cells #[.string ⟨#[97, 118, 103]⟩, .string ⟨#[99, 111, 117, 110, 116]⟩, .string ⟨#[102, 105, 114, 115, 116]⟩, .string ⟨#[108, 97, 115, 116]⟩, .string ⟨#[109, 97, 120]⟩, .string ⟨#[109, 105, 110]⟩, .string ⟨#[114, 105, 115, 101]⟩, .string ⟨#[115, 117, 109]⟩] 9)).alloc (.cells #[.string ⟨#[97, 108, 108]⟩] 9)
   have G2 := grown_trans (grown_trans G1 (World.grownBy_alloc w1 (.cells #[.string ⟨#[97, 118, 103]⟩, .string ⟨#[99, 111, 117, 110, 116]⟩, .string ⟨#[102, 105, 114, 115, 116]⟩, .string ⟨#[108, 97, 115, 116]⟩, .string ⟨#[109, 97, 120]⟩, .string ⟨#[109, 105, 110]⟩, .string ⟨#[114, 105, 115, 101]⟩, .string ⟨#[115, 117, 109]⟩] 9) none) (fun _ hk => by cases hk)) (World.grownBy_alloc _ (.cells #[.string ⟨#[97, 108, 108]⟩] 9) none) (fun _ hk => by cases hk)
   have FX2 : ((w1.alloc (.cells #[.string ⟨#[97, 118, 103]⟩, .string ⟨#[99, 111, 117, 110, 116]⟩, .string ⟨#[102, 105, 114, 115, 116]⟩, .string ⟨#[108, 97, 115, 116]⟩, .string ⟨#[109, 97, 120]⟩, .string ⟨#[109, 105, 110]⟩, .string ⟨#[114, 105, 115, 101]⟩, .string ⟨#[115, 117, 109]⟩] 9)).alloc (.cells #[.string ⟨#[97, 108, 108]⟩] 9)).heap[X]? = some (.cells #[.int .i64 0, .int .i64 0, .int .i64 0, .string ⟨#[]⟩, .slice none 0 0, .slice none 0 0, .slice none 0 0] 41 (0, 0)) := by rw [Below.heap_alloc _ _ _ (by simp; omega), Below.heap_alloc _ _ _ hX1]; exact FX1
   have NEW : ∀ j u, ([.string ⟨#[97, 108, 108]⟩] : List Value)[j]? = some u → ((w1.alloc (.cells #[.string ⟨#[97, 118, 103]⟩, .string ⟨#[99, 111, 117, 110, 116]⟩, .string ⟨#[102, 105, 114, 115, 116]⟩, .string ⟨#[108, 97, 115, 116]⟩, .string ⟨#[109, 97, 120]⟩, .string ⟨#[109, 105, 110]⟩, .string ⟨#[114, 105, 115, 101]⟩, .string ⟨#[115, 117, 109]⟩] 9)).alloc (.cells #[.string ⟨#[97, 108, 108]⟩] 9)).cell? ((⟨b + 1, 0, none⟩ : Addr).add j) = some u := news_one (by simp [hb]) _ _
   have hWs : ((w1.alloc (.cells #[.string ⟨#[97, 118, 103]⟩, .string ⟨#[99, 111, 117, 110, 116]⟩, .string ⟨#[102, 105, 114, 115, 116]⟩, .string ⟨#[108, 97, 115, 116]⟩, .string ⟨#[109, 97, 120]⟩, .string ⟨#[109, 105, 110]⟩, .string ⟨#[114, 105, 115, 101]⟩, .string ⟨#[115, 117, 109]⟩] 9)).alloc (.cells #[.string ⟨#[97, 108, 108]⟩] 9)).heap.size = b + 1 + 1 := by rw [hb]; simp
   have HOW := hide OW
   have HR2 := hide R2
   have HG2 := hide G2
   have HF2 := hide FX2
   have HWS := hide hWs
   have HNEW := hide NEW
   rw [hb] at HOW HNEW
   have Hb := hide hb
   clear G1 FX1 R1 NEW OW R2 G2 FX2 hWs
   go_wp2_with fail
   refine (pwords_new w1).mono ?_
   intro e w2 hh
   rw [hh.1, hh.2]
   clear hh
   go_wp2_with (at_builtin; refine wpList_append_lies _ rfl _ _ 38 rfl w1.heap.size 9 i0 (.string ⟨#[]⟩) 1 16 Tryz.underlying38 hi hz0 hz1 hz2 rfl (by decide) _ _ _ rfl HOW.out ⟨w1.heap.size + 1, 0, none⟩ 1 1 [.string ⟨#[97, 108, 108]⟩] rfl rfl HNEW.out (by simp [Value.oneCell']) (by decide) (by unfold maxLen; omega) (by omega) (by simp; omega) (w1.heap.size + 1 + 1) (by simp) ?_)
   have OW := HOW.out
   rw [← hb] at OW
   have R2 := HR2.out
   have G2 := HG2.out
   have FX2 := HF2.out
   have hWs := HWS.out
   clear HOW HR2 HG2 HF2 HWS HNEW
   intro g' cp' w5 own5 gr5 hat5 hlt5
   rw [← hb] at own5 gr5
   have R5 := R2.app (by omega) OW gr5
   have G5 : w.grownBy w5 (some B) := grown_trans G2 gr5 (fun j hj => .inr (by have := (OW.lt j hj).1; omega))
   have FX5 : w5.heap[X]? = some (.cells #[.int .i64 0, .int .i64 0, .int .i64 0, .string ⟨#[]⟩, .slice none 0 0, .slice none 0 0, .slice none 0 0] 41 (0, 0)) := (gr5.block X (by omega) (fun e => by have := (OW.lt X e.symm).1; omega)).trans FX2
   have own6 : w5.ownsRow b 9 1 (.slice (some ⟨g', 0, none⟩) 9 cp') 9 (wcells (words8 ++ [lit wordAll])) := own5
   have hg' : b ≤ g' := (own6.lt g' rfl).1
   have SG : Seg w5 (some ⟨g', 0, none⟩) (wcells (words8 ++ [lit wordAll])) := by
    obtain ⟨ao, c', hv, sg, hc⟩ := own_open own6
    simp at hv
    rw [hv.1]; exact sg
   have HWO := hide (wordOf_any (words8 ++ [lit wordAll]) (some ⟨g', 0, none⟩) 9 cp' s st B w5 R5 hs SG rfl (by omega) (fun b' off e => by cases e; omega))
   clear own5 gr5 hat5 hlt5 R2 G2 FX2 OW SG own6 hb hWs
   go_wp2_with fail
   refine HWO.out.mono ?_
   rintro e w6 ⟨⟨x, r6, hx, rfl, R6⟩ | ⟨f, hf, rfl⟩, g⟩
   rotate_left
   ·have HE : Hid (fct (k + 1) st = .error f) := by show _ = _; rw [fct]; simp only [QA.out, QD.out, Bool.false_eq_true, if_false, hf]
    have G := grown_trans G5 g (fun _ hk => .inl hk)
    clear hf
    go_wp2_with fail
    exact ⟨rfl, .inr ⟨_, HE.out, rfl⟩, G⟩
   have QW := hide hx
   have hxl := wrdOf_len hx
   have G6 := grown_trans G5 g (fun _ hk => .inl hk)
   have FX6 := grown_block g FX5 hXB
   have hX6 := lt_of_block FX6
   clear g hx G5 FX5 R5 HWO
   by_cases h0 : x = wordAll
   ·have QE : Hid (fct (k + 1) st = al (smm (fct k)) ⟨r6, st.n⟩) := by show _ = _; rw [fct]; simp only [QA.out, QD.out, Bool.false_eq_true, if_false, QW.out, h0, if_true]
    have hl : lit x = ⟨#[97, 108, 108]⟩ := by rw [h0]; rfl
    rw [hl]
    clear h0 hl
    go_wp2_with fail
    have HC := hide (HALL.out s ⟨r6, st.n⟩ w6 R6 hs hn (HB0.out.grown G6 HB0.out.size (fun j hj => by cases hj; exact hB0)))
    refine HC.out.mono ?_
    rintro e w7 ⟨⟨t, q, hx, rfl, IN7, R7, hq⟩ | ⟨f, hf, rfl⟩, g⟩
    ·have HQ : Hid (fct (k + 1) st = .ok (t.ex, q)) := by show _ = _; rw [QE.out, hx]
     have G7 := grown_trans G6 g (fun _ hk => .inl hk)
     have FX7 := grown_block g FX6 hXB
     clear g hx G6 FX6 R6 HC
     obtain ⟨z0, z1, z2, z3, z4, z5, z6⟩ := seven_cells FX7
     obtain ⟨u0, u1, u2, u3, u4, u5, u6⟩ := thaw7 FX7
     have HRF := hide (put7_rd (t := t) R7 (Ne.symm hXB))
     have HGF := hide (put7_grown (t := t) G7 (X := X) hXw)
     have HIN := hide (ET.In.low (b' := w.heap.size) (by omega) t (put7_in (t := t) IN7 (X := X) (by omega)))
     clear R7 G7 FX7 IN7
     unfold eval
     unfold put7 at HRF HGF HIN
     go_wp2
     exact bodyPost_ret (v := eval t) (by simp [eval, results, Tryz.results148, go_sem, z0, z1, z2, z3, z4, z5, z6]) rfl ⟨.inl ⟨t, _, HQ.out, rfl, HIN.out, HRF.out, hq⟩, HGF.out⟩
    ·have HE : Hid (fct (k + 1) st = .error f) := by show _ = _; rw [QE.out, hf]
     have G := grown_trans G6 g (fun _ hk => .inl hk)
     clear hf
     go_wp2_with fail
     exact ⟨rfl, .inr ⟨_, HE.out, rfl⟩, G⟩
   ·have QE : Hid (fct (k + 1) st = wnd (lit x) ⟨r6, st.n⟩) := by show _ = _; rw [fct]; simp only [QA.out, QD.out, Bool.false_eq_true, if_false, QW.out, if_neg h0]
    have HX0 : Hid (lit x ≠ lit [97, 108, 108]) := fun e => h0 (by have := congrArg (fun b : ByteArray => b.data.toList) e; simpa [lit, wordAll] using this)
    have q := word_not (l := [97, 108, 108]) HX0.out
    have hwl : (lit x).size ≤ 100 := by rw [lit_size]; omega
    have HWN := hide (window_any (lit x) s ⟨r6, st.n⟩ B w0 w6 R6 hs (by simp only; omega) HEV.out (HB0.out.grown G6 HB0.out.size (fun j hj => by cases hj; exact hB0)) hB0 hwl)
    clear h0
    go_wp2_with fail
    refine HWN.out.mono ?_
    rintro e w7 ⟨⟨t, q, hx, rfl, IN7, R7⟩ | ⟨f, hf, rfl⟩, g⟩
    ·have HQ : Hid (fct (k + 1) st = .ok (t.ex, q)) := by show _ = _; rw [QE.out, hx]
     have hq := (fct_got _ _ _ _ HQ.out).mx
     have G7 := grown_trans G6 g (fun _ hk => .inl hk)
     have FX7 := grown_block g FX6 hXB
     clear g hx G6 FX6 R6 HWN
     obtain ⟨z0, z1, z2, z3, z4, z5, z6⟩ := seven_cells FX7
     obtain ⟨u0, u1, u2, u3, u4, u5, u6⟩ := thaw7 FX7
     have HRF := hide (put7_rd (t := t) R7 (Ne.symm hXB))
     have HGF := hide (put7_grown (t := t) G7 (X := X) hXw)
     have HIN := hide (ET.In.low (b' := w.heap.size) (by omega) t (put7_in (t := t) IN7 (X := X) (by omega)))
     clear R7 G7 FX7 IN7
     unfold eval
     unfold put7 at HRF HGF HIN
     go_wp2
     exact bodyPost_ret (v := eval t) (by simp [eval, results, Tryz.results148, go_sem, z0, z1, z2, z3, z4, z5, z6]) rfl ⟨.inl ⟨t, _, HQ.out, rfl, HIN.out, HRF.out, hq⟩, HGF.out⟩
    ·have HE : Hid (fct (k + 1) st = .error f) := by show _ = _; rw [QE.out, hf]
     have G := grown_trans G6 g (fun _ hk => .inl hk)
     clear hf
     go_wp2_with fail
     exact ⟨rfl, .inr ⟨_, HE.out, rfl⟩, G⟩
theorem factor_any : ∀ k : Nat, k ≤ 20 → Reads 148 (21 - k) (fct k) := by
 intro k
 induction k with
 | zero => intro _; exact factor_zero
 | succ k ih =>
  intro hk
  have e : (21 - ((k + 1 : Nat) : Int)) + 1 = 21 - (k : Int) := by omega
  refine factor_succ (by omega) (by omega) ?_
  rw [e]
  exact sum_of (term_of (ih (by omega)) (fct_le k)) (chn_le (fct_le k))
theorem sum_any : Reads 62 1 (smm (fct 20)) :=
 sum_of (term_of (factor_any 20 (by omega)) (fct_le 20)) (chn_le (fct_le 20))
end Go.Proofs.YtoldmigappbjcaaGreatDoor
namespace Go.GrainU
open Go.RowKit
theorem dprL_take {l : List ET} {k n : Nat} (h : k < l.length) : dprL (exL (l.take (k + 1))) n = (dprL (exL (l.take k)) n || dpr (l[k]).ex n) := by
 rw [List.take_add_one, List.getElem?_eq_getElem h]
 simp only [Option.toList_some]
 generalize l.take k = a
 induction a with
 | nil => simp [exL, dprL]
 | cons x r ih => simp [exL, dprL, ih, Bool.or_assoc]
theorem dprL_at {l : List ET} {k n : Nat} (h : k < l.length) (h' : dpr (l[k]).ex n = true) : dprL (exL l) n = true := by
 induction l generalizing k with
 | nil => simp at h
 | cons x r ih =>
  match k, h with
  | 0, _ => simp at h'; simp [exL, dprL, h']
  | k + 1, h => simp only [exL, dprL]; rw [ih (k := k) (by simpa using h) (by simpa using h')]; simp
theorem dprL_end {l : List ET} {k n : Nat} (hk : k = l.length) (h : dprL (exL (l.take k)) n = false) : dprL (exL l) n = false := by
 rw [hk, List.take_length] at h; exact h
end Go.GrainU
namespace Go.Proofs.YtoldmigappbjcaaGreatDoor
open Go.RowKit Go.GrainU
abbrev Deeps (t : ET) : Prop := ∀ (k : Nat) (w : World), t.In w → k ≤ 100 → Calls Tryz.prog 64 #[eval t, .int .i64 (k : Nat)] w fun e w' => e = .returned (.bool (dpr t.ex k)) ∧ Below w.heap.size w w'
set_option maxHeartbeats 1000000 in
theorem dclos_of (t : ET) (ih : Deeps t) (k P : Nat) (w : World) (hin : t.In w) (hk : k ≤ 99) (hP : w.cell? ⟨P, 0, none⟩ = some (.int .i64 ((k : Int) + 1))) :
  Calls Tryz.prog 108 #[eval t, .pointer (some ⟨P, 0, none⟩)] w fun e w' => e = .returned (.bool (dpr t.ex k)) ∧ Below w.heap.size w w' := by
 have hl : P < w.heap.size := World.block_lt_of_cell? w _ hP
 have HIN := hide hin
 have HIH := hide (ih k)
 obtain ⟨D, hD⟩ : ∃ D, D = dpr t.ex k := ⟨_, rfl⟩
 rw [← hD] at HIH ⊢
 clear hD ih hin
 unfold eval at HIH ⊢
 generalize t.hd.ms.length = ml at *
 generalize t.hd.bs.length = bl at *
 generalize t.kids.length = kl at *
 have bel : Below w.heap.size w (w.alloc (.cells #[.int .i64 t.hd.kind, .int .i64 t.hd.n, .int .i64 t.hd.range, .string t.hd.word, .slice t.sp.ma ml t.sp.mc, .slice t.sp.ba bl t.sp.bc, .slice t.sp.ka kl t.sp.kc] 41)) := (Below.refl _ _).alloc (Nat.le_refl _) _
 have e1 : ((k : Int) + 1) - 1 = (k : Int) := by omega
 go_enter Tryz.func108, Tryz.ntmps108
 go_wp2_with fail
 refine (HIH.out _ (ET.In.below bel t HIN.out) (by omega)).mono ?_
 rintro e w1 ⟨rfl, b1⟩
 go_wp2_with fail
 go_ret
 exact ⟨rfl, bel.trans (b1.mono bel.size)⟩
set_option maxHeartbeats 1000000 in
theorem dindex_any (kids : List ET) (ih : ∀ t ∈ kids, Deeps t) (n P : Nat) (hn : n ≤ 99)
  (ka : Option Addr) (kl kc : Nat) (w : World) (hK : Seg w ka (ecells kids)) (hkl : kl = kids.length) (lK : kl ≤ 9223372036854775806) (hL : InL w kids) (hP : w.cell? ⟨P, 0, none⟩ = some (.int .i64 ((n : Int) + 1))) :
  Calls Tryz.prog 149 #[.slice ka kl kc, .func (.func 108) #[] #[.pointer (some ⟨P, 0, none⟩)]] w fun e w' => (∃ i : Int, e = .returned (.int .i64 i) ∧ decide (0 ≤ i) = dprL (exL kids) n) ∧ Below w.heap.size w w' := by
 have HK := hide hkl
 have hPl : P < w.heap.size := World.block_lt_of_cell? w _ hP
 have HP := hide hP
 clear hkl hP
 go_enter Tryz.func149, Tryz.ntmps149
 go_wp2
 go_loopw [8] (fun i wr => ∃ k : Nat, k ≤ kl ∧ i = .int .i64 k ∧ Hid (dprL (exL (kids.take k)) n = false) ∧ Below w.heap.size w wr) (fun i _ => kl - (intOf i).toNat)
 case atStart => exact ⟨0, Nat.zero_le _, rfl, by show _ = _; simp [exL, dprL], Below.refl _ _⟩
 case round =>
  obtain ⟨k, hk, rfl, HJ, bel⟩ := hrel
  by_cases hlt : k < kl
  ·have hkl : k < kids.length := by rw [← HK.out]; exact hlt
   obtain ⟨b, off, rfl, hbl, hcell⟩ := seg_expr hK hkl
   obtain ⟨t, ht⟩ : ∃ t, t = kids[k] := ⟨_, rfl⟩
   have hc := (hcell k hkl).below bel
   rw [← ht] at hc
   have hmem : t ∈ kids := by rw [ht]; exact List.getElem_mem hkl
   have HT := hide (inL_mem hL t hmem)
   have Ht := hide ht
   clear ht hcell hK
   obtain ⟨c0, c1, c2, c3, c4, c5, c6⟩ := hc
   go_wp2_with fail
   refine (dclos_of t (ih t hmem) n P _ (ET.In.below bel t HT.out) hn ((bel.cell (p := ⟨P, 0, none⟩) (by exact hPl)).trans HP.out)).mono ?_
   rintro e w1 ⟨rfl, b1⟩
   have bel1 : Below w.heap.size w w1 := bel.trans (b1.mono bel.size)
   obtain ⟨D, hD⟩ : ∃ D, D = dpr t.ex n := ⟨_, rfl⟩
   rw [← hD]
   have HD := hide hD
   clear hD
   cases D with
   | true =>
    go_wp2
    go_ret
    exact ⟨⟨k, rfl, by rw [dprL_at hkl (by rw [← Ht.out]; exact HD.out.symm)]; simp⟩, bel1⟩
   | false =>
    have HJ' : Hid (dprL (exL (kids.take (k + 1))) n = false) := by show _ = _; rw [dprL_take hkl, HJ.out, ← Ht.out, ← HD.out]; rfl
    go_wp2
    go_roundw
    case rel => exact ⟨k + 1, by omega, by go_num, HJ', bel1⟩
    case measure => simp [intOf]; omega
  ·go_wp2
   go_ret
   exact ⟨⟨-1, rfl, by rw [dprL_end (by have := HK.out; omega) HJ.out]; decide⟩, bel⟩
theorem dcont_any (kids : List ET) (ih : ∀ t ∈ kids, Deeps t) (n P : Nat) (hn : n ≤ 99)
  (ka : Option Addr) (kl kc : Nat) (w : World) (hK : Seg w ka (ecells kids)) (hkl : kl = kids.length) (lK : kl ≤ 9223372036854775806) (hL : InL w kids) (hP : w.cell? ⟨P, 0, none⟩ = some (.int .i64 ((n : Int) + 1))) :
  Calls Tryz.prog 107 #[.slice ka kl kc, .func (.func 108) #[] #[.pointer (some ⟨P, 0, none⟩)]] w fun e w' => e = .returned (.bool (dprL (exL kids) n)) ∧ Below w.heap.size w w' := by
 have HI := hide (dindex_any kids ih n P hn ka kl kc w hK hkl lK hL hP)
 clear hkl hP
 obtain ⟨D, hD⟩ : ∃ D, D = dprL (exL kids) n := ⟨_, rfl⟩
 rw [← hD]
 have HD := hide hD
 clear hD
 go_enter Tryz.func107, Tryz.ntmps107
 go_wp2_with fail
 refine HI.out.mono ?_
 rintro e w1 ⟨⟨i, rfl, hi⟩, b1⟩
 rw [← HD.out] at hi
 go_wp2
 go_ret
 exact ⟨rfl, b1⟩
set_option maxHeartbeats 1000000 in
theorem deeper_any : ∀ t : ET, Deeps t := by
 refine ET.ind ?_
 intro h s kids ih k w hin hk100
 obtain ⟨kd, n, rg, wd, ms, bs⟩ := h
 obtain ⟨ma, mc, ba, bc, ka, kc⟩ := s
 simp only [ET.In] at hin
 obtain ⟨⟨_, _, hK⟩, ⟨_, _, lK, _⟩, hL⟩ := hin
 have hdp : dpr (ET.ex (.node ⟨kd, n, rg, wd, ms, bs⟩ ⟨ma, mc, ba, bc, ka, kc⟩ kids)) k = match k with | 0 => true | k + 1 => dprL (exL kids) k := by
  cases k <;> simp [ET.ex, dpr]
 rw [hdp]
 show Calls Tryz.prog _ #[.agg #[.int .i64 kd, .int .i64 n, .int .i64 rg, .string wd, .slice ma ms.length mc, .slice ba bs.length bc, .slice ka kids.length kc], .int .i64 (k : Nat)] w _
 generalize ms.length = ml
 generalize bs.length = bl
 obtain ⟨kl, hkl⟩ : ∃ x, x = kids.length := ⟨_, rfl⟩
 rw [← hkl] at lK ⊢
 have HK := hide hkl
 clear hkl hdp
 cases k with
 | zero =>
  have bel : Below w.heap.size w ((w.alloc (.cells #[.int .i64 kd, .int .i64 n, .int .i64 rg, .string wd, .slice ma ml mc, .slice ba bl bc, .slice ka kl kc] 41)).alloc (.cells #[.int .i64 0] 3)) := ((Below.refl _ _).alloc (Nat.le_refl _) _).alloc (by simp) _
  go_enter Tryz.func64, Tryz.ntmps64
  go_wp2_with fail
  go_ret
  exact ⟨rfl, bel⟩
 | succ k =>
  simp only [Int.natCast_add]
  obtain ⟨V, hV⟩ : ∃ V, V = (w.alloc (.cells #[.int .i64 kd, .int .i64 n, .int .i64 rg, .string wd, .slice ma ml mc, .slice ba bl bc, .slice ka kl kc] 41)).alloc (.cells #[.int .i64 ((k : Int) + 1)] 3) := ⟨_, rfl⟩
  have bel : Below w.heap.size w V := by rw [hV]; exact ((Below.refl _ _).alloc (Nat.le_refl _) _).alloc (by simp) _
  have F1 : V.heap[w.heap.size + 1]? = some (.cells #[.int .i64 ((k : Int) + 1)] 3 (0, 0)) := by
   have := heap_alloc_new (w.alloc (.cells #[.int .i64 kd, .int .i64 n, .int .i64 rg, .string wd, .slice ma ml mc, .slice ba bl bc, .slice ka kl kc] 41)) (.cells #[.int .i64 ((k : Int) + 1)] 3)
   rw [hV]; simpa using this
  have HC := hide (dcont_any kids ih k (w.heap.size + 1) (by omega) ka kl kc V (hK.below bel) HK.out lK (hL.below bel) (one_cell7 F1).1)
  have HV := hide hV
  have h1 : ¬ ((k : Int) + 1) < 1 := by omega
  clear hV F1
  go_enter Tryz.func64, Tryz.ntmps64
  go_wp2_with fail
  rw [← HV.out]
  refine HC.out.mono ?_
  rintro e w1 ⟨rfl, b1⟩
  go_wp2_with fail
  go_ret
  exact ⟨rfl, bel.trans (b1.mono bel.size)⟩
end Go.Proofs.YtoldmigappbjcaaGreatDoor
