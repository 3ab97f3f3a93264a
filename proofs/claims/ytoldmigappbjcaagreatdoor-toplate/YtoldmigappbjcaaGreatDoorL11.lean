import Derived.Test.YtoldmigappbjcaaGreatDoorL10
namespace Go.Proofs.YtoldmigappbjcaaGreatDoor
open Go.RowKit Go.GrainU
set_option maxHeartbeats 4000000 in
theorem term_of {d : Int} {p : St → Except Flt (Ex × St)} (hf : Reads 148 d p) (hmono : ∀ st x q, p st = .ok (x, q) → q.r.length ≤ st.r.length) : Reads 106 d (chn p [[42]]) := by
 intro s st B w0 w h hs hn hv hb0 hB0
 have hB := h.lt
 obtain ⟨Z, hZ⟩ : ∃ Z, Z = w.heap.size := ⟨_, rfl⟩
 obtain ⟨V, hV⟩ : ∃ V, V = (((w.alloc (.cells #[.pointer (some ⟨B, 0, none⟩)] 123)).alloc (.cells #[.int .i64 d] 3)).alloc (.cells #[.int .i64 0, .int .i64 0, .int .i64 0, .string ⟨#[]⟩, .slice none 0 0, .slice none 0 0, .slice none 0 0] 41)).alloc (.cells #[.string ⟨#[42]⟩] 9) := ⟨_, rfl⟩
 have R0 : Rd 95 V B s st := by rw [hV]; exact (((h.alloc _).alloc _).alloc _).alloc _
 have G0 : w.grownBy V (some B) := by
  rw [hV]
  exact grown_trans (grown_trans (grown_trans (grown_trans (World.grownBy.refl _ _) (World.grownBy_alloc _ _ none) (fun _ hk => by cases hk)) (World.grownBy_alloc _ _ none) (fun _ hk => by cases hk)) (World.grownBy_alloc _ _ none) (fun _ hk => by cases hk)) (World.grownBy_alloc _ _ none) (fun _ hk => by cases hk)
 have F1 : V.heap[Z]? = some (.cells #[.pointer (some ⟨B, 0, none⟩)] 123 (0, 0)) := by
  rw [hV, hZ, Below.heap_alloc _ _ _ (by simp; omega), Below.heap_alloc _ _ _ (by simp; omega), Below.heap_alloc _ _ _ (by simp)]; exact heap_alloc_new w _
 have F2 : V.heap[Z + 1]? = some (.cells #[.int .i64 d] 3 (0, 0)) := by
  rw [hV, hZ, Below.heap_alloc _ _ _ (by simp), Below.heap_alloc _ _ _ (by simp)]
  have := heap_alloc_new (w.alloc (.cells #[.pointer (some ⟨B, 0, none⟩)] 123)) (.cells #[.int .i64 d] 3)
  simpa using this
 have FX : V.heap[Z + 1 + 1]? = some (.cells #[.int .i64 0, .int .i64 0, .int .i64 0, .string ⟨#[]⟩, .slice none 0 0, .slice none 0 0, .slice none 0 0] 41 (0, 0)) := by
  rw [hV, hZ, Below.heap_alloc _ _ _ (by simp)]
  have := heap_alloc_new ((w.alloc (.cells #[.pointer (some ⟨B, 0, none⟩)] 123)).alloc (.cells #[.int .i64 d] 3)) (.cells #[.int .i64 0, .int .i64 0, .int .i64 0, .string ⟨#[]⟩, .slice none 0 0, .slice none 0 0, .slice none 0 0] 41)
  simpa using this
 have SG : Seg V (some ⟨Z + 1 + 1 + 1, 0, none⟩) (wcells (slit [[42]])) := by
  have := seg_words (w := ((w.alloc (.cells #[.pointer (some ⟨B, 0, none⟩)] 123)).alloc (.cells #[.int .i64 d] 3)).alloc (.cells #[.int .i64 0, .int .i64 0, .int .i64 0, .string ⟨#[]⟩, .slice none 0 0, .slice none 0 0, .slice none 0 0] 41)) (cs := #[.string ⟨#[42]⟩]) (t := 9) (l := slit [[42]]) rfl
  rw [hV, hZ]
  simpa using this
 have hVs : V.heap.size = Z + 1 + 1 + 1 + 1 := by rw [hV, hZ]; simp
 have hbV : Below w0.heap.size w0 V := hb0.grown G0 hb0.size (fun j hj => by cases hj; exact hB0)
 have HC := hide (tchain_of hf hmono [[42]] (by simp) (some ⟨Z + 1 + 1 + 1, 0, none⟩) 1 1 s st B Z (Z + 1) w0 V R0 hs hn hv hbV hB0 (one_cell7 F1).1 (one_cell7 F2).1 (by omega) (by omega) SG rfl (by omega) (fun b off e => by cases e; omega))
 have HF := hide FX
 have HG := hide G0
 have HV := hide hV
 have HZ := hide hZ
 have hXB : Z + 1 + 1 ≠ B := by omega
 clear hV FX G0 R0 hbV hf hZ F1 F2 SG hmono
 go_enter Tryz.func106, Tryz.ntmps106
 go_wp2_with fail
 rw [← HV.out, ← HZ.out]
 refine HC.out.mono ?_
 rintro e w1 ⟨⟨t, q, hx, rfl, hin, R1, hq⟩ | ⟨f, hf, rfl⟩, g⟩
 ·have HQ := hide hx
  have G1 := grown_trans HG.out g (fun _ hk => .inl hk)
  have FX1 := grown_block g HF.out hXB
  obtain ⟨x0, x1, x2, x3, x4, x5, x6⟩ := seven_cells FX1
  obtain ⟨u0, u1, u2, u3, u4, u5, u6⟩ := thaw7 FX1
  have HRF := hide (put7_rd (t := t) R1 (Ne.symm hXB))
  have HGF := hide (put7_grown (t := t) G1 (X := Z + 1 + 1) (by have := HZ.out; omega))
  have HIN := hide (ET.In.low (b' := w.heap.size) (by have := HZ.out; omega) t (put7_in (t := t) hin (X := Z + 1 + 1) (by omega)))
  clear hx hin R1 g G1 FX1 HC
  unfold eval
  unfold put7 at HRF HGF HIN
  go_wp2
  exact bodyPost_ret (v := eval t) (by simp [eval, results, Tryz.results106, go_sem, x0, x1, x2, x3, x4, x5, x6]) rfl ⟨.inl ⟨t, q, HQ.out, rfl, HIN.out, HRF.out, hq⟩, HGF.out⟩
 ·have HE := hide hf
  have G := grown_trans HG.out g (fun _ hk => .inl hk)
  clear hf
  go_wp2_with fail
  exact ⟨rfl, .inr ⟨f, HE.out, rfl⟩, G⟩
set_option maxHeartbeats 4000000 in
theorem sum_of {d : Int} {p : St → Except Flt (Ex × St)} (hf : Reads 106 d p) (hmono : ∀ st x q, p st = .ok (x, q) → q.r.length ≤ st.r.length) : Reads 62 d (chn p [[43], [45]]) := by
 intro s st B w0 w h hs hn hv hb0 hB0
 have hB := h.lt
 obtain ⟨Z, hZ⟩ : ∃ Z, Z = w.heap.size := ⟨_, rfl⟩
 obtain ⟨V, hV⟩ : ∃ V, V = (((w.alloc (.cells #[.pointer (some ⟨B, 0, none⟩)] 123)).alloc (.cells #[.int .i64 d] 3)).alloc (.cells #[.int .i64 0, .int .i64 0, .int .i64 0, .string ⟨#[]⟩, .slice none 0 0, .slice none 0 0, .slice none 0 0] 41)).alloc (.cells #[.string ⟨#[43]⟩, .string ⟨#[45]⟩] 9) := ⟨_, rfl⟩
 have R0 : Rd 95 V B s st := by rw [hV]; exact (((h.alloc _).alloc _).alloc _).alloc _
 have G0 : w.grownBy V (some B) := by
  rw [hV]
  exact grown_trans (grown_trans (grown_trans (grown_trans (World.grownBy.refl _ _) (World.grownBy_alloc _ _ none) (fun _ hk => by cases hk)) (World.grownBy_alloc _ _ none) (fun _ hk => by cases hk)) (World.grownBy_alloc _ _ none) (fun _ hk => by cases hk)) (World.grownBy_alloc _ _ none) (fun _ hk => by cases hk)
 have F1 : V.heap[Z]? = some (.cells #[.pointer (some ⟨B, 0, none⟩)] 123 (0, 0)) := by
  rw [hV, hZ, Below.heap_alloc _ _ _ (by simp; omega), Below.heap_alloc _ _ _ (by simp; omega), Below.heap_alloc _ _ _ (by simp)]; exact heap_alloc_new w _
 have F2 : V.heap[Z + 1]? = some (.cells #[.int .i64 d] 3 (0, 0)) := by
  rw [hV, hZ, Below.heap_alloc _ _ _ (by simp), Below.heap_alloc _ _ _ (by simp)]
  have := heap_alloc_new (w.alloc (.cells #[.pointer (some ⟨B, 0, none⟩)] 123)) (.cells #[.int .i64 d] 3)
  simpa using this
 have FX : V.heap[Z + 1 + 1]? = some (.cells #[.int .i64 0, .int .i64 0, .int .i64 0, .string ⟨#[]⟩, .slice none 0 0, .slice none 0 0, .slice none 0 0] 41 (0, 0)) := by
  rw [hV, hZ, Below.heap_alloc _ _ _ (by simp)]
  have := heap_alloc_new ((w.alloc (.cells #[.pointer (some ⟨B, 0, none⟩)] 123)).alloc (.cells #[.int .i64 d] 3)) (.cells #[.int .i64 0, .int .i64 0, .int .i64 0, .string ⟨#[]⟩, .slice none 0 0, .slice none 0 0, .slice none 0 0] 41)
  simpa using this
 have SG : Seg V (some ⟨Z + 1 + 1 + 1, 0, none⟩) (wcells (slit [[43], [45]])) := by
  have := seg_words (w := ((w.alloc (.cells #[.pointer (some ⟨B, 0, none⟩)] 123)).alloc (.cells #[.int .i64 d] 3)).alloc (.cells #[.int .i64 0, .int .i64 0, .int .i64 0, .string ⟨#[]⟩, .slice none 0 0, .slice none 0 0, .slice none 0 0] 41)) (cs := #[.string ⟨#[43]⟩, .string ⟨#[45]⟩]) (t := 9) (l := slit [[43], [45]]) rfl
  rw [hV, hZ]
  simpa using this
 have hVs : V.heap.size = Z + 1 + 1 + 1 + 1 := by rw [hV, hZ]; simp
 have hbV : Below w0.heap.size w0 V := hb0.grown G0 hb0.size (fun j hj => by cases hj; exact hB0)
 have HC := hide (schain_of hf hmono [[43], [45]] (by simp) (some ⟨Z + 1 + 1 + 1, 0, none⟩) 2 2 s st B Z (Z + 1) w0 V R0 hs hn hv hbV hB0 (one_cell7 F1).1 (one_cell7 F2).1 (by omega) (by omega) SG rfl (by omega) (fun b off e => by cases e; omega))
 have HF := hide FX
 have HG := hide G0
 have HV := hide hV
 have HZ := hide hZ
 have hXB : Z + 1 + 1 ≠ B := by omega
 clear hV FX G0 R0 hbV hf hZ F1 F2 SG hmono
 go_enter Tryz.func62, Tryz.ntmps62
 go_wp2_with fail
 rw [← HV.out, ← HZ.out]
 refine HC.out.mono ?_
 rintro e w1 ⟨⟨t, q, hx, rfl, hin, R1, hq⟩ | ⟨f, hf, rfl⟩, g⟩
 ·have HQ := hide hx
  have G1 := grown_trans HG.out g (fun _ hk => .inl hk)
  have FX1 := grown_block g HF.out hXB
  obtain ⟨x0, x1, x2, x3, x4, x5, x6⟩ := seven_cells FX1
  obtain ⟨u0, u1, u2, u3, u4, u5, u6⟩ := thaw7 FX1
  have HRF := hide (put7_rd (t := t) R1 (Ne.symm hXB))
  have HGF := hide (put7_grown (t := t) G1 (X := Z + 1 + 1) (by have := HZ.out; omega))
  have HIN := hide (ET.In.low (b' := w.heap.size) (by have := HZ.out; omega) t (put7_in (t := t) hin (X := Z + 1 + 1) (by omega)))
  clear hx hin R1 g G1 FX1 HC
  unfold eval
  unfold put7 at HRF HGF HIN
  go_wp2
  exact bodyPost_ret (v := eval t) (by simp [eval, results, Tryz.results62, go_sem, x0, x1, x2, x3, x4, x5, x6]) rfl ⟨.inl ⟨t, q, HQ.out, rfl, HIN.out, HRF.out, hq⟩, HGF.out⟩
 ·have HE := hide hf
  have G := grown_trans HG.out g (fun _ hk => .inl hk)
  clear hf
  go_wp2_with fail
  exact ⟨rfl, .inr ⟨f, HE.out, rfl⟩, G⟩
end Go.Proofs.YtoldmigappbjcaaGreatDoor
namespace Go.GrainU
open Go.RowKit
theorem own_wlen {w : World} {base e N : Nat} {v : Value} {l : List ByteArray} (h : w.ownsRow base e 1 v N (wcells l)) : N = l.length := by
 have := h.1; simp [wcells] at this; omega
theorem one_seg {b Z : Nat} {v : World} {t : ET} {ty : TypeId} (h : v.heap[Z]? = some (.cells #[.int .i64 t.hd.kind, .int .i64 t.hd.n, .int .i64 t.hd.range, .string t.hd.word, .slice t.sp.ma t.hd.ms.length t.sp.mc, .slice t.sp.ba t.hd.bs.length t.sp.bc, .slice t.sp.ka t.kids.length t.sp.kc] ty (0, 0))) (hb : b ≤ Z) : Seg (cut b v) (some ⟨Z, 0, none⟩) (ecells [t]) := by
 obtain ⟨c0, c1, c2, c3, c4, c5, c6⟩ := seven_cells h
 refine .inr ⟨Z, 0, rfl, fun j hj => ?_⟩
 rw [cut_cell hb]
 simp only [ecells, ecell, List.append_nil, List.length_cons, List.length_nil] at hj ⊢
 match j, hj with
 | 0, _ => exact c0
 | 1, _ => exact c1
 | 2, _ => exact c2
 | 3, _ => exact c3
 | 4, _ => exact c4
 | 5, _ => exact c5
 | 6, _ => exact c6
 | j + 7, hj => exact absurd hj (by omega)
theorem own_put7 {w : World} {base e size n X : Nat} {v : Value} {xs : List Value} {t : ET} (h : w.ownsRow base e size v n xs) (hX : X < base) : (put7 w X t).ownsRow base e size v n xs := by
 unfold put7
 exact rown_far (rown_far (rown_far (rown_far (rown_far (rown_far (rown_far h hX) hX) hX) hX) hX) hX) hX
end Go.GrainU
namespace Go.Proofs.YtoldmigappbjcaaGreatDoor
open Go.RowKit Go.GrainU
theorem ptotals_new (w : World) : Calls Tryz.prog 202 #[] w fun e w' => e = .returned (.slice (some ⟨w.heap.size, 0, none⟩) 4 4) ∧ w' = w.alloc (.cells #[.string ⟨#[99, 111, 117, 110, 116]⟩, .string ⟨#[109, 97, 120]⟩, .string ⟨#[109, 105, 110]⟩, .string ⟨#[115, 117, 109]⟩] 9) := by
 go_enter Tryz.func202, Tryz.ntmps202
 go_wp2
 go_ret
 exact ⟨rfl, rfl⟩
set_option maxHeartbeats 8000000 in
theorem all_of {d : Int} {sub : St → Except Flt (Ex × St)} (hd0 : 0 ≤ d) (hd1 : d ≤ 100) (hsub : Reads 62 (d + 1) sub) (s : ByteArray) (st : St) (B : Nat) (w0 w : World) (h : Rd 95 w B s st) (hs : s.size ≤ 2000) (hn : st.n ≤ 100) (hv : ErrV w0) (hb0 : Below w0.heap.size w0 w) (hB0 : w0.heap.size ≤ B) :
  Calls Tryz.prog 190 #[.pointer (some ⟨B, 0, none⟩), .int .i64 d] w (EPost s B w (al sub st)) := by
 have hB := h.lt
 obtain ⟨X, hX⟩ : ∃ X, X = w.heap.size := ⟨_, rfl⟩
 obtain ⟨U, hU⟩ : ∃ U, U = (w.alloc (.cells #[.int .i64 0, .int .i64 0, .int .i64 0, .string ⟨#[]⟩, .slice none 0 0, .slice none 0 0, .slice none 0 0] 41)).alloc (.cells #[.string ⟨#[99, 111, 117, 110, 116]⟩, .string ⟨#[109, 97, 120]⟩, .string ⟨#[109, 105, 110]⟩, .string ⟨#[115, 117, 109]⟩] 9) := ⟨_, rfl⟩
 have R0 : Rd 95 U B s st := by rw [hU]; exact (h.alloc _).alloc _
 have G0 : w.grownBy U (some B) := by rw [hU]; exact grown_trans (grown_trans (World.grownBy.refl _ _) (World.grownBy_alloc _ _ none) (fun _ hk => by cases hk)) (World.grownBy_alloc _ _ none) (fun _ hk => by cases hk)
 have FX0 : U.heap[X]? = some (.cells #[.int .i64 0, .int .i64 0, .int .i64 0, .string ⟨#[]⟩, .slice none 0 0, .slice none 0 0, .slice none 0 0] 41 (0, 0)) := by
  rw [hU, hX, Below.heap_alloc _ _ _ (by simp)]; exact heap_alloc_new w _
 have SG : Seg U (some ⟨X + 1, 0, none⟩) (wcells totals4) := by
  have := seg_words (w := w.alloc (.cells #[.int .i64 0, .int .i64 0, .int .i64 0, .string ⟨#[]⟩, .slice none 0 0, .slice none 0 0, .slice none 0 0] 41)) (cs := #[.string ⟨#[99, 111, 117, 110, 116]⟩, .string ⟨#[109, 97, 120]⟩, .string ⟨#[109, 105, 110]⟩, .string ⟨#[115, 117, 109]⟩]) (t := 9) (l := totals4) rfl
  rw [hU, hX]; simpa using this
 have hXB : X ≠ B := by omega
 have hXw : w.heap.size ≤ X := by omega
 have HWO := hide (wordOf_any totals4 (some ⟨X + 1, 0, none⟩) 4 4 s st B U R0 hs SG rfl (by omega) (fun b off e => by cases e; omega))
 have HU := hide hU
 have HX := hide hX
 have HEV := hide hv
 have HB0 := hide hb0
 have HSUB := hide hsub
 clear hU hX h hv hb0 SG R0 hsub
 go_enter Tryz.func190, Tryz.ntmps190
 go_wp2_with fail
 refine (ptotals_new _).mono ?_
 intro e w1 hh
 rw [hh.1, hh.2]
 clear hh
 simp only [World.size_alloc]
 go_wp2_with fail
 rw [← HU.out, ← HX.out]
 refine HWO.out.mono ?_
 rintro e w1 ⟨⟨x, r1, hx, rfl, R1⟩ | ⟨f, hf, rfl⟩, g⟩
 rotate_left
 ·have HE : Hid (al sub st = .error f) := by show _ = _; simp only [al, hf]
  have G := grown_trans G0 g (fun _ hk => .inl hk)
  clear hf
  go_wp2_with fail
  exact ⟨rfl, .inr ⟨_, HE.out, rfl⟩, G⟩
 have Q0 := hide hx
 have hxl : x.length ≤ 12 := by
  unfold wrdOf at hx
  split at hx
  ·cases hx
  ·rename_i p hp
   split at hx
   ·injection hx with hx; rw [hx] at hp; exact wrd_len hp
   ·cases hx
 have G1 := grown_trans G0 g (fun _ hk => .inl hk)
 have FX1 := grown_block g FX0 hXB
 obtain ⟨Y, hY⟩ : ∃ Y, Y = w1.heap.size := ⟨_, rfl⟩
 have hXY : X < Y := by rw [hY]; exact lt_of_block FX1
 have hBY : B < Y := by rw [hY]; exact R1.lt
 obtain ⟨w2, hw2⟩ : ∃ v, v = w1.alloc (.cells #[.int .i64 3, .int .i64 0, .int .i64 0, .string (lit x), .slice none 0 0, .slice none 0 0, .slice none 0 0] 41) := ⟨_, rfl⟩
 have R2 : Rd 95 w2 B s ⟨r1, st.n⟩ := by rw [hw2]; exact R1.alloc _
 have G2 : w.grownBy w2 (some B) := by rw [hw2]; exact grown_trans G1 (World.grownBy_alloc _ _ none) (fun _ hk => by cases hk)
 have FX2 : w2.heap[X]? = some (.cells #[.int .i64 0, .int .i64 0, .int .i64 0, .string ⟨#[]⟩, .slice none 0 0, .slice none 0 0, .slice none 0 0] 41 (0, 0)) := by rw [hw2, Below.heap_alloc _ _ _ (by omega)]; exact FX1
 have FY2 : w2.heap[Y]? = some (.cells #[.int .i64 3, .int .i64 0, .int .i64 0, .string (lit x), .slice none 0 0, .slice none 0 0, .slice none 0 0] 41 (0, 0)) := by rw [hw2, hY]; exact heap_alloc_new w1 _
 have hYB : Y ≠ B := by omega
 have HW2 := hide hw2
 have HY := hide hY
 clear hw2 hY hx g G0 FX0 G1 FX1 R1 HWO
 go_wp2_with fail
 rw [← HW2.out, ← HY.out]
 have A2 := hide (accept_any [40] s ⟨r1, st.n⟩ B w2 R2 hs)
 unfold lit at A2
 go_wp2_with fail
 cases ha : acc [40] r1 with
 | some r2 =>
  have QB : Hid (alB r1 = .ok ([], r2)) := by show _ = _; simp only [alB, ha]
  rw [ha] at A2
  simp only [Option.getD_some, Option.isSome_some] at A2
  clear ha
  refine A2.out.mono ?_
  rintro e w3 ⟨rfl, R3, g⟩
  clear A2
  have G3 := grown_trans G2 g (fun _ hk => .inl hk)
  have FX3 := grown_block g FX2 hXB
  have FY3 := grown_block g FY2 hYB
  clear g G2 FX2 FY2 R2
  have hYp : Y < w3.heap.size := lt_of_block FY3
  obtain ⟨S, hS⟩ : ∃ S, S = w3.heap.size := ⟨_, rfl⟩
  have hYS : Y < S := by omega
  have hXS : X < S := by omega
  have hBS : B < S := by omega
  have hwS : w.heap.size ≤ S := by omega
  have HSC := hide (HSUB.out s ⟨r2, st.n⟩ B w0 w3 R3 hs hn HEV.out (HB0.out.grown G3 HB0.out.size (fun j hj => by cases hj; exact hB0)) hB0)
  unfold EPost at HSC; rw [← hS] at HSC
  have HS := hide hS
  clear hS hYp
  go_wp2_with fail
  refine HSC.out.mono ?_
  rintro e w8 ⟨⟨t, q, hx, rfl, IN8, R8, hq⟩ | ⟨f, hf, rfl⟩, g⟩
  rotate_left
  ·have HE : Hid (al sub st = .error f) := by show _ = _; simp only [al, Q0.out, QB.out, hf]
   have G := grown_trans G3 g (fun _ hk => .inl hk)
   clear hf
   go_wp2_with fail
   exact ⟨rfl, .inr ⟨_, HE.out, rfl⟩, G⟩
  have QS := hide hx
  have hS8 : S ≤ w8.heap.size := by have := g.size; have := HS.out; omega
  clear hx HSC
  have G8 := grown_trans G3 g (fun _ hk => .inl hk)
  have FX8 := grown_block g FX3 hXB
  have FY8 := grown_block g FY3 hYB
  clear g G3 FX3 FY3 R3
  obtain ⟨Z, hZ⟩ : ∃ Z, Z = w8.heap.size := ⟨_, rfl⟩
  have hSZ : S ≤ Z := by omega
  have hZB : Z ≠ B := by omega
  obtain ⟨w9, hw9⟩ : ∃ v, v = w8.alloc (.cells #[.int .i64 t.hd.kind, .int .i64 t.hd.n, .int .i64 t.hd.range, .string t.hd.word, .slice t.sp.ma t.hd.ms.length t.sp.mc, .slice t.sp.ba t.hd.bs.length t.sp.bc, .slice t.sp.ka t.kids.length t.sp.kc] 41) := ⟨_, rfl⟩
  have R9 : Rd 95 w9 B s q := by rw [hw9]; exact R8.alloc _
  have G9 : w.grownBy w9 (some B) := by rw [hw9]; exact grown_trans G8 (World.grownBy_alloc _ _ none) (fun _ hk => by cases hk)
  have FX9 : w9.heap[X]? = some (.cells #[.int .i64 0, .int .i64 0, .int .i64 0, .string ⟨#[]⟩, .slice none 0 0, .slice none 0 0, .slice none 0 0] 41 (0, 0)) := by rw [hw9, Below.heap_alloc _ _ _ (by omega)]; exact FX8
  have FY9 : w9.heap[Y]? = some (.cells #[.int .i64 3, .int .i64 0, .int .i64 0, .string (lit x), .slice none 0 0, .slice none 0 0, .slice none 0 0] 41 (0, 0)) := by rw [hw9, Below.heap_alloc _ _ _ (by omega)]; exact FY8
  have FZ9 : w9.heap[Z]? = some (.cells #[.int .i64 t.hd.kind, .int .i64 t.hd.n, .int .i64 t.hd.range, .string t.hd.word, .slice t.sp.ma t.hd.ms.length t.sp.mc, .slice t.sp.ba t.hd.bs.length t.sp.bc, .slice t.sp.ka t.kids.length t.sp.kc] 41 (0, 0)) := by rw [hw9, hZ]; exact heap_alloc_new w8 _
  have IN9 : t.In (cut S w9) := by rw [hw9]; exact IN8.grown (B := B) (grown_trans (World.grownBy.refl _ _) (World.grownBy_alloc _ _ none) (fun _ hk => by cases hk)) hBS
  have FY9' := FY9
  rw [hw9] at FY9'
  obtain ⟨y0, y1, y2, y3, y4, y5, y6⟩ := seven_cells FY9'
  obtain ⟨u0, u1, u2, u3, u4, u5, u6⟩ := thaw7 FY9'
  clear FY9'
  obtain ⟨w10, hw10⟩ : ∃ v, v = w9.setCell ⟨Y, 6, none⟩ (.slice (some ⟨Z, 0, none⟩) 1 1) := ⟨_, rfl⟩
  have R10 : Rd 95 w10 B s q := by rw [hw10]; exact R9.far (Ne.symm hYB)
  have G10 : w.grownBy w10 (some B) := by rw [hw10]; exact grown_far G9 (by omega)
  have FX10 : w10.heap[X]? = some (.cells #[.int .i64 0, .int .i64 0, .int .i64 0, .string ⟨#[]⟩, .slice none 0 0, .slice none 0 0, .slice none 0 0] 41 (0, 0)) := by rw [hw10, setCell_far (by omega)]; exact FX9
  have FY10 : w10.heap[Y]? = some (.cells #[.int .i64 3, .int .i64 0, .int .i64 0, .string (lit x), .slice none 0 0, .slice none 0 0, .slice (some ⟨Z, 0, none⟩) 1 1] 41 (0, 0)) := by rw [hw10]; exact (set7 FY9 (.slice (some ⟨Z, 0, none⟩) 1 1)).2.2.2
  have FZ10 : w10.heap[Z]? = some (.cells #[.int .i64 t.hd.kind, .int .i64 t.hd.n, .int .i64 t.hd.range, .string t.hd.word, .slice t.sp.ma t.hd.ms.length t.sp.mc, .slice t.sp.ba t.hd.bs.length t.sp.bc, .slice t.sp.ka t.kids.length t.sp.kc] 41 (0, 0)) := by rw [hw10, setCell_far (by omega)]; exact FZ9
  have IN10 : t.In (cut S w10) := by rw [hw10]; exact IN9.far hYS
  have HW9 := hide hw9
  have HW10 := hide hw10
  have HZ := hide hZ
  clear hw9 hw10 hZ R8 R9 G8 G9 FX8 FX9 FY8 FY9 FZ9 IN8 IN9
  unfold eval
  go_wp2_with fail
  rw [← HW9.out, ← HZ.out, ← HW10.out]
  clear y0 y1 y2 y3 y4 y5 y6 u0 u1 u2 u3 u4 u5 u6
  have E11 := hide (expect_any [41] s q B w10 R10 hs)
  unfold lit at E11
  refine E11.out.mono ?_
  rintro e w11 ⟨⟨r11, hx, rfl, R11⟩ | ⟨f, hf, rfl⟩, g⟩
  rotate_left
  ·have HE : Hid (al sub st = .error f) := by show _ = _; simp only [al, Q0.out, QB.out, QS.out, hf]
   have G := grown_trans G10 g (fun _ hk => .inl hk)
   clear hf
   go_wp2_with fail
   exact ⟨rfl, .inr ⟨_, HE.out, rfl⟩, G⟩
  have Q11 := hide hx
  clear hx E11
  have G11 := grown_trans G10 g (fun _ hk => .inl hk)
  have FX11 := grown_block g FX10 hXB
  have FY11 := grown_block g FY10 hYB
  have FZ11 := grown_block g FZ10 hZB
  have IN11 := IN10.grown g hBS
  clear g G10 FX10 FY10 R10 FZ10 IN10
  obtain ⟨y0, y1, y2, y3, y4, y5, y6⟩ := seven_cells FY11
  obtain ⟨tt, htt⟩ : ∃ tt : ET, tt = .node ⟨3, 0, 0, lit x, [], []⟩ ⟨none, 0, none, 0, some ⟨Z, 0, none⟩, 1⟩ [t] := ⟨_, rfl⟩
  have HEND := hide (ended_any tt s ⟨r11, q.n⟩ B w11 R11 (by simp only; omega))
  have hev : eval tt = .agg #[.int .i64 3, .int .i64 0, .int .i64 0, .string (lit x), .slice none 0 0, .slice none 0 0, .slice (some ⟨Z, 0, none⟩) 1 1] := by rw [htt]; rfl
  have hex : tt.ex = .mk ⟨3, 0, 0, lit x, [], []⟩ [t.ex] := by rw [htt]; simp [ET.ex, exL]
  have HFIN : Hid (al sub st = fin tt.ex ⟨r11, q.n⟩) := by show _ = _; rw [hex]; simp only [al, Q0.out, QB.out, QS.out, Q11.out]
  have HIN : Hid (∀ v : World, t.In (cut S v) → v.heap[Z]? = some (.cells #[.int .i64 t.hd.kind, .int .i64 t.hd.n, .int .i64 t.hd.range, .string t.hd.word, .slice t.sp.ma t.hd.ms.length t.sp.mc, .slice t.sp.ba t.hd.bs.length t.sp.bc, .slice t.sp.ka t.kids.length t.sp.kc] 41 (0, 0)) → tt.In (cut w.heap.size v)) := by
   intro v hin fz
   rw [htt]
   simp only [ET.In]
   exact ⟨⟨.inl rfl, .inl rfl, one_seg fz (by omega)⟩, ⟨by simp, by simp, by simp, by show (lit x).size ≤ _; rw [lit_size]; omega, fun m hm => by (cases hm), fun b hb => by (cases hb), Nat.le_refl _, fun m hm => by (cases hm)⟩, by simp only [InL]; exact ⟨ET.In.low hwS t hin, trivial⟩⟩
  rw [hev] at HEND
  clear htt hex
  go_wp2_with fail
  refine HEND.out.mono ?_
  rintro e w12 ⟨⟨hx, rfl, R12⟩ | ⟨hf, rfl⟩, g⟩
  ·have HE : Hid (al sub st = .ok (tt.ex, ⟨r11, q.n + 1⟩)) := by show _ = _; rw [HFIN.out, hx]
   have hq1 : q.n + 1 ≤ 100 := (fin_ok hx).2.2
   have G12 := grown_trans G11 g (fun _ hk => .inl hk)
   have FX12 := grown_block g FX11 hXB
   have FZ12 := grown_block g FZ11 hZB
   have IN12 := IN11.grown g hBS
   obtain ⟨z0, z1, z2, z3, z4, z5, z6⟩ := seven_cells FX12
   obtain ⟨u0, u1, u2, u3, u4, u5, u6⟩ := thaw7 FX12
   have HRF := hide (put7_rd (t := tt) R12 (Ne.symm hXB))
   have HGF := hide (put7_grown (t := tt) G12 (X := X) hXw)
   have HINF := hide (HIN.out (put7 w12 X tt) (put7_in IN12 hXS) ((put7_far (by omega)).trans FZ12))
   have hput : put7 w12 X tt = (((((((w12.setCell ⟨X, 0, none⟩ (.int .i64 3)).setCell ⟨X, 1, none⟩ (.int .i64 0)).setCell ⟨X, 2, none⟩ (.int .i64 0)).setCell ⟨X, 3, none⟩ (.string (lit x))).setCell ⟨X, 4, none⟩ (.slice none 0 0)).setCell ⟨X, 5, none⟩ (.slice none 0 0)).setCell ⟨X, 6, none⟩ (.slice (some ⟨Z, 0, none⟩) 1 1)) := by
    have h7 := hev
    unfold eval at h7
    simp only [Value.agg.injEq, Array.mk.injEq, List.cons.injEq, and_true] at h7
    obtain ⟨e0, e1, e2, e3, e4, e5, e6⟩ := h7
    unfold put7
    rw [e0, e1, e2, e3, e4, e5, e6]
   rw [hput] at HRF HGF HINF
   clear hx g G12 FX12 R12 HIN HFIN HEND hput
   go_wp2
   exact bodyPost_ret (v := .agg #[.int .i64 3, .int .i64 0, .int .i64 0, .string (lit x), .slice none 0 0, .slice none 0 0, .slice (some ⟨Z, 0, none⟩) 1 1]) (by simp [results, Tryz.results190, go_sem, z0, z1, z2, z3, z4, z5, z6]) rfl ⟨.inl ⟨tt, _, HE.out, by rw [hev], HINF.out, HRF.out, hq1⟩, HGF.out⟩
  ·have HE : Hid (al sub st = .error (4, r11.length)) := by show _ = _; rw [HFIN.out, hf]
   have G := grown_trans G11 g (fun _ hk => .inl hk)
   clear hf
   go_wp2_with fail
   exact ⟨rfl, .inr ⟨_, HE.out, rfl⟩, G⟩
 | none =>
  have HA := hide ha
  rw [ha] at A2
  simp only [Option.getD_none, Option.isSome_none] at A2
  clear ha
  refine A2.out.mono ?_
  rintro e w3 ⟨rfl, R3, g⟩
  clear A2
  have G3 := grown_trans G2 g (fun _ hk => .inl hk)
  have FX3 := grown_block g FX2 hXB
  have FY3 := grown_block g FY2 hYB
  clear g G2 FX2 FY2 R2
  go_wp2_with fail
  refine (by_any s ⟨r1, st.n⟩ B w3 R3 hs).mono ?_
  rintro e w4 ⟨⟨r4, hx, rfl, R4⟩ | ⟨f, hf, rfl⟩, g⟩
  rotate_left
  ·have HE : Hid (al sub st = .error f) := by show _ = _; simp only [al, Q0.out, alB, HA.out, hf]
   have G := grown_trans G3 g (fun _ hk => .inl hk)
   clear hf
   go_wp2_with fail
   exact ⟨rfl, .inr ⟨_, HE.out, rfl⟩, G⟩
  have QY := hide hx
  clear hx
  have G4 := grown_trans G3 g (fun _ hk => .inl hk)
  have FX4 := grown_block g FX3 hXB
  have FY4 := grown_block g FY3 hYB
  clear g G3 FX3 FY3 R3
  have hY4 : Y < w4.heap.size := lt_of_block FY4
  obtain ⟨OB, hOBe⟩ : ∃ OB, OB = w4.heap.size := ⟨_, rfl⟩
  have hOB : B < OB := by rw [hOBe]; exact R4.lt
  have hYO : Y < OB := by rw [hOBe]; exact hY4
  have hXO : X < OB := by omega
  have hwO : w.heap.size ≤ OB := by omega
  have HL := hide (listw_any s ⟨r4, st.n⟩ B w4 R4 hs)
  rw [← hOBe] at HL
  have HOBe := hide hOBe
  clear hOBe hY4
  go_wp2_with fail
  refine HL.out.mono ?_
  rintro e w5 ⟨⟨bs, r5, co, N, c, hx, rfl, OW5, R5⟩ | ⟨f, hf, rfl⟩, g⟩
  rotate_left
  ·have HE : Hid (al sub st = .error f) := by show _ = _; simp only [al, Q0.out, alB, HA.out, QY.out, hf]
   have G := grown_trans G4 g (fun _ hk => .inl hk)
   clear hf
   go_wp2_with fail
   exact ⟨rfl, .inr ⟨_, HE.out, rfl⟩, G⟩
  have QL := hide hx
  have HLN := hide (own_wlen OW5)
  obtain ⟨fit, hlen⟩ := lst_fit (Q := fun b : ByteArray => b.size ≤ 12) (fun _ _ _ hh => by
   unfold words1 at hh
   split at hh
   ·cases hh
   ·rename_i wd r1 hw
    simp only [Except.ok.injEq, Prod.mk.injEq] at hh
    rw [← hh.1, lit_size]
    exact wrd_len hw) hx
  have HFIT := hide fit
  have hN6 : N ≤ 5 := by rw [HLN.out]; exact hlen
  clear hx HL fit hlen
  have G5 := grown_trans G4 g (fun _ hk => .inl hk)
  have FX5 := grown_block g FX4 hXB
  have FY5 := grown_block g FY4 hYB
  clear g G4 FX4 FY4 R4
  obtain ⟨y0, y1, y2, y3, y4, y5, y6⟩ := seven_cells FY5
  obtain ⟨u0, u1, u2, u3, u4, u5, u6⟩ := thaw7 FY5
  obtain ⟨w6, hw6⟩ : ∃ v, v = w5.setCell ⟨Y, 5, none⟩ (.slice co N c) := ⟨_, rfl⟩
  have R6 : Rd 95 w6 B s ⟨r5, st.n⟩ := by rw [hw6]; exact R5.far (Ne.symm hYB)
  have G6 : w.grownBy w6 (some B) := by rw [hw6]; exact grown_far G5 (by omega)
  have FX6 : w6.heap[X]? = some (.cells #[.int .i64 0, .int .i64 0, .int .i64 0, .string ⟨#[]⟩, .slice none 0 0, .slice none 0 0, .slice none 0 0] 41 (0, 0)) := by rw [hw6, setCell_far (by omega)]; exact FX5
  have FY6 : w6.heap[Y]? = some (.cells #[.int .i64 3, .int .i64 0, .int .i64 0, .string (lit x), .slice none 0 0, .slice co N c, .slice none 0 0] 41 (0, 0)) := by rw [hw6]; exact (set7 FY5 (.slice co N c)).2.2.1
  have OW6 : w6.ownsRow OB 9 1 (.slice co N c) N (wcells bs) := by rw [hw6]; exact rown_far OW5 hYO
  have HW6 := hide hw6
  clear hw6 G5 FX5 FY5 R5 OW5
  go_wp2_with fail
  rw [← HW6.out]
  clear y0 y1 y2 y3 y4 y5 y6 u0 u1 u2 u3 u4 u5 u6
  have E7 := hide (expect_any [40] s ⟨r5, st.n⟩ B w6 R6 hs)
  unfold lit at E7
  refine E7.out.mono ?_
  rintro e w7 ⟨⟨r2, hx, rfl, R7⟩ | ⟨f, hf, rfl⟩, g⟩
  rotate_left
  ·have HE : Hid (al sub st = .error f) := by show _ = _; simp only [al, Q0.out, alB, HA.out, QY.out, QL.out, hf]
   have G := grown_trans G6 g (fun _ hk => .inl hk)
   clear hf
   go_wp2_with fail
   exact ⟨rfl, .inr ⟨_, HE.out, rfl⟩, G⟩
  have Q7 := hide hx
  have QB : Hid (alB r1 = .ok (bs, r2)) := by show _ = _; simp only [alB, HA.out, QY.out, QL.out, Q7.out]
  clear hx E7
  have G7 := grown_trans G6 g (fun _ hk => .inl hk)
  have FX7 := grown_block g FX6 hXB
  have FY7 := grown_block g FY6 hYB
  have OW7 := own_grown OW6 g hOB
  clear g G6 FX6 FY6 R6 OW6
  have hYp : Y < w7.heap.size := lt_of_block FY7
  obtain ⟨S, hS⟩ : ∃ S, S = w7.heap.size := ⟨_, rfl⟩
  have hYS : Y < S := by omega
  have hXS : X < S := by omega
  have hBS : B < S := by omega
  have hwS : w.heap.size ≤ S := by omega
  have HSC := hide (HSUB.out s ⟨r2, st.n⟩ B w0 w7 R7 hs hn HEV.out (HB0.out.grown G7 HB0.out.size (fun j hj => by cases hj; exact hB0)) hB0)
  unfold EPost at HSC; rw [← hS] at HSC
  have HS := hide hS
  clear hS hYp
  go_wp2_with fail
  refine HSC.out.mono ?_
  rintro e w8 ⟨⟨t, q, hx, rfl, IN8, R8, hq⟩ | ⟨f, hf, rfl⟩, g⟩
  rotate_left
  ·have HE : Hid (al sub st = .error f) := by show _ = _; simp only [al, Q0.out, QB.out, hf]
   have G := grown_trans G7 g (fun _ hk => .inl hk)
   clear hf
   go_wp2_with fail
   exact ⟨rfl, .inr ⟨_, HE.out, rfl⟩, G⟩
  have QS := hide hx
  have hS8 : S ≤ w8.heap.size := by have := g.size; have := HS.out; omega
  clear hx HSC
  have G8 := grown_trans G7 g (fun _ hk => .inl hk)
  have FX8 := grown_block g FX7 hXB
  have FY8 := grown_block g FY7 hYB
  have OW8 := own_grown OW7 g hOB
  clear g G7 FX7 FY7 R7 OW7
  obtain ⟨Z, hZ⟩ : ∃ Z, Z = w8.heap.size := ⟨_, rfl⟩
  have hSZ : S ≤ Z := by omega
  have hZB : Z ≠ B := by omega
  obtain ⟨w9, hw9⟩ : ∃ v, v = w8.alloc (.cells #[.int .i64 t.hd.kind, .int .i64 t.hd.n, .int .i64 t.hd.range, .string t.hd.word, .slice t.sp.ma t.hd.ms.length t.sp.mc, .slice t.sp.ba t.hd.bs.length t.sp.bc, .slice t.sp.ka t.kids.length t.sp.kc] 41) := ⟨_, rfl⟩
  have R9 : Rd 95 w9 B s q := by rw [hw9]; exact R8.alloc _
  have G9 : w.grownBy w9 (some B) := by rw [hw9]; exact grown_trans G8 (World.grownBy_alloc _ _ none) (fun _ hk => by cases hk)
  have FX9 : w9.heap[X]? = some (.cells #[.int .i64 0, .int .i64 0, .int .i64 0, .string ⟨#[]⟩, .slice none 0 0, .slice none 0 0, .slice none 0 0] 41 (0, 0)) := by rw [hw9, Below.heap_alloc _ _ _ (by omega)]; exact FX8
  have FY9 : w9.heap[Y]? = some (.cells #[.int .i64 3, .int .i64 0, .int .i64 0, .string (lit x), .slice none 0 0, .slice co N c, .slice none 0 0] 41 (0, 0)) := by rw [hw9, Below.heap_alloc _ _ _ (by omega)]; exact FY8
  have FZ9 : w9.heap[Z]? = some (.cells #[.int .i64 t.hd.kind, .int .i64 t.hd.n, .int .i64 t.hd.range, .string t.hd.word, .slice t.sp.ma t.hd.ms.length t.sp.mc, .slice t.sp.ba t.hd.bs.length t.sp.bc, .slice t.sp.ka t.kids.length t.sp.kc] 41 (0, 0)) := by rw [hw9, hZ]; exact heap_alloc_new w8 _
  have IN9 : t.In (cut S w9) := by rw [hw9]; exact IN8.grown (B := B) (grown_trans (World.grownBy.refl _ _) (World.grownBy_alloc _ _ none) (fun _ hk => by cases hk)) hBS
  have OW9 : w9.ownsRow OB 9 1 (.slice co N c) N (wcells bs) := by rw [hw9]; exact OW8.alloc _
  have FY9' := FY9
  rw [hw9] at FY9'
  obtain ⟨y0, y1, y2, y3, y4, y5, y6⟩ := seven_cells FY9'
  obtain ⟨u0, u1, u2, u3, u4, u5, u6⟩ := thaw7 FY9'
  clear FY9'
  obtain ⟨w10, hw10⟩ : ∃ v, v = w9.setCell ⟨Y, 6, none⟩ (.slice (some ⟨Z, 0, none⟩) 1 1) := ⟨_, rfl⟩
  have R10 : Rd 95 w10 B s q := by rw [hw10]; exact R9.far (Ne.symm hYB)
  have G10 : w.grownBy w10 (some B) := by rw [hw10]; exact grown_far G9 (by omega)
  have FX10 : w10.heap[X]? = some (.cells #[.int .i64 0, .int .i64 0, .int .i64 0, .string ⟨#[]⟩, .slice none 0 0, .slice none 0 0, .slice none 0 0] 41 (0, 0)) := by rw [hw10, setCell_far (by omega)]; exact FX9
  have FY10 : w10.heap[Y]? = some (.cells #[.int .i64 3, .int .i64 0, .int .i64 0, .string (lit x), .slice none 0 0, .slice co N c, .slice (some ⟨Z, 0, none⟩) 1 1] 41 (0, 0)) := by rw [hw10]; exact (set7 FY9 (.slice (some ⟨Z, 0, none⟩) 1 1)).2.2.2
  have FZ10 : w10.heap[Z]? = some (.cells #[.int .i64 t.hd.kind, .int .i64 t.hd.n, .int .i64 t.hd.range, .string t.hd.word, .slice t.sp.ma t.hd.ms.length t.sp.mc, .slice t.sp.ba t.hd.bs.length t.sp.bc, .slice t.sp.ka t.kids.length t.sp.kc] 41 (0, 0)) := by rw [hw10, setCell_far (by omega)]; exact FZ9
  have IN10 : t.In (cut S w10) := by rw [hw10]; exact IN9.far hYS
  have OW10 : w10.ownsRow OB 9 1 (.slice co N c) N (wcells bs) := by rw [hw10]; exact rown_far OW9 hYO
  have HW9 := hide hw9
  have HW10 := hide hw10
  have HZ := hide hZ
  clear hw9 hw10 hZ R8 R9 G8 G9 FX8 FX9 FY8 FY9 FZ9 IN8 IN9 OW8 OW9
  unfold eval
  go_wp2_with fail
  rw [← HW9.out, ← HZ.out, ← HW10.out]
  clear y0 y1 y2 y3 y4 y5 y6 u0 u1 u2 u3 u4 u5 u6
  have E11 := hide (expect_any [41] s q B w10 R10 hs)
  unfold lit at E11
  refine E11.out.mono ?_
  rintro e w11 ⟨⟨r11, hx, rfl, R11⟩ | ⟨f, hf, rfl⟩, g⟩
  rotate_left
  ·have HE : Hid (al sub st = .error f) := by show _ = _; simp only [al, Q0.out, QB.out, QS.out, hf]
   have G := grown_trans G10 g (fun _ hk => .inl hk)
   clear hf
   go_wp2_with fail
   exact ⟨rfl, .inr ⟨_, HE.out, rfl⟩, G⟩
  have Q11 := hide hx
  clear hx E11
  have G11 := grown_trans G10 g (fun _ hk => .inl hk)
  have FX11 := grown_block g FX10 hXB
  have FY11 := grown_block g FY10 hYB
  have OW11 := own_grown OW10 g hOB
  have FZ11 := grown_block g FZ10 hZB
  have IN11 := IN10.grown g hBS
  clear g G10 FX10 FY10 R10 OW10 FZ10 IN10
  obtain ⟨y0, y1, y2, y3, y4, y5, y6⟩ := seven_cells FY11
  obtain ⟨tt, htt⟩ : ∃ tt : ET, tt = .node ⟨3, 0, 0, lit x, [], bs⟩ ⟨none, 0, co, c, some ⟨Z, 0, none⟩, 1⟩ [t] := ⟨_, rfl⟩
  have HEND := hide (ended_any tt s ⟨r11, q.n⟩ B w11 R11 (by simp only; omega))
  have hev : eval tt = .agg #[.int .i64 3, .int .i64 0, .int .i64 0, .string (lit x), .slice none 0 0, .slice co N c, .slice (some ⟨Z, 0, none⟩) 1 1] := by rw [htt]; show Value.agg _ = _; rw [HLN.out]; rfl
  have hex : tt.ex = .mk ⟨3, 0, 0, lit x, [], bs⟩ [t.ex] := by rw [htt]; simp [ET.ex, exL]
  have HFIN : Hid (al sub st = fin tt.ex ⟨r11, q.n⟩) := by show _ = _; rw [hex]; simp only [al, Q0.out, QB.out, QS.out, Q11.out]
  have HIN : Hid (∀ v : World, t.In (cut S v) → v.heap[Z]? = some (.cells #[.int .i64 t.hd.kind, .int .i64 t.hd.n, .int .i64 t.hd.range, .string t.hd.word, .slice t.sp.ma t.hd.ms.length t.sp.mc, .slice t.sp.ba t.hd.bs.length t.sp.bc, .slice t.sp.ka t.kids.length t.sp.kc] 41 (0, 0)) → v.ownsRow OB 9 1 (.slice co N c) N (wcells bs) → tt.In (cut w.heap.size v)) := by
   intro v hin fz ow
   rw [htt]
   simp only [ET.In]
   exact ⟨⟨.inl rfl, (own_cut ow hwO).1, one_seg fz (by omega)⟩, ⟨by simp, by rw [← HLN.out]; omega, by simp, by show (lit x).size ≤ _; rw [lit_size]; omega, fun m hm => by (cases hm), fun b hb => by have := HFIT.out b hb; omega, by rw [← HLN.out]; exact (own_cut ow hwO).2, fun m hm => by (cases hm)⟩, by simp only [InL]; exact ⟨ET.In.low hwS t hin, trivial⟩⟩
  rw [hev] at HEND
  clear htt hex
  go_wp2_with fail
  refine HEND.out.mono ?_
  rintro e w12 ⟨⟨hx, rfl, R12⟩ | ⟨hf, rfl⟩, g⟩
  ·have HE : Hid (al sub st = .ok (tt.ex, ⟨r11, q.n + 1⟩)) := by show _ = _; rw [HFIN.out, hx]
   have hq1 : q.n + 1 ≤ 100 := (fin_ok hx).2.2
   have G12 := grown_trans G11 g (fun _ hk => .inl hk)
   have FX12 := grown_block g FX11 hXB
   have FZ12 := grown_block g FZ11 hZB
   have IN12 := IN11.grown g hBS
   have OW12 := own_grown OW11 g hOB
   obtain ⟨z0, z1, z2, z3, z4, z5, z6⟩ := seven_cells FX12
   obtain ⟨u0, u1, u2, u3, u4, u5, u6⟩ := thaw7 FX12
   have HRF := hide (put7_rd (t := tt) R12 (Ne.symm hXB))
   have HGF := hide (put7_grown (t := tt) G12 (X := X) hXw)
   have HINF := hide (HIN.out (put7 w12 X tt) (put7_in IN12 hXS) ((put7_far (by omega)).trans FZ12) (own_put7 OW12 hXO))
   have hput : put7 w12 X tt = (((((((w12.setCell ⟨X, 0, none⟩ (.int .i64 3)).setCell ⟨X, 1, none⟩ (.int .i64 0)).setCell ⟨X, 2, none⟩ (.int .i64 0)).setCell ⟨X, 3, none⟩ (.string (lit x))).setCell ⟨X, 4, none⟩ (.slice none 0 0)).setCell ⟨X, 5, none⟩ (.slice co N c)).setCell ⟨X, 6, none⟩ (.slice (some ⟨Z, 0, none⟩) 1 1)) := by
    have h7 := hev
    unfold eval at h7
    simp only [Value.agg.injEq, Array.mk.injEq, List.cons.injEq, and_true] at h7
    obtain ⟨e0, e1, e2, e3, e4, e5, e6⟩ := h7
    unfold put7
    rw [e0, e1, e2, e3, e4, e5, e6]
   rw [hput] at HRF HGF HINF
   clear hx g G12 FX12 R12 HIN HFIN HEND hput
   go_wp2
   exact bodyPost_ret (v := .agg #[.int .i64 3, .int .i64 0, .int .i64 0, .string (lit x), .slice none 0 0, .slice co N c, .slice (some ⟨Z, 0, none⟩) 1 1]) (by simp [results, Tryz.results190, go_sem, z0, z1, z2, z3, z4, z5, z6]) rfl ⟨.inl ⟨tt, _, HE.out, by rw [hev], HINF.out, HRF.out, hq1⟩, HGF.out⟩
  ·have HE : Hid (al sub st = .error (4, r11.length)) := by show _ = _; rw [HFIN.out, hf]
   have G := grown_trans G11 g (fun _ hk => .inl hk)
   clear hf
   go_wp2_with fail
   exact ⟨rfl, .inr ⟨_, HE.out, rfl⟩, G⟩
end Go.Proofs.YtoldmigappbjcaaGreatDoor
