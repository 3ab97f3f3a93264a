/-
  term and sum walked.
-/
import Derived.Test.YtfgablhgjbjbkadGreatDoorRC
namespace Go.Proofs.YtfgablhgjbjbkadGreatDoor
open Go.RowKit Go.GrainU

set_option maxHeartbeats 4000000 in
theorem term_of {d : Int} {p : St → Except Flt (Ex × St)} (hf : Reads 50 d p) (hmono : ∀ st x q, p st = .ok (x, q) → q.r.length ≤ st.r.length) : Reads 35 d (chn p [[42]]) := by
  intro s st B w0 w h hs hn hv hb0 hB0
  have hB := h.lt
  obtain ⟨Z, hZ⟩ : ∃ Z, Z = w.heap.size := ⟨_, rfl⟩
  obtain ⟨V, hV⟩ : ∃ V, V = (((w.alloc (.cells #[.pointer (some ⟨B, 0, none⟩)] 59)).alloc (.cells #[.int .i64 d] 3)).alloc (.cells #[.int .i64 0, .int .i64 0, .int .i64 0, .string ⟨#[]⟩, .slice none 0 0, .slice none 0 0, .slice none 0 0] 26)).alloc (.cells #[.string ⟨#[42]⟩] 9) := ⟨_, rfl⟩
  have R0 : Rd 43 V B s st := by rw [hV]; exact (((h.alloc _).alloc _).alloc _).alloc _
  have G0 : w.grownBy V (some B) := by
    rw [hV]
    exact grown_trans (grown_trans (grown_trans (grown_trans (World.grownBy.refl _ _) (World.grownBy_alloc _ _ none) (fun _ hk => by cases hk)) (World.grownBy_alloc _ _ none) (fun _ hk => by cases hk)) (World.grownBy_alloc _ _ none) (fun _ hk => by cases hk)) (World.grownBy_alloc _ _ none) (fun _ hk => by cases hk)
  have F1 : V.heap[Z]? = some (.cells #[.pointer (some ⟨B, 0, none⟩)] 59 (0, 0)) := by
    rw [hV, hZ, Below.heap_alloc _ _ _ (by simp; omega), Below.heap_alloc _ _ _ (by simp; omega), Below.heap_alloc _ _ _ (by simp)]; exact heap_alloc_new w _
  have F2 : V.heap[Z + 1]? = some (.cells #[.int .i64 d] 3 (0, 0)) := by
    rw [hV, hZ, Below.heap_alloc _ _ _ (by simp), Below.heap_alloc _ _ _ (by simp)]
    have := heap_alloc_new (w.alloc (.cells #[.pointer (some ⟨B, 0, none⟩)] 59)) (.cells #[.int .i64 d] 3)
    simpa using this
  have FX : V.heap[Z + 1 + 1]? = some (.cells #[.int .i64 0, .int .i64 0, .int .i64 0, .string ⟨#[]⟩, .slice none 0 0, .slice none 0 0, .slice none 0 0] 26 (0, 0)) := by
    rw [hV, hZ, Below.heap_alloc _ _ _ (by simp)]
    have := heap_alloc_new ((w.alloc (.cells #[.pointer (some ⟨B, 0, none⟩)] 59)).alloc (.cells #[.int .i64 d] 3)) (.cells #[.int .i64 0, .int .i64 0, .int .i64 0, .string ⟨#[]⟩, .slice none 0 0, .slice none 0 0, .slice none 0 0] 26)
    simpa using this
  have SG : Seg V (some ⟨Z + 1 + 1 + 1, 0, none⟩) (wcells (slit [[42]])) := by
    have := seg_words (w := ((w.alloc (.cells #[.pointer (some ⟨B, 0, none⟩)] 59)).alloc (.cells #[.int .i64 d] 3)).alloc (.cells #[.int .i64 0, .int .i64 0, .int .i64 0, .string ⟨#[]⟩, .slice none 0 0, .slice none 0 0, .slice none 0 0] 26)) (cs := #[.string ⟨#[42]⟩]) (t := 9) (l := slit [[42]]) rfl
    rw [hV, hZ]
    simpa using this
  have hVs : V.heap.size = Z + 1 + 1 + 1 + 1 := by rw [hV, hZ]; simp
  have hbV : Below w0.heap.size w0 V := hb0.grown G0 hb0.size (fun j hj => by cases hj; exact hB0)
  have HC := hide (tchain_of hf hmono [[42]] (by simp) (some ⟨Z + 1 + 1 + 1, 0, none⟩) 1 1 s st B Z (Z + 1) w0 V R0 hs hn hv hbV hB0 (one_cell7 F1).1 (one_cell7 F2).1 (by omega) (by omega) SG rfl (by omega) (fun b off e => by cases e; omega))
  have HF := hide FX
  have HG := hide G0
  have HV := hide hV
  have HZ := hide hZ
  have hXB : Z + 1 + 1 ≠ B := by omega
  clear hV FX G0 R0 hbV hf hZ F1 F2 SG hmono
  go_enter Tryz.func35, Tryz.ntmps35
  go_wp2_with fail
  rw [← HV.out, ← HZ.out]
  refine HC.out.mono ?_
  rintro e w1 ⟨⟨t, q, hx, rfl, hin, R1, hq⟩ | ⟨f, hf, rfl⟩, g⟩
  · have HQ := hide hx
    have G1 := grown_trans HG.out g (fun _ hk => .inl hk)
    have FX1 := grown_block g HF.out hXB
    obtain ⟨x0, x1, x2, x3, x4, x5, x6⟩ := seven_cells FX1
    obtain ⟨u0, u1, u2, u3, u4, u5, u6⟩ := thaw7 FX1
    have HRF := hide (put7_rd (t := t) R1 (Ne.symm hXB))
    have HGF := hide (put7_grown (t := t) G1 (X := Z + 1 + 1) (by have := HZ.out; omega))
    have HIN := hide (ET.In.low (b' := w.heap.size) (by have := HZ.out; omega) t (put7_in (t := t) hin (X := Z + 1 + 1) (by omega)))
    clear hx hin R1 g G1 FX1 HC
    unfold eval
    unfold put7 at HRF HGF HIN
    go_wp2
    exact bodyPost_ret (v := eval t) (by simp [eval, results, Tryz.results35, go_sem, x0, x1, x2, x3, x4, x5, x6]) rfl ⟨.inl ⟨t, q, HQ.out, rfl, HIN.out, HRF.out, hq⟩, HGF.out⟩
  · have HE := hide hf
    have G := grown_trans HG.out g (fun _ hk => .inl hk)
    clear hf
    go_wp2_with fail
    exact ⟨rfl, .inr ⟨f, HE.out, rfl⟩, G⟩

set_option maxHeartbeats 4000000 in
theorem sum_of {d : Int} {p : St → Except Flt (Ex × St)} (hf : Reads 35 d p) (hmono : ∀ st x q, p st = .ok (x, q) → q.r.length ≤ st.r.length) : Reads 25 d (chn p [[43], [45]]) := by
  intro s st B w0 w h hs hn hv hb0 hB0
  have hB := h.lt
  obtain ⟨Z, hZ⟩ : ∃ Z, Z = w.heap.size := ⟨_, rfl⟩
  obtain ⟨V, hV⟩ : ∃ V, V = (((w.alloc (.cells #[.pointer (some ⟨B, 0, none⟩)] 59)).alloc (.cells #[.int .i64 d] 3)).alloc (.cells #[.int .i64 0, .int .i64 0, .int .i64 0, .string ⟨#[]⟩, .slice none 0 0, .slice none 0 0, .slice none 0 0] 26)).alloc (.cells #[.string ⟨#[43]⟩, .string ⟨#[45]⟩] 9) := ⟨_, rfl⟩
  have R0 : Rd 43 V B s st := by rw [hV]; exact (((h.alloc _).alloc _).alloc _).alloc _
  have G0 : w.grownBy V (some B) := by
    rw [hV]
    exact grown_trans (grown_trans (grown_trans (grown_trans (World.grownBy.refl _ _) (World.grownBy_alloc _ _ none) (fun _ hk => by cases hk)) (World.grownBy_alloc _ _ none) (fun _ hk => by cases hk)) (World.grownBy_alloc _ _ none) (fun _ hk => by cases hk)) (World.grownBy_alloc _ _ none) (fun _ hk => by cases hk)
  have F1 : V.heap[Z]? = some (.cells #[.pointer (some ⟨B, 0, none⟩)] 59 (0, 0)) := by
    rw [hV, hZ, Below.heap_alloc _ _ _ (by simp; omega), Below.heap_alloc _ _ _ (by simp; omega), Below.heap_alloc _ _ _ (by simp)]; exact heap_alloc_new w _
  have F2 : V.heap[Z + 1]? = some (.cells #[.int .i64 d] 3 (0, 0)) := by
    rw [hV, hZ, Below.heap_alloc _ _ _ (by simp), Below.heap_alloc _ _ _ (by simp)]
    have := heap_alloc_new (w.alloc (.cells #[.pointer (some ⟨B, 0, none⟩)] 59)) (.cells #[.int .i64 d] 3)
    simpa using this
  have FX : V.heap[Z + 1 + 1]? = some (.cells #[.int .i64 0, .int .i64 0, .int .i64 0, .string ⟨#[]⟩, .slice none 0 0, .slice none 0 0, .slice none 0 0] 26 (0, 0)) := by
    rw [hV, hZ, Below.heap_alloc _ _ _ (by simp)]
    have := heap_alloc_new ((w.alloc (.cells #[.pointer (some ⟨B, 0, none⟩)] 59)).alloc (.cells #[.int .i64 d] 3)) (.cells #[.int .i64 0, .int .i64 0, .int .i64 0, .string ⟨#[]⟩, .slice none 0 0, .slice none 0 0, .slice none 0 0] 26)
    simpa using this
  have SG : Seg V (some ⟨Z + 1 + 1 + 1, 0, none⟩) (wcells (slit [[43], [45]])) := by
    have := seg_words (w := ((w.alloc (.cells #[.pointer (some ⟨B, 0, none⟩)] 59)).alloc (.cells #[.int .i64 d] 3)).alloc (.cells #[.int .i64 0, .int .i64 0, .int .i64 0, .string ⟨#[]⟩, .slice none 0 0, .slice none 0 0, .slice none 0 0] 26)) (cs := #[.string ⟨#[43]⟩, .string ⟨#[45]⟩]) (t := 9) (l := slit [[43], [45]]) rfl
    rw [hV, hZ]
    simpa using this
  have hVs : V.heap.size = Z + 1 + 1 + 1 + 1 := by rw [hV, hZ]; simp
  have hbV : Below w0.heap.size w0 V := hb0.grown G0 hb0.size (fun j hj => by cases hj; exact hB0)
  have HC := hide (schain_of hf hmono [[43], [45]] (by simp) (some ⟨Z + 1 + 1 + 1, 0, none⟩) 2 2 s st B Z (Z + 1) w0 V R0 hs hn hv hbV hB0 (one_cell7 F1).1 (one_cell7 F2).1 (by omega) (by omega) SG rfl (by omega) (fun b off e => by cases e; omega))
  have HF := hide FX
  have HG := hide G0
  have HV := hide hV
  have HZ := hide hZ
  have hXB : Z + 1 + 1 ≠ B := by omega
  clear hV FX G0 R0 hbV hf hZ F1 F2 SG hmono
  go_enter Tryz.func25, Tryz.ntmps25
  go_wp2_with fail
  rw [← HV.out, ← HZ.out]
  refine HC.out.mono ?_
  rintro e w1 ⟨⟨t, q, hx, rfl, hin, R1, hq⟩ | ⟨f, hf, rfl⟩, g⟩
  · have HQ := hide hx
    have G1 := grown_trans HG.out g (fun _ hk => .inl hk)
    have FX1 := grown_block g HF.out hXB
    obtain ⟨x0, x1, x2, x3, x4, x5, x6⟩ := seven_cells FX1
    obtain ⟨u0, u1, u2, u3, u4, u5, u6⟩ := thaw7 FX1
    have HRF := hide (put7_rd (t := t) R1 (Ne.symm hXB))
    have HGF := hide (put7_grown (t := t) G1 (X := Z + 1 + 1) (by have := HZ.out; omega))
    have HIN := hide (ET.In.low (b' := w.heap.size) (by have := HZ.out; omega) t (put7_in (t := t) hin (X := Z + 1 + 1) (by omega)))
    clear hx hin R1 g G1 FX1 HC
    unfold eval
    unfold put7 at HRF HGF HIN
    go_wp2
    exact bodyPost_ret (v := eval t) (by simp [eval, results, Tryz.results25, go_sem, x0, x1, x2, x3, x4, x5, x6]) rfl ⟨.inl ⟨t, q, HQ.out, rfl, HIN.out, HRF.out, hq⟩, HGF.out⟩
  · have HE := hide hf
    have G := grown_trans HG.out g (fun _ hk => .inl hk)
    clear hf
    go_wp2_with fail
    exact ⟨rfl, .inr ⟨f, HE.out, rfl⟩, G⟩

end Go.Proofs.YtfgablhgjbjbkadGreatDoor
