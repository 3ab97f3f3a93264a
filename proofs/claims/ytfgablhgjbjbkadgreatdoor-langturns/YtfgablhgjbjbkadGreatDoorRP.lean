/-
  An expression stored; the closures that read a part.
-/
import Derived.Test.YtfgablhgjbjbkadGreatDoorRX
namespace Go.GrainU
open Go.RowKit

/-- an expression stored into block X -/
def put7 (w : World) (X : Nat) (t : ET) : World :=
  ((((((w.setCell ⟨X, 0, none⟩ (.int .i64 t.hd.kind)).setCell ⟨X, 1, none⟩ (.int .i64 t.hd.n)).setCell ⟨X, 2, none⟩ (.int .i64 t.hd.range)).setCell ⟨X, 3, none⟩ (.string t.hd.word)).setCell ⟨X, 4, none⟩ (.slice t.sp.ma t.hd.ms.length t.sp.mc)).setCell ⟨X, 5, none⟩ (.slice t.sp.ba t.hd.bs.length t.sp.bc)).setCell ⟨X, 6, none⟩ (.slice t.sp.ka t.kids.length t.sp.kc)

theorem put7_far {w : World} {X k : Nat} {t : ET} (h : k ≠ X) : (put7 w X t).heap[k]? = w.heap[k]? := by
  unfold put7
  rw [setCell_far h, setCell_far h, setCell_far h, setCell_far h, setCell_far h, setCell_far h, setCell_far h]

theorem put7_size {w : World} {X : Nat} {t : ET} : (put7 w X t).heap.size = w.heap.size := by simp [put7]

theorem put7_blk {w : World} {X : Nat} {t : ET} {x0 x1 x2 x3 x4 x5 x6 : Value} {ty : TypeId} (h : w.heap[X]? = some (.cells #[x0, x1, x2, x3, x4, x5, x6] ty (0, 0))) :
    (put7 w X t).heap[X]? = some (.cells #[.int .i64 t.hd.kind, .int .i64 t.hd.n, .int .i64 t.hd.range, .string t.hd.word, .slice t.sp.ma t.hd.ms.length t.sp.mc, .slice t.sp.ba t.hd.bs.length t.sp.bc, .slice t.sp.ka t.kids.length t.sp.kc] ty (0, 0)) := by
  unfold put7
  simp [World.setCell, Array.getElem?_modify, h]

theorem put7_rd {ty : TypeId} {w : World} {B X : Nat} {s : ByteArray} {st : St} {t : ET} (h : Rd ty w B s st) (hX : B ≠ X) : Rd ty (put7 w X t) B s st :=
  ⟨h.suf, by rw [put7_far hX]; exact h.blk⟩

theorem put7_grown {v w : World} {X : Nat} {r : Option Nat} {t : ET} (h : v.grownBy w r) (hX : v.heap.size ≤ X) : v.grownBy (put7 w X t) r := by
  unfold put7
  exact grown_far (grown_far (grown_far (grown_far (grown_far (grown_far (grown_far h hX) hX) hX) hX) hX) hX) hX

theorem put7_in {w : World} {X b : Nat} {t u : ET} (h : u.In (cut b w)) (hX : X < b) : u.In (cut b (put7 w X t)) := by
  unfold put7
  exact ET.In.far (ET.In.far (ET.In.far (ET.In.far (ET.In.far (ET.In.far (ET.In.far h hX) hX) hX) hX) hX) hX) hX

end Go.GrainU
namespace Go.Proofs.YtfgablhgjbjbkadGreatDoor
open Go.RowKit Go.GrainU

set_option maxHeartbeats 2000000 in
theorem tclos_of {d : Int} {p : St → Except Flt (Ex × St)} (hf : Reads 50 d p) (s : ByteArray) (st : St) (B Z1 Z2 : Nat) (w0 w : World) (h : Rd 43 w B s st) (hs : s.size ≤ 2000) (hn : st.n ≤ 100) (hv : ErrV w0) (hb0 : Below w0.heap.size w0 w) (hB0 : w0.heap.size ≤ B) (z1 : w.cell? ⟨Z1, 0, none⟩ = some (.pointer (some ⟨B, 0, none⟩))) (z2 : w.cell? ⟨Z2, 0, none⟩ = some (.int .i64 d)) :
    Calls Tryz.prog 49 #[.pointer (some ⟨Z1, 0, none⟩), .pointer (some ⟨Z2, 0, none⟩)] w (EPost s B w (p st)) := by
  have hB := h.lt
  have hl1 : Z1 < w.heap.size := World.block_lt_of_cell? w _ z1
  have hl2 : Z2 < w.heap.size := World.block_lt_of_cell? w _ z2
  obtain ⟨X, hX⟩ : ∃ X, X = w.heap.size := ⟨_, rfl⟩
  obtain ⟨V, hV⟩ : ∃ V, V = w.alloc (.cells #[.int .i64 0, .int .i64 0, .int .i64 0, .string ⟨#[]⟩, .slice none 0 0, .slice none 0 0, .slice none 0 0] 26) := ⟨_, rfl⟩
  have R0 : Rd 43 V B s st := by rw [hV]; exact h.alloc _
  have G0 : w.grownBy V (some B) := by rw [hV]; exact grown_trans (World.grownBy.refl _ _) (World.grownBy_alloc _ _ none) (fun _ hk => by cases hk)
  have FX : V.heap[X]? = some (.cells #[.int .i64 0, .int .i64 0, .int .i64 0, .string ⟨#[]⟩, .slice none 0 0, .slice none 0 0, .slice none 0 0] 26 (0, 0)) := by rw [hV, hX]; exact heap_alloc_new w _
  have hVs : V.heap.size = X + 1 := by rw [hV, hX]; simp
  have hbV : Below w0.heap.size w0 V := hb0.grown G0 hb0.size (fun j hj => by cases hj; exact hB0)
  have HC := hide (hf s st B w0 V R0 hs hn hv hbV hB0)
  have HF := hide FX
  have HG := hide G0
  have HV := hide hV
  have HX := hide hX
  have hXB : X ≠ B := by omega
  clear hV FX G0 R0 hbV hf hX
  go_enter Tryz.func49, Tryz.ntmps49
  go_wp2_with fail
  rw [← HV.out, ← HX.out]
  refine HC.out.mono ?_
  rintro e w1 ⟨⟨t, q, hx, rfl, hin, R1, hq⟩ | ⟨f, hf, rfl⟩, g⟩
  · have HQ := hide hx
    have G1 := grown_trans HG.out g (fun _ hk => .inl hk)
    have FX1 := grown_block g HF.out hXB
    obtain ⟨x0, x1, x2, x3, x4, x5, x6⟩ := seven_cells FX1
    obtain ⟨u0, u1, u2, u3, u4, u5, u6⟩ := thaw7 FX1
    have HRF := hide (put7_rd (t := t) R1 (Ne.symm hXB))
    have HGF := hide (put7_grown (t := t) G1 (X := X) (by have := HX.out; omega))
    have HIN := hide (ET.In.low (b' := w.heap.size) (by have := HX.out; omega) t (put7_in (t := t) hin (X := X) (by omega)))
    clear hx hin R1 g G1 FX1 HC
    unfold eval
    unfold put7 at HRF HGF HIN
    go_wp2
    exact bodyPost_ret (v := eval t) (by simp [eval, results, Tryz.results49, go_sem, x0, x1, x2, x3, x4, x5, x6]) rfl ⟨.inl ⟨t, q, HQ.out, rfl, HIN.out, HRF.out, hq⟩, HGF.out⟩
  · have HE := hide hf
    have G := grown_trans HG.out g (fun _ hk => .inl hk)
    clear hf
    go_wp2_with fail
    exact ⟨rfl, .inr ⟨f, HE.out, rfl⟩, G⟩

set_option maxHeartbeats 2000000 in
theorem sclos_of {d : Int} {p : St → Except Flt (Ex × St)} (hf : Reads 35 d p) (s : ByteArray) (st : St) (B Z1 Z2 : Nat) (w0 w : World) (h : Rd 43 w B s st) (hs : s.size ≤ 2000) (hn : st.n ≤ 100) (hv : ErrV w0) (hb0 : Below w0.heap.size w0 w) (hB0 : w0.heap.size ≤ B) (z1 : w.cell? ⟨Z1, 0, none⟩ = some (.pointer (some ⟨B, 0, none⟩))) (z2 : w.cell? ⟨Z2, 0, none⟩ = some (.int .i64 d)) :
    Calls Tryz.prog 34 #[.pointer (some ⟨Z1, 0, none⟩), .pointer (some ⟨Z2, 0, none⟩)] w (EPost s B w (p st)) := by
  have hB := h.lt
  have hl1 : Z1 < w.heap.size := World.block_lt_of_cell? w _ z1
  have hl2 : Z2 < w.heap.size := World.block_lt_of_cell? w _ z2
  obtain ⟨X, hX⟩ : ∃ X, X = w.heap.size := ⟨_, rfl⟩
  obtain ⟨V, hV⟩ : ∃ V, V = w.alloc (.cells #[.int .i64 0, .int .i64 0, .int .i64 0, .string ⟨#[]⟩, .slice none 0 0, .slice none 0 0, .slice none 0 0] 26) := ⟨_, rfl⟩
  have R0 : Rd 43 V B s st := by rw [hV]; exact h.alloc _
  have G0 : w.grownBy V (some B) := by rw [hV]; exact grown_trans (World.grownBy.refl _ _) (World.grownBy_alloc _ _ none) (fun _ hk => by cases hk)
  have FX : V.heap[X]? = some (.cells #[.int .i64 0, .int .i64 0, .int .i64 0, .string ⟨#[]⟩, .slice none 0 0, .slice none 0 0, .slice none 0 0] 26 (0, 0)) := by rw [hV, hX]; exact heap_alloc_new w _
  have hVs : V.heap.size = X + 1 := by rw [hV, hX]; simp
  have hbV : Below w0.heap.size w0 V := hb0.grown G0 hb0.size (fun j hj => by cases hj; exact hB0)
  have HC := hide (hf s st B w0 V R0 hs hn hv hbV hB0)
  have HF := hide FX
  have HG := hide G0
  have HV := hide hV
  have HX := hide hX
  have hXB : X ≠ B := by omega
  clear hV FX G0 R0 hbV hf hX
  go_enter Tryz.func34, Tryz.ntmps34
  go_wp2_with fail
  rw [← HV.out, ← HX.out]
  refine HC.out.mono ?_
  rintro e w1 ⟨⟨t, q, hx, rfl, hin, R1, hq⟩ | ⟨f, hf, rfl⟩, g⟩
  · have HQ := hide hx
    have G1 := grown_trans HG.out g (fun _ hk => .inl hk)
    have FX1 := grown_block g HF.out hXB
    obtain ⟨x0, x1, x2, x3, x4, x5, x6⟩ := seven_cells FX1
    obtain ⟨u0, u1, u2, u3, u4, u5, u6⟩ := thaw7 FX1
    have HRF := hide (put7_rd (t := t) R1 (Ne.symm hXB))
    have HGF := hide (put7_grown (t := t) G1 (X := X) (by have := HX.out; omega))
    have HIN := hide (ET.In.low (b' := w.heap.size) (by have := HX.out; omega) t (put7_in (t := t) hin (X := X) (by omega)))
    clear hx hin R1 g G1 FX1 HC
    unfold eval
    unfold put7 at HRF HGF HIN
    go_wp2
    exact bodyPost_ret (v := eval t) (by simp [eval, results, Tryz.results34, go_sem, x0, x1, x2, x3, x4, x5, x6]) rfl ⟨.inl ⟨t, q, HQ.out, rfl, HIN.out, HRF.out, hq⟩, HGF.out⟩
  · have HE := hide hf
    have G := grown_trans HG.out g (fun _ hk => .inl hk)
    clear hf
    go_wp2_with fail
    exact ⟨rfl, .inr ⟨f, HE.out, rfl⟩, G⟩

end Go.Proofs.YtfgablhgjbjbkadGreatDoor
