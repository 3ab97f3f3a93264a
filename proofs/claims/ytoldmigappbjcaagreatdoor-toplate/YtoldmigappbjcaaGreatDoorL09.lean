import Derived.Test.YtoldmigappbjcaaGreatDoorL08
namespace Go.GrainU
open Go.RowKit
def slit (l : List (List UInt8)) : List ByteArray := l.map lit
theorem accAny_none {l : List (List UInt8)} {r : List UInt8} (h : ∀ j, (hj : j < l.length) → acc l[j] r = none) : accAny l r = none := by
 induction l with
 | nil => rfl
 | cons a t ih =>
  have h0 := h 0 (by simp)
  simp only [List.getElem_cons_zero] at h0
  rw [accAny, h0]
  exact ih fun j hj => by have := h (j + 1) (by simpa using hj); simpa using this
theorem accAny_at {l : List (List UInt8)} {r r1 : List UInt8} {k : Nat} (hk : k < l.length) (h : ∀ j, (hj : j < k) → acc (l[j]'(by omega)) r = none) (ha : acc l[k] r = some r1) : accAny l r = some (l[k], r1) := by
 induction l generalizing k with
 | nil => simp at hk
 | cons a t ih =>
  match k, hk with
  | 0, _ =>
   simp only [List.getElem_cons_zero] at ha
   rw [accAny, ha]
   rfl
  | k + 1, hk =>
   have h0 := h 0 (by omega)
   simp only [List.getElem_cons_zero] at h0
   rw [accAny, h0]
   simp only [List.getElem_cons_succ] at ha ⊢
   exact ih (by simpa using hk) (fun j hj => by have := h (j + 1) (by omega); simpa using this) ha
theorem slit_at {l : List (List UInt8)} {k : Nat} (hk : k < l.length) : (slit l).getD k ⟨#[]⟩ = lit l[k] := by
 simp [slit, List.getD, hk]
end Go.GrainU
namespace Go.Proofs.YtoldmigappbjcaaGreatDoor
open Go.RowKit Go.GrainU
set_option maxHeartbeats 2000000 in
theorem signs_any (sg : List (List UInt8)) (bo : Option Addr) (m c : Nat) (s : ByteArray) (st : St) (B : Nat) (w : World) (h : Rd 95 w B s st) (hs : s.size ≤ 2000) (hb : Seg w bo (wcells (slit sg))) (hm : m = sg.length) (hM : m ≤ 100) (hne : ∀ b off, bo = some ⟨b, off, none⟩ → b ≠ B) :
  Calls Tryz.prog 144 #[.slice bo m c, .func (.func 145) #[.pointer (some ⟨B, 0, none⟩)] #[]] w fun e w' => ((∃ (k : Nat) (x r : List UInt8), accAny sg st.r = some (x, r) ∧ k < m ∧ sg[k]? = some x ∧ e = .returned (.int .i64 k) ∧ Rd 95 w' B s ⟨r, st.n⟩) ∨ (accAny sg st.r = none ∧ e = .returned (.int .i64 (-1)) ∧ Rd 95 w' B s st)) ∧ w.grownBy w' (some B) := by
 have HM := hide hm
 have HS := hide hb
 have HNE := hide hne
 clear hm hb hne
 go_enter Tryz.func144, Tryz.ntmps144
 go_wp2_with fail
 go_loopw [8] (fun i wr => ∃ k : Nat, k ≤ m ∧ i = .int .i64 k ∧ Hid (∀ j, (hj : j < k) → (hj' : j < sg.length) → acc sg[j] st.r = none) ∧ Rd 95 wr B s st ∧ w.grownBy wr (some B)) (fun i _ => m - (intOf i).toNat)
 case atStart => exact ⟨0, Nat.zero_le _, rfl, fun j hj => by omega, h, World.grownBy.refl _ _⟩
 case round =>
  obtain ⟨k, hk, rfl, HJ, R, gr⟩ := hrel
  by_cases hlt : k < m
  ·have hkl : k < sg.length := by rw [← HM.out]; exact hlt
   obtain ⟨b, off, rfl, hbl, hcell⟩ := seg_word (seg_grown HS.out gr HNE.out) (k := k) (by simpa [slit] using hkl)
   have c0 := hcell k (by simpa [slit] using hkl)
   rw [slit_at hkl] at c0
   obtain ⟨x, hx⟩ : ∃ x, x = sg[k] := ⟨_, rfl⟩
   rw [← hx] at c0
   have HX : Hid (x = sg[k]) := hx
   have A := hide (accept_any x s st B wr R hs)
   clear hx hcell
   cases ha : acc x st.r with
   | some r1 =>
    rw [ha] at A
    simp only [Option.getD_some, Option.isSome_some] at A
    have HA : Hid (accAny sg st.r = some (x, r1)) := by
     show _ = _
     rw [HX.out]
     exact accAny_at hkl (fun j hj => HJ.out j hj (by omega)) (by rw [← HX.out]; exact ha)
    have HG : Hid (sg[k]? = some x) := by show _ = _; rw [List.getElem?_eq_getElem hkl, HX.out]
    clear ha
    go_wp2_with fail
    refine A.out.mono ?_
    rintro e w1 ⟨rfl, h1, g1⟩
    have G1 := grown_trans gr g1 (fun _ hk => .inl hk)
    go_wp2_with fail
    go_ret
    exact ⟨.inl ⟨k, x, r1, HA.out, hlt, HG.out, rfl, h1⟩, G1⟩
   | none =>
    rw [ha] at A
    simp only [Option.getD_none, Option.isSome_none] at A
    have HJ' : Hid (∀ j, (hj : j < k + 1) → (hj' : j < sg.length) → acc sg[j] st.r = none) := by
     intro j hj hj'
     rcases (show j < k ∨ j = k from by omega) with e | e
     ·exact HJ.out j e hj'
     ·subst e; rw [← HX.out]; exact ha
    clear ha HJ
    go_wp2_with fail
    refine A.out.mono ?_
    rintro e w1 ⟨rfl, h1, g1⟩
    have G1 := grown_trans gr g1 (fun _ hk => .inl hk)
    go_wp2_with fail
    go_roundw
    case rel => exact ⟨k + 1, by omega, by go_num, HJ', h1, G1⟩
    case measure => simp [intOf]; omega
  ·have HA : Hid (accAny sg st.r = none) := accAny_none fun j hj => HJ.out j (by have := HM.out; omega) hj
   go_wp2_with fail
   go_ret
   exact ⟨.inr ⟨HA.out, rfl, R⟩, gr⟩
abbrev EPost (s : ByteArray) (B : Nat) (w : World) (x : Except Flt (Ex × St)) (e : Ending) (w' : World) : Prop :=
 ((∃ t q, x = .ok (ET.ex t, q) ∧ e = .returned (eval t) ∧ t.In (cut w.heap.size w') ∧ Rd 95 w' B s q ∧ q.n ≤ 100) ∨ ∃ f, x = .error f ∧ e = .panicked [thr s f]) ∧ w.grownBy w' (some B)
abbrev Reads (F : FuncId) (d : Int) (p : St → Except Flt (Ex × St)) : Prop :=
 ∀ (s : ByteArray) (st : St) (B : Nat) (w0 w : World), Rd 95 w B s st → s.size ≤ 2000 → st.n ≤ 100 → ErrV w0 → Below w0.heap.size w0 w → w0.heap.size ≤ B →
  Calls Tryz.prog F #[.pointer (some ⟨B, 0, none⟩), .int .i64 d] w (EPost s B w (p st))
end Go.Proofs.YtoldmigappbjcaaGreatDoor
namespace Go.GrainU
open Go.RowKit
def put7 (w : World) (X : Nat) (t : ET) : World :=
 ((((((w.setCell ⟨X, 0, none⟩ (.int .i64 t.hd.kind)).setCell ⟨X, 1, none⟩ (.int .i64 t.hd.n)).setCell ⟨X, 2, none⟩ (.int .i64 t.hd.range)).setCell ⟨X, 3, none⟩ (.string t.hd.word)).setCell ⟨X, 4, none⟩ (.slice t.sp.ma t.hd.ms.length t.sp.mc)).setCell ⟨X, 5, none⟩ (.slice t.sp.ba t.hd.bs.length t.sp.bc)).setCell ⟨X, 6, none⟩ (.slice t.sp.ka t.kids.length t.sp.kc)
theorem put7_far {w : World} {X k : Nat} {t : ET} (h : k ≠ X) : (put7 w X t).heap[k]? = w.heap[k]? := by
 unfold put7
 rw [setCell_far h, setCell_far h, setCell_far h, setCell_far h, setCell_far h, setCell_far h, setCell_far h]
theorem put7_blk {w : World} {X : Nat} {t : ET} {x0 x1 x2 x3 x4 x5 x6 : Value} {ty : TypeId} (h : w.heap[X]? = some (.cells #[x0, x1, x2, x3, x4, x5, x6] ty (0, 0))) :
  (put7 w X t).heap[X]? = some (.cells #[.int .i64 t.hd.kind, .int .i64 t.hd.n, .int .i64 t.hd.range, .string t.hd.word, .slice t.sp.ma t.hd.ms.length t.sp.mc, .slice t.sp.ba t.hd.bs.length t.sp.bc, .slice t.sp.ka t.kids.length t.sp.kc] ty (0, 0)) := by
 unfold put7
 simp [World.setCell, Array.getElem?_modify, h]
theorem put7_rd {ty : TypeId} {w : World} {B X : Nat} {s : ByteArray} {st : St} {t : ET} (h : Rd ty w B s st) (hX : B ≠ X) : Rd ty (put7 w X t) B s st :=
 ⟨h.suf, by rw [put7_far hX]; exact h.blk⟩
theorem put7_grown {v w : World} {X : Nat} {r : Option Nat} {t : ET} (h : v.grownBy w r) (hX : v.heap.size ≤ X) : v.grownBy (put7 w X t) r := by
 unfold put7
 exact grown_far (grown_far (grown_far (grown_far (grown_far (grown_far (grown_far h hX) hX) hX) hX) hX) hX) hX
theorem put7_in {w : World} {X b : Nat} {t u : ET} (h : u.In (cut b w)) (hX : X < b) : u.In (cut b (put7 w X t)) := by
 unfold put7
 exact ET.In.far (ET.In.far (ET.In.far (ET.In.far (ET.In.far (ET.In.far (ET.In.far h hX) hX) hX) hX) hX) hX) hX
end Go.GrainU
namespace Go.Proofs.YtoldmigappbjcaaGreatDoor
open Go.RowKit Go.GrainU
set_option maxHeartbeats 2000000 in
theorem tclos_of {d : Int} {p : St → Except Flt (Ex × St)} (hf : Reads 148 d p) (s : ByteArray) (st : St) (B Z1 Z2 : Nat) (w0 w : World) (h : Rd 95 w B s st) (hs : s.size ≤ 2000) (hn : st.n ≤ 100) (hv : ErrV w0) (hb0 : Below w0.heap.size w0 w) (hB0 : w0.heap.size ≤ B) (z1 : w.cell? ⟨Z1, 0, none⟩ = some (.pointer (some ⟨B, 0, none⟩))) (z2 : w.cell? ⟨Z2, 0, none⟩ = some (.int .i64 d)) :
  Calls Tryz.prog 147 #[.pointer (some ⟨Z1, 0, none⟩), .pointer (some ⟨Z2, 0, none⟩)] w (EPost s B w (p st)) := by
 have hB := h.lt
 have hl1 : Z1 < w.heap.size := World.block_lt_of_cell? w _ z1
 have hl2 : Z2 < w.heap.size := World.block_lt_of_cell? w _ z2
 obtain ⟨X, hX⟩ : ∃ X, X = w.heap.size := ⟨_, rfl⟩
 obtain ⟨V, hV⟩ : ∃ V, V = w.alloc (.cells #[.int .i64 0, .int .i64 0, .int .i64 0, .string ⟨#[]⟩, .slice none 0 0, .slice none 0 0, .slice none 0 0] 41) := ⟨_, rfl⟩
 have R0 : Rd 95 V B s st := by rw [hV]; exact h.alloc _
 have G0 : w.grownBy V (some B) := by rw [hV]; exact grown_trans (World.grownBy.refl _ _) (World.grownBy_alloc _ _ none) (fun _ hk => by cases hk)
 have FX : V.heap[X]? = some (.cells #[.int .i64 0, .int .i64 0, .int .i64 0, .string ⟨#[]⟩, .slice none 0 0, .slice none 0 0, .slice none 0 0] 41 (0, 0)) := by rw [hV, hX]; exact heap_alloc_new w _
 have hVs : V.heap.size = X + 1 := by rw [hV, hX]; simp
 have hbV : Below w0.heap.size w0 V := hb0.grown G0 hb0.size (fun j hj => by cases hj; exact hB0)
 have HC := hide (hf s st B w0 V R0 hs hn hv hbV hB0)
 have HF := hide FX
 have HG := hide G0
 have HV := hide hV
 have HX := hide hX
 have hXB : X ≠ B := by omega
 clear hV FX G0 R0 hbV hf hX
 go_enter Tryz.func147, Tryz.ntmps147
 go_wp2_with fail
 rw [← HV.out, ← HX.out]
 refine HC.out.mono ?_
 rintro e w1 ⟨⟨t, q, hx, rfl, hin, R1, hq⟩ | ⟨f, hf, rfl⟩, g⟩
 ·have HQ := hide hx
  have G1 := grown_trans HG.out g (fun _ hk => .inl hk)
  have FX1 := grown_block g HF.out hXB
  obtain ⟨x0, x1, x2, x3, x4, x5, x6⟩ := seven_cells FX1
  obtain ⟨u0, u1, u2, u3, u4, u5, u6⟩ := thaw7 FX1
  have HRF := hide (put7_rd (t := t) R1 (Ne.symm hXB))
  have HGF := hide (put7_grown (t := t) G1 (X := X) (by have := HX.out; omega))
  have HIN := hide (ET.In.low (b' := w.heap.size) (by have := HX.out; omega) t (put7_in (t := t) hin (X := X) (by omega)))
  clear hx hin R1 g G1 FX1 HC
  unfold eval
  unfold put7 at HRF HGF HIN
  go_wp2
  exact bodyPost_ret (v := eval t) (by simp [eval, results, Tryz.results147, go_sem, x0, x1, x2, x3, x4, x5, x6]) rfl ⟨.inl ⟨t, q, HQ.out, rfl, HIN.out, HRF.out, hq⟩, HGF.out⟩
 ·have HE := hide hf
  have G := grown_trans HG.out g (fun _ hk => .inl hk)
  clear hf
  go_wp2_with fail
  exact ⟨rfl, .inr ⟨f, HE.out, rfl⟩, G⟩
set_option maxHeartbeats 2000000 in
theorem sclos_of {d : Int} {p : St → Except Flt (Ex × St)} (hf : Reads 106 d p) (s : ByteArray) (st : St) (B Z1 Z2 : Nat) (w0 w : World) (h : Rd 95 w B s st) (hs : s.size ≤ 2000) (hn : st.n ≤ 100) (hv : ErrV w0) (hb0 : Below w0.heap.size w0 w) (hB0 : w0.heap.size ≤ B) (z1 : w.cell? ⟨Z1, 0, none⟩ = some (.pointer (some ⟨B, 0, none⟩))) (z2 : w.cell? ⟨Z2, 0, none⟩ = some (.int .i64 d)) :
  Calls Tryz.prog 105 #[.pointer (some ⟨Z1, 0, none⟩), .pointer (some ⟨Z2, 0, none⟩)] w (EPost s B w (p st)) := by
 have hB := h.lt
 have hl1 : Z1 < w.heap.size := World.block_lt_of_cell? w _ z1
 have hl2 : Z2 < w.heap.size := World.block_lt_of_cell? w _ z2
 obtain ⟨X, hX⟩ : ∃ X, X = w.heap.size := ⟨_, rfl⟩
 obtain ⟨V, hV⟩ : ∃ V, V = w.alloc (.cells #[.int .i64 0, .int .i64 0, .int .i64 0, .string ⟨#[]⟩, .slice none 0 0, .slice none 0 0, .slice none 0 0] 41) := ⟨_, rfl⟩
 have R0 : Rd 95 V B s st := by rw [hV]; exact h.alloc _
 have G0 : w.grownBy V (some B) := by rw [hV]; exact grown_trans (World.grownBy.refl _ _) (World.grownBy_alloc _ _ none) (fun _ hk => by cases hk)
 have FX : V.heap[X]? = some (.cells #[.int .i64 0, .int .i64 0, .int .i64 0, .string ⟨#[]⟩, .slice none 0 0, .slice none 0 0, .slice none 0 0] 41 (0, 0)) := by rw [hV, hX]; exact heap_alloc_new w _
 have hVs : V.heap.size = X + 1 := by rw [hV, hX]; simp
 have hbV : Below w0.heap.size w0 V := hb0.grown G0 hb0.size (fun j hj => by cases hj; exact hB0)
 have HC := hide (hf s st B w0 V R0 hs hn hv hbV hB0)
 have HF := hide FX
 have HG := hide G0
 have HV := hide hV
 have HX := hide hX
 have hXB : X ≠ B := by omega
 clear hV FX G0 R0 hbV hf hX
 go_enter Tryz.func105, Tryz.ntmps105
 go_wp2_with fail
 rw [← HV.out, ← HX.out]
 refine HC.out.mono ?_
 rintro e w1 ⟨⟨t, q, hx, rfl, hin, R1, hq⟩ | ⟨f, hf, rfl⟩, g⟩
 ·have HQ := hide hx
  have G1 := grown_trans HG.out g (fun _ hk => .inl hk)
  have FX1 := grown_block g HF.out hXB
  obtain ⟨x0, x1, x2, x3, x4, x5, x6⟩ := seven_cells FX1
  obtain ⟨u0, u1, u2, u3, u4, u5, u6⟩ := thaw7 FX1
  have HRF := hide (put7_rd (t := t) R1 (Ne.symm hXB))
  have HGF := hide (put7_grown (t := t) G1 (X := X) (by have := HX.out; omega))
  have HIN := hide (ET.In.low (b' := w.heap.size) (by have := HX.out; omega) t (put7_in (t := t) hin (X := X) (by omega)))
  clear hx hin R1 g G1 FX1 HC
  unfold eval
  unfold put7 at HRF HGF HIN
  go_wp2
  exact bodyPost_ret (v := eval t) (by simp [eval, results, Tryz.results105, go_sem, x0, x1, x2, x3, x4, x5, x6]) rfl ⟨.inl ⟨t, q, HQ.out, rfl, HIN.out, HRF.out, hq⟩, HGF.out⟩
 ·have HE := hide hf
  have G := grown_trans HG.out g (fun _ hk => .inl hk)
  clear hf
  go_wp2_with fail
  exact ⟨rfl, .inr ⟨f, HE.out, rfl⟩, G⟩
end Go.Proofs.YtoldmigappbjcaaGreatDoor
namespace Go.GrainU
open Go.RowKit
def strip (Y : Nat) (w : World) : World := { w with heap := w.heap.setIfInBounds Y (.cells #[] 0 (0, 0)) }
theorem strip_size (Y : Nat) (w : World) : (strip Y w).heap.size = w.heap.size := by simp [strip]
theorem strip_far {Y k : Nat} {w : World} (h : k ≠ Y) : (strip Y w).heap[k]? = w.heap[k]? := by
 simp [strip, Ne.symm h]
theorem strip_near {Y : Nat} {w : World} (h : Y < w.heap.size) : (strip Y w).heap[Y]? = some (.cells #[] 0 (0, 0)) := by
 simp [strip, h]
theorem strip_cell {Y k o : Nat} {w : World} (h : k ≠ Y) : (strip Y w).cell? ⟨k, o, none⟩ = w.cell? ⟨k, o, none⟩ := by
 simp [World.cell?, strip_far h]
theorem strip_none {Y k o : Nat} {w : World} {v : Value} (h : (strip Y w).cell? ⟨k, o, none⟩ = some v) : k ≠ Y := by
 intro e
 subst e
 have hl := World.block_lt_of_cell? _ _ h
 rw [strip_size] at hl
 simp [World.cell?, strip_near hl] at h
theorem seg_of_strip {Y : Nat} {w : World} {ao : Option Addr} {xs : List Value} (h : Seg (strip Y w) ao xs) : Seg w ao xs := by
 rcases h with h | ⟨b, off, rfl, h⟩
 ·exact .inl h
 ·cases xs with
  | nil => exact .inl rfl
  | cons x r =>
   have hb : b ≠ Y := by
    have := h 0 (by simp)
    simp only [Nat.add_zero, List.getElem?_cons_zero] at this
    exact strip_none this
   exact .inr ⟨b, off, rfl, fun j hj => by rw [← strip_cell hb]; exact h j hj⟩
theorem ET.In.of_strip {Y : Nat} {w : World} : ∀ t : ET, t.In (strip Y w) → t.In w := by
 refine ET.ind ?_
 intro h s kids ih hin
 simp only [ET.In] at hin ⊢
 obtain ⟨⟨a, b, c⟩, d, e⟩ := hin
 exact ⟨⟨seg_of_strip a, seg_of_strip b, seg_of_strip c⟩, d, inL_of fun k hk => ih k hk (inL_mem e k hk)⟩
theorem seg_cs {b b' Y : Nat} {w : World} {ao : Option Addr} {xs : List Value} (h : Seg (cut b' w) ao xs) (hY : Y < b') (hb : b ≤ b') : Seg (strip Y (cut b w)) ao xs := by
 rcases h with h | ⟨k, off, rfl, h⟩
 ·exact .inl h
 ·cases xs with
  | nil => exact .inl rfl
  | cons x r =>
   have hk : b' ≤ k := by
    have := h 0 (by simp)
    simp only [Nat.add_zero, List.getElem?_cons_zero] at this
    exact cut_none this
   exact .inr ⟨k, off, rfl, fun j hj => by rw [strip_cell (by omega), cut_cell (by omega), ← cut_cell hk]; exact h j hj⟩
theorem ET.In.cs {b b' Y : Nat} {w : World} (hY : Y < b') (hb : b ≤ b') : ∀ t : ET, t.In (cut b' w) → t.In (strip Y (cut b w)) := by
 refine ET.ind ?_
 intro h s kids ih hin
 simp only [ET.In] at hin ⊢
 obtain ⟨⟨a, c, e⟩, d, f⟩ := hin
 exact ⟨⟨seg_cs a hY hb, seg_cs c hY hb, seg_cs e hY hb⟩, d, inL_of fun k hk => ih k hk (inL_mem f k hk)⟩
theorem ET.In.cs_new {b Y : Nat} {w : World} {o : Obj} {t : ET} (h : t.In (cut b w)) (hY : Y = w.heap.size) : t.In (strip Y (cut b (w.alloc o))) := by
 refine ET.In.below (w := cut b w) (w' := strip Y (cut b (w.alloc o))) ⟨rfl, rfl, rfl, by rw [strip_size, cut_size, cut_size]; simp, fun k hk => ?_⟩ t h
 rw [cut_size] at hk
 rw [strip_far (by omega)]
 rcases Nat.lt_or_ge k b with e | e
 ·rw [cut_near e hk, cut_near e (by simp; omega)]
 ·rw [cut_far e, cut_far e, Below.heap_alloc _ _ _ hk]
theorem cs_below {b Y : Nat} {w w' : World} (ho : w'.os = w.os) (ht : w'.tape = w.tape) (hp : w'.output = w.output) (hsz : w.heap.size ≤ w'.heap.size) (hk : ∀ k, b ≤ k → k ≠ Y → k < w.heap.size → w'.heap[k]? = w.heap[k]?) :
  Below (strip Y (cut b w)).heap.size (strip Y (cut b w)) (strip Y (cut b w')) := by
 refine ⟨ho, ht, hp, by rw [strip_size, strip_size, cut_size, cut_size]; exact hsz, fun k hl => ?_⟩
 rw [strip_size, cut_size] at hl
 by_cases eY : k = Y
 ·subst eY
  rw [strip_near (by rw [cut_size]; omega), strip_near (by rw [cut_size]; omega)]
 ·rw [strip_far eY, strip_far eY]
  rcases Nat.lt_or_ge k b with e | e
  ·rw [cut_near e hl, cut_near e (by omega)]
  ·rw [cut_far e, cut_far e]
   exact hk k e eY hl
theorem ET.In.cs_grown {b B Y : Nat} {w w' : World} {t : ET} (h : t.In (strip Y (cut b w))) (g : w.grownBy w' (some B)) (hB : B < b) : t.In (strip Y (cut b w')) :=
 ET.In.below (cs_below g.os g.tape g.output g.size fun k hb _ hk => g.block k hk (fun e => by have := Option.some.inj e; omega)) t h
theorem ET.In.cs_below {b Y : Nat} {w w' : World} {t : ET} (h : t.In (strip Y (cut b w))) (g : Below w.heap.size w w') : t.In (strip Y (cut b w')) :=
 ET.In.below (Go.GrainU.cs_below g.os g.tape g.output g.size fun k _ _ hk => g.block k hk) t h
theorem set_cs {b Y o : Nat} {w : World} {t : ET} {v : Value} (h : t.In (strip Y (cut b w))) : t.In (strip Y (cut b (w.setCell ⟨Y, o, none⟩ v))) :=
 ET.In.below (Go.GrainU.cs_below (w := w) (w' := w.setCell ⟨Y, o, none⟩ v) rfl rfl rfl (by simp) fun k _ hne _ => setCell_far hne) t h
theorem ET.In.cs_put {b Y : Nat} {w : World} {t u : ET} (h : t.In (strip Y (cut b w))) : t.In (strip Y (cut b (put7 w Y u))) := by
 unfold put7
 exact set_cs (set_cs (set_cs (set_cs (set_cs (set_cs (set_cs h))))))
theorem pair_in {b Y : Nat} {w : World} {t u : ET} {x : List UInt8} {ty : TypeId} (ht : t.In (strip Y (cut b w))) (hu : u.In (strip Y (cut b w))) (hb : b ≤ w.heap.size) (hY : Y < w.heap.size) (hx : x.length ≤ 100) :
  (ET.node ⟨4, 0, 0, lit x, [], []⟩ ⟨none, 0, none, 0, some ⟨w.heap.size, 0, none⟩, 2⟩ [t, u]).In (strip Y (cut b (w.alloc (.cells #[.int .i64 t.hd.kind, .int .i64 t.hd.n, .int .i64 t.hd.range, .string t.hd.word, .slice t.sp.ma t.hd.ms.length t.sp.mc, .slice t.sp.ba t.hd.bs.length t.sp.bc, .slice t.sp.ka t.kids.length t.sp.kc, .int .i64 u.hd.kind, .int .i64 u.hd.n, .int .i64 u.hd.range, .string u.hd.word, .slice u.sp.ma u.hd.ms.length u.sp.mc, .slice u.sp.ba u.hd.bs.length u.sp.bc, .slice u.sp.ka u.kids.length u.sp.kc] ty)))) := by
 have bel : Below w.heap.size w (w.alloc (.cells #[.int .i64 t.hd.kind, .int .i64 t.hd.n, .int .i64 t.hd.range, .string t.hd.word, .slice t.sp.ma t.hd.ms.length t.sp.mc, .slice t.sp.ba t.hd.bs.length t.sp.bc, .slice t.sp.ka t.kids.length t.sp.kc, .int .i64 u.hd.kind, .int .i64 u.hd.n, .int .i64 u.hd.range, .string u.hd.word, .slice u.sp.ma u.hd.ms.length u.sp.mc, .slice u.sp.ba u.hd.bs.length u.sp.bc, .slice u.sp.ka u.kids.length u.sp.kc] ty)) := (Below.refl _ _).alloc (Nat.le_refl _) _
 simp only [ET.In]
 refine ⟨⟨.inl rfl, .inl rfl, ?_⟩, ⟨by simp, by simp, by simp, by rw [lit_size]; omega, fun m hm => by (cases hm), fun m hm => by (cases hm), Nat.le_refl _, fun m hm => by (cases hm)⟩, ?_⟩
 ·have sg := seg_new w #[.int .i64 t.hd.kind, .int .i64 t.hd.n, .int .i64 t.hd.range, .string t.hd.word, .slice t.sp.ma t.hd.ms.length t.sp.mc, .slice t.sp.ba t.hd.bs.length t.sp.bc, .slice t.sp.ka t.kids.length t.sp.kc, .int .i64 u.hd.kind, .int .i64 u.hd.n, .int .i64 u.hd.range, .string u.hd.word, .slice u.sp.ma u.hd.ms.length u.sp.mc, .slice u.sp.ba u.hd.bs.length u.sp.bc, .slice u.sp.ka u.kids.length u.sp.kc] ty
  have sg2 := rseg_cut (b := w.heap.size) sg (fun k off e => by cases e; exact Nat.le_refl _)
  exact seg_cs sg2 hY hb
 ·simp only [InL]
  exact ⟨ht.cs_below bel, hu.cs_below bel, trivial⟩
end Go.GrainU
