import Derived.Lib.SlBuf
import Derived.Test.YtoldmigappbjcaaGreatDoorL02
import Derived.Test.YtoldmigappbjcaaGreatDoorL29
import Derived.Test.YtoldmigappbjcaaGreatDoorL30
namespace Go.GrainU
open Go.RowKit
def CAt (l : List CT) (s : Lb) (i : Int) : Prop := (i = -1 ∧ cellOf (cls l) s = none) ∨ ∃ k : Nat, k < l.length ∧ i = k ∧ cellOf (cls l) s = some (ct l k).v
theorem cellOf_drop {l : List CT} {k : Nat} (h : k < l.length) (s : Lb) : cellOf (cls (l.drop k)) s = if cmpS (ct l k).ser s = 0 then some (ct l k).v else cellOf (cls (l.drop (k + 1))) s := by
 rw [drop_ct h]; rfl
end Go.GrainU
namespace Go.Proofs.YtoldmigappbjcaaGreatDoor
open Go.RowKit Go.GrainU
set_option maxHeartbeats 1000000 in
theorem mat1_any (x : CT) (s : Lb) (B n m c' : Nat) (so : Option Addr) (w : World) (hx : Seg w x.sa (lcells x.ser)) (hs : Seg w so (lcells s)) (hB : w.cell? ⟨B, 0, none⟩ = some (.slice so m c')) (hn : n = x.ser.length) (hm : m = s.length) (hc : n ≤ 9223372036854775807) :
  Calls Tryz.prog 198 #[.agg #[.slice x.sa n x.sc, .int .i64 x.v], .pointer (some ⟨B, 0, none⟩)] w fun e w' => e = .returned (.bool (decide (cmpS x.ser s = 0))) ∧ Below w.heap.size w w' := by
 have hl : B < w.heap.size := World.block_lt_of_cell? w _ hB
 obtain ⟨V, hV⟩ : ∃ V, V = w.alloc (.cells #[.slice x.sa n x.sc, .int .i64 x.v] 79) := ⟨_, rfl⟩
 have bel : Below w.heap.size w V := by rw [hV]; exact (Below.refl _ _).alloc (Nat.le_refl _) _
 have HV := hide hV
 have HN := hide hn
 have HM := hide hm
 obtain ⟨C, hC⟩ : ∃ C, C = cmpS x.ser s := ⟨_, rfl⟩
 rw [← hC]
 have HC := hide hC
 obtain ⟨R, hR⟩ : ∃ R, R = decide (C = 0) := ⟨_, rfl⟩
 rw [← hR]
 have HR := hide hR
 clear hV hn hm hC hR
 go_enter Tryz.func198, Tryz.ntmps198
 go_wp2_with fail
 rw [← HV.out]
 refine (ncmp_any x.ser s x.sa so n m x.sc c' V (hx.below bel) (hs.below bel) HN.out HM.out hc).mono ?_
 rintro e w1 ⟨rfl, b1⟩
 rw [← HC.out]
 have b2 : Below w.heap.size w w1 := bel.trans (b1.mono bel.size)
 by_cases h0 : C = 0
 ·have hd : Hid (R = true) := by show _ = _; rw [HR.out]; simpa using h0
  subst h0
  go_wp2
  go_ret
  exact ⟨ret_bool hd.out.symm, b2⟩
 ·have hd : Hid (R = false) := by show _ = _; rw [HR.out]; simpa using h0
  have hd2 : (C == 0) = false := by simpa using h0
  clear h0
  go_wp2
  go_ret
  exact ⟨ret_bool hd.out.symm, b2⟩
set_option maxHeartbeats 2000000 in
theorem midx_any (l : List CT) (s : Lb) (B n c m c' : Nat) (co so : Option Addr) (w : World) (hl : CsIn w co l) (hs : Seg w so (lcells s)) (hB : w.cell? ⟨B, 0, none⟩ = some (.slice so m c')) (hn : n = l.length) (hm : m = s.length) (hb8 : ∀ x ∈ l, x.ser.length ≤ 9223372036854775807) (hn8 : n ≤ 9223372036854775807) :
  Calls Tryz.prog 197 #[.slice co n c, .func (.func 198) #[] #[.pointer (some ⟨B, 0, none⟩)]] w fun e w' => (∃ i, e = .returned (.int .i64 i) ∧ CAt l s i) ∧ Below w.heap.size w w' := by
 have hBl : B < w.heap.size := World.block_lt_of_cell? w _ hB
 have HN := hide hn
 have HM := hide hm
 have H8 := hide hb8
 clear hn hm hb8
 go_enter Tryz.func197, Tryz.ntmps197
 go_wp2
 go_loopw [8] (fun i wr => ∃ k : Nat, k ≤ n ∧ i = .int .i64 k ∧ Hid (cellOf (cls l) s = cellOf (cls (l.drop k)) s) ∧ Below w.heap.size w wr) (fun i _ => n - (intOf i).toNat)
 case atStart => exact ⟨0, Nat.zero_le _, rfl, rfl, Below.refl _ _⟩
 case round =>
  obtain ⟨k, hk, rfl, HW, bel⟩ := hrel
  have hsz := bel.size
  by_cases hlt : k < n
  ·have hka : k < l.length := by rw [← HN.out]; exact hlt
   obtain ⟨p, off, rfl, hbl, hcell⟩ := seg_cell hl.seg hka
   obtain ⟨x, hx⟩ : ∃ x, x = ct l k := ⟨_, rfl⟩
   obtain ⟨xn, hxn⟩ : ∃ xn, xn = x.ser.length := ⟨_, rfl⟩
   have sx : Seg w x.sa (lcells x.ser) := by rw [hx]; exact hl.ser _ (ct_mem hka)
   have c0 : wr.cell? ⟨p, off + k * 2, none⟩ = some (.slice x.sa xn x.sc) := by rw [hxn, hx]; exact (bel.cell (by exact hbl)).trans (hcell k hka).1
   have c1 : wr.cell? ⟨p, off + k * 2 + 1, none⟩ = some (.int .i64 x.v) := by rw [hx]; exact (bel.cell (by exact hbl)).trans (hcell k hka).2
   have cB : wr.cell? ⟨B, 0, none⟩ = some (.slice so m c') := (bel.cell (by exact hBl)).trans hB
   have HS : Hid (cellOf (cls l) s = if cmpS x.ser s = 0 then some x.v else cellOf (cls (l.drop (k + 1))) s) := by
    show _ = _
    rw [HW.out, cellOf_drop hka, hx]
   have x8 : xn ≤ 9223372036854775807 := by rw [hxn, hx]; exact H8.out _ (ct_mem hka)
   have HK := hide hka
   have HX := hide hx
   have HXN := hide hxn
   clear hx hxn hcell hka HW
   go_wp2_with fail
   refine (mat1_any x s B xn m c' so wr (sx.below bel) (hs.below bel) cB HXN.out HM.out x8).mono ?_
   rintro e w1 ⟨rfl, hb1⟩
   have bel1 : Below w.heap.size w w1 := bel.trans (hb1.mono hsz)
   clear hb1 bel c0 c1 cB
   by_cases e1 : cmpS x.ser s = 0
   ·have hw : Hid (cellOf (cls l) s = some (ct l k).v) := by show _ = _; rw [HS.out, if_pos e1, HX.out]
    have hd : decide (cmpS x.ser s = 0) = true := by simpa using e1
    rw [hd]
    clear HS hd e1
    go_wp2
    go_ret
    exact ⟨⟨_, rfl, .inr ⟨k, HK.out, rfl, hw.out⟩⟩, bel1⟩
   ·have hw : Hid (cellOf (cls l) s = cellOf (cls (l.drop (k + 1))) s) := by show _ = _; rw [HS.out, if_neg e1]
    have hd : decide (cmpS x.ser s = 0) = false := by simpa using e1
    rw [hd]
    clear HS hd e1
    go_wp2
    go_roundw
    case rel => exact ⟨k + 1, by omega, by go_num, hw, bel1⟩
    case measure => simp [intOf]; omega
  ·have he : k = n := by omega
   subst he
   have hw : Hid (cellOf (cls l) s = none) := by
    show _ = _
    rw [HW.out, List.drop_eq_nil_of_le (by rw [← HN.out]; omega)]; rfl
   clear HW
   go_wp2
   go_ret
   exact ⟨⟨_, rfl, .inl ⟨rfl, hw.out⟩⟩, bel⟩
def oi (o : Option Int) : Int := match o with | some v => v | none => 0
def ob (o : Option Int) : Bool := match o with | some _ => true | none => false
set_option maxRecDepth 100000 in
set_option maxHeartbeats 2000000 in
theorem mat_any (nb : Bool) (l : List CT) (s : Lb) (n c m c' : Nat) (co so : Option Addr) (w : World) (hl : CsIn w co l) (hs : Seg w so (lcells s)) (hn : n = l.length) (hm : m = s.length) (hb8 : ∀ x ∈ l, x.ser.length ≤ 9223372036854775807) (hn8 : n ≤ 9223372036854775807) (hnb : nb = true → 0 < n) :
  Calls Tryz.prog 157 #[.agg #[.bool nb, .slice co n c], .slice so m c'] w fun e w' => e = .returned (.tuple #[.int .i64 (oi (atM ⟨nb, cls l⟩ s)), .bool (ob (atM ⟨nb, cls l⟩ s))]) ∧ Below w.heap.size w w' := by
 obtain ⟨V, hV⟩ : ∃ V, V = (w.alloc (.cells #[.bool nb, .slice co n c] 131)).alloc (.cells #[.slice so m c'] 32) := ⟨_, rfl⟩
 have bel : Below w.heap.size w V := by rw [hV]; exact ((Below.refl _ _).alloc (Nat.le_refl _) _).alloc (by simp) _
 have F0 : V.heap[w.heap.size]? = some (.cells #[.bool nb, .slice co n c] 131 (0, 0)) := by rw [hV, Below.heap_alloc _ _ _ (by simp)]; exact heap_alloc_new w _
 have cB : V.cell? ⟨w.heap.size + 1, 0, none⟩ = some (.slice so m c') := by rw [hV]; simp
 have hsz := bel.size
 have HV := hide hV
 have HN := hide hn
 have HM := hide hm
 clear hV hn hm
 have hlV := hl.below bel
 cases nb with
 | true =>
  have h0 := hnb rfl
  have hka : 0 < l.length := by rw [← HN.out]; exact h0
  obtain ⟨p, off, rfl, hbl, hcell⟩ := seg_cell hl.seg hka
  obtain ⟨x, hx⟩ : ∃ x, x = (ct l 0).v := ⟨_, rfl⟩
  have c1 : w.cell? ⟨p, off + 1, none⟩ = some (.int .i64 x) := by
   rw [hx]
   have := (hcell 0 hka).2
   rw [Nat.zero_mul, Nat.add_zero] at this
   exact this
  have HR : Hid (atM ⟨true, cls l⟩ s = some x) := by
   show _ = _
   rw [hx]
   simp [atM, cl0, ct, cls, List.getD]
   cases l with
   | nil => simp at hka
   | cons a r => rfl
  obtain ⟨R1, hR1⟩ : ∃ R, R = oi (atM ⟨true, cls l⟩ s) := ⟨_, rfl⟩
  obtain ⟨R2, hR2⟩ : ∃ R, R = ob (atM ⟨true, cls l⟩ s) := ⟨_, rfl⟩
  rw [← hR1, ← hR2]
  have HR1 : Hid (R1 = x) := by show _ = _; rw [hR1, HR.out]; rfl
  have HR2 : Hid (R2 = true) := by show _ = _; rw [hR2, HR.out]; rfl
  clear hx hcell hka hR1 hR2 HR
  have HB := hide bel
  clear F0 cB hlV bel hsz
  go_enter Tryz.func157, Tryz.ntmps157
  go_wp2
  go_ret2
  exact ⟨by rw [HR1.out, HR2.out]; rfl, by rw [← HV.out]; exact HB.out⟩
 | false =>
  obtain ⟨R, hR⟩ : ∃ R, R = atM ⟨false, cls l⟩ s := ⟨_, rfl⟩
  rw [← hR]
  have HR : Hid (R = cellOf (cls l) s) := by show _ = _; rw [hR]; simp [atM]
  clear hR
  obtain ⟨f0, f1, _, _⟩ := two_cells F0
  go_enter Tryz.func157, Tryz.ntmps157
  go_wp2_with fail
  rw [← HV.out]
  refine (midx_any l s (w.heap.size + 1) n c m c' co so V hlV (hs.below bel) cB HN.out HM.out hb8 hn8).mono ?_
  rintro e w1 ⟨⟨i, rfl, hi⟩, hb1⟩
  have bel1 : Below w.heap.size w w1 := bel.trans (hb1.mono hsz)
  obtain ⟨f0, f1, _, _⟩ := two_cells (below_block hb1 F0)
  clear hb1
  rcases hi with ⟨rfl, hf⟩ | ⟨k, hk, rfl, hf⟩
  ·have HF : Hid (R = none) := by show _ = _; rw [HR.out]; exact hf
   clear hf HR
   go_wp2
   go_ret2
   exact ⟨by rw [HF.out]; rfl, bel1⟩
  ·obtain ⟨p, off, rfl, hbl, hcell⟩ := seg_cell hl.seg hk
   obtain ⟨y, hy⟩ : ∃ y, y = (ct l k).v := ⟨_, rfl⟩
   have HF : Hid (R = some y) := by show _ = _; rw [HR.out, hy]; exact hf
   have c1 : w1.cell? ⟨p, off + k * 2 + 1, none⟩ = some (.int .i64 y) := by rw [hy]; exact (bel1.cell (by exact hbl)).trans (hcell k hk).2
   have hkn : k < n := by rw [HN.out]; exact hk
   clear hy hcell hk hf HR
   go_wp2
   go_ret2
   exact ⟨by rw [HF.out]; rfl, bel1⟩
open Go.RowKit Go.GrainU
theorem nonly1_any (ks : List ByteArray) (x y : ByteArray) (B : Nat) (bo : Option Addr) (m c : Nat) (w : World) (hb : Seg w bo (wcells ks)) (hB : w.cell? ⟨B, 0, none⟩ = some (.slice bo m c)) (hm : m = ks.length) (hM : m ≤ 9223372036854775807) :
  Calls Tryz.prog 193 #[.agg #[.string x, .string y], .pointer (some ⟨B, 0, none⟩)] w fun e w' => e = .returned (.bool (has ks x)) ∧ w' = w.alloc (.cells #[.string x, .string y] 88) := by
 have hl : B < w.heap.size := World.block_lt_of_cell? w _ hB
 have bel : Below w.heap.size w (w.alloc (.cells #[.string x, .string y] 88)) := (Below.refl _ _).alloc (Nat.le_refl _) _
 have hbV := hb.below bel
 have HM := hide hm
 clear hm
 obtain ⟨D, hD⟩ : ∃ D, D = has ks x := ⟨_, rfl⟩
 rw [← hD]
 have HD := hide hD
 clear hD
 go_enter Tryz.func193, Tryz.ntmps193
 go_wp2_with fail
 refine (ncont_any ks x bo m c _ hbV HM.out hM).mono ?_
 rintro e w1 ⟨rfl, hw⟩
 rw [hw]
 rw [← HD.out]
 go_wp2
 go_ret
 exact ⟨rfl, rfl⟩
set_option maxHeartbeats 2000000 in
theorem nkept_any (l : List (ByteArray × ByteArray)) (ks : List ByteArray) (B : Nat) (ao bo : Option Addr) (n cap m c : Nat) (w : World) (hs : Seg w ao (lcells l)) (hn : n = l.length) (hL : n * 32 ≤ 140737488351232) (hb : Seg w bo (wcells ks)) (hB : w.cell? ⟨B, 0, none⟩ = some (.slice bo m c)) (hm : m = ks.length) (hM : m ≤ 9223372036854775807) :
  Calls Tryz.prog 192 #[.slice ao n cap, .func (.func 193) #[] #[.pointer (some ⟨B, 0, none⟩)]] w fun e w' => ∃ co N d, e = .returned (.slice co N d) ∧ w'.ownsRow w.heap.size 88 2 (.slice co N d) N (lcells (only l ks)) ∧ Below w.heap.size w w' := by
 obtain ⟨i0, hi, hz0, hz1, hz2⟩ := info_parts Tryz.infoLabel
 have hl : B < w.heap.size := World.block_lt_of_cell? w _ hB
 have HN := hide hn
 have HM := hide hm
 clear hn hm
 go_enter Tryz.func192, Tryz.ntmps192
 go_wp2
 go_loopw [5, 10] (fun out i wr => ∃ (k N d : Nat) (co : Option Addr), k ≤ n ∧ i = .int .i64 k ∧ out = .slice co N d ∧ N ≤ k ∧ wr.ownsRow w.heap.size 88 2 (.slice co N d) N (lcells (only (l.take k) ks)) ∧ Below w.heap.size w wr) (fun _ i _ => n - (intOf i).toNat)
 case atStart => exact ⟨0, 0, 0, none, Nat.zero_le _, rfl, rfl, Nat.le_refl _, World.ownsRow_nil _ _ _ _, Below.refl _ _⟩
 case round =>
  obtain ⟨k, N, d, co, hk, rfl, rfl, hNk, own, bel⟩ := hrel
  have hsz := bel.size
  by_cases hlt : k < n
  ·have hkl : k < l.length := by rw [← HN.out]; exact hlt
   obtain ⟨b, off, rfl, hbl, hcell⟩ := seg_label hs hkl
   obtain ⟨x, hx⟩ : ∃ x, x = lk l k := ⟨_, rfl⟩
   obtain ⟨y, hy⟩ : ∃ y, y = lv l k := ⟨_, rfl⟩
   have c0 : wr.cell? ⟨b, off + k * 2, none⟩ = some (.string x) := by rw [hx]; exact (bel.cell (by exact hbl)).trans (hcell k hkl).1
   have c1 : wr.cell? ⟨b, off + k * 2 + 1, none⟩ = some (.string y) := by rw [hy]; exact (bel.cell (by exact hbl)).trans (hcell k hkl).2
   have HU : Hid (only (l.take (k + 1)) ks = if has ks x = true then only (l.take k) ks ++ [(x, y)] else only (l.take k) ks) := by rw [hx, hy]; exact only_take hkl
   clear hx hy hcell hkl
   obtain ⟨V, hV⟩ : ∃ V, V = wr.alloc (.cells #[.string x, .string y] 88) := ⟨_, rfl⟩
   obtain ⟨X, hX⟩ : ∃ X, X = wr.heap.size := ⟨_, rfl⟩
   have F1 : V.heap[X]? = some (.cells #[.string x, .string y] 88 (0, 0)) := by rw [hV, hX]; exact heap_alloc_new wr _
   have own1 : V.ownsRow w.heap.size 88 2 (.slice co N d) N (lcells (only (l.take k) ks)) := by rw [hV]; exact own.alloc _
   have bel1 : Below w.heap.size w V := by rw [hV]; exact bel.alloc hsz _
   have hs1 := bel1.size
   have cB : V.cell? ⟨B, 0, none⟩ = some (.slice bo m c) := (bel1.cell (by exact hl)).trans hB
   have hbV := hb.below bel1
   have HV := hide hV
   have HX := hide hX
   clear hV own
   go_wp2_with fail
   rw [← HV.out, ← HX.out]
   refine (nonly1_any ks x y B bo m c V hbV cB HM.out hM).mono ?_
   rintro e w1 ⟨rfl, hw1⟩
   have F2 : w1.heap[X]? = some (.cells #[.string x, .string y] 88 (0, 0)) := by
    rw [hw1, Below.heap_alloc _ _ _ (lt_of_block F1)]; exact F1
   have own2 : w1.ownsRow w.heap.size 88 2 (.slice co N d) N (lcells (only (l.take k) ks)) := by rw [hw1]; exact own1.alloc _
   have bel2 : Below w.heap.size w w1 := by rw [hw1]; exact bel1.alloc hs1 _
   have hs2 := bel2.size
   obtain ⟨p0, p1, _, _⟩ := two_cells F2
   clear hw1 own1 bel1 bel HV HX F1 hX cB hbV c0 c1 hsz hs1
   cases hh : has ks x with
   | true =>
    have HE : Hid (only (l.take (k + 1)) ks = only (l.take k) ks ++ [(x, y)]) := by
     show _ = _
     rw [HU.out, if_pos hh]
    clear HU hh
    go_wp2_with (at_builtin; refine wpList_append_lies _ rfl _ _ 32 rfl w.heap.size 88 i0 (.agg #[.string ⟨#[]⟩, .string ⟨#[]⟩]) 2 32 Tryz.underlying32 hi hz0 hz1 hz2 rfl (by decide) _ _ _ rfl (own2.alloc _) ⟨w1.heap.size, 0, none⟩ 1 1 [.string x, .string y] rfl rfl (news_two rfl _ _ _) (by simp [Value.oneCell']) (by decide) (by unfold maxLen; omega) (by omega) (by simp; omega) (w1.heap.size + 1) (by simp) ?_)
    intro g' cp' w5 own5 gr5 hat5 hlt5
    have own6 : w5.ownsRow w.heap.size 88 2 (.slice (some ⟨g', 0, none⟩) (N + 1) cp') (N + 1) (lcells (only (l.take (k + 1)) ks)) := by
     rw [HE.out, lcells_append]; exact own5
    have bel5 : Below w.heap.size w w5 := (bel2.alloc hs2 _).grown gr5 (by simp; omega) (fun j hj => (own2.lt j hj).1)
    clear own5 gr5 hat5 hlt5 own2 HE
    go_wp2
    go_roundw
    case rel => exact ⟨k + 1, N + 1, cp', _, by omega, by go_num, rfl, by omega, own6, bel5⟩
    case measure => simp [intOf]; omega
   | false =>
    have HE : Hid (only (l.take (k + 1)) ks = only (l.take k) ks) := by
     show _ = _
     rw [HU.out, hh, if_neg (by decide)]
    rw [← HE.out] at own2
    clear HU HE hh
    go_wp2
    go_roundw
    case rel => exact ⟨k + 1, N, d, co, by omega, by go_num, rfl, by omega, own2, bel2⟩
    case measure => simp [intOf]; omega
  ·have he : k = n := by omega
   subst he
   have HT := hide (List.take_of_length_le (i := k) (l := l) (by rw [← HN.out]; omega))
   rw [HT.out] at own
   clear HT HN
   go_wp2
   go_ret
   exact ⟨co, N, d, rfl, own, bel⟩
end Go.Proofs.YtoldmigappbjcaaGreatDoor
namespace Go.GrainU
open Go.RowKit
end Go.GrainU
namespace Go.Proofs.YtoldmigappbjcaaGreatDoor
open Go.RowKit Go.GrainU
set_option maxHeartbeats 1000000 in
theorem cmpint_any (a b : Int) (w : World) : Calls Tryz.prog 73 #[.int .i64 a, .int .i64 b] w fun e w' => e = .returned (.int .i64 (cmpI a b)) ∧ w' = w := by
 obtain ⟨R, hR⟩ : ∃ R, R = cmpI a b := ⟨_, rfl⟩
 rw [← hR]
 have HR : Hid (R = if a < b then -1 else if b < a then 1 else 0) := hR
 clear hR
 go_enter Tryz.func73, Tryz.ntmps73
 go_wp2_with fail
 refine (isnan_any _ _).mono ?_
 intro e w1 hh
 rw [hh.1, hh.2]
 clear hh
 go_wp2_with fail
 refine (isnan_any _ _).mono ?_
 intro e w1 hh
 rw [hh.1, hh.2]
 clear hh
 go_wp2
 all_goals
  go_ret
  exact ⟨ret_int (by rw [HR.out]; (repeat' split) <;> omega), rfl⟩
set_option maxHeartbeats 4000000 in
set_option maxRecDepth 100000 in
theorem mbs_any (l : List (Int × Int)) (T : Int) (ao : Option Addr) (n c p : Nat) (w : World) (hs : Seg w ao (scells l)) (hn : n = l.length) (hn4 : n ≤ 1000000) (hp : p ≤ n) (hbd : ∀ k, k < n → (Grain.tm l k < T ↔ k < p)) :
  Calls Tryz.prog 71 #[.slice ao n c, .int .i64 T, .func (.func 72) #[] #[]] w fun e w' => (∃ b, e = .returned (.tuple #[.int .i64 p, .bool b])) ∧ Below w.heap.size w w' := by
 have HN := hide hn
 have HB := hide hbd
 clear hn hbd
 go_enter Tryz.func71, Tryz.ntmps71
 go_wp2
 go_loopw [9, 10] (fun s9 s10 wr => ∃ lo hi : Nat, s9 = .int .i64 lo ∧ s10 = .int .i64 hi ∧ lo ≤ p ∧ p ≤ hi ∧ hi ≤ n ∧ Below w.heap.size w wr) (fun s9 s10 _ => (intOf s10).toNat - (intOf s9).toNat)
 case atStart => exact ⟨0, n, rfl, rfl, Nat.zero_le _, hp, Nat.le_refl _, Below.refl _ _⟩
 case round =>
  obtain ⟨lo, hi, rfl, rfl, hlo, hhi, hin, bel⟩ := hrel
  have hsz := bel.size
  by_cases hlt : lo < hi
  ·have hkl : (lo + hi) / 2 < l.length := by rw [← HN.out]; omega
   obtain ⟨b, off, rfl, hcell⟩ := hs.sample hkl
   have hb : b < w.heap.size := World.block_lt_of_cell? w _ (hcell _ hkl).1
   obtain ⟨t, ht⟩ : ∃ t, t = Grain.tm l ((lo + hi) / 2) := ⟨_, rfl⟩
   obtain ⟨v, hv⟩ : ∃ v, v = Grain.vl l ((lo + hi) / 2) := ⟨_, rfl⟩
   have c0 : wr.cell? ⟨b, off + (lo + hi) / 2 * 2, none⟩ = some (.int .i64 t) := by rw [ht]; exact (bel.cell (by exact hb)).trans (hcell _ hkl).1
   have c1 : wr.cell? ⟨b, off + (lo + hi) / 2 * 2 + 1, none⟩ = some (.int .i64 v) := by rw [hv]; exact (bel.cell (by exact hb)).trans (hcell _ hkl).2
   have HT := hide ht
   clear hcell ht hv hkl
   go_wp2_with fail
   refine (mahead1_any t v T wr).mono ?_
   rintro e w1 ⟨rfl, b1⟩
   have bel1 : Below w.heap.size w w1 := bel.trans (b1.mono hsz)
   have hkey := HB.out ((lo + hi) / 2) (by omega)
   rw [← HT.out] at hkey
   clear c0 c1 b1 bel HT
   by_cases hc : t < T
   ·have hC : cmpI t T = -1 := by simp [cmpI, hc]
    have hp2 := hkey.1 hc
    rw [hC]
    clear hC hkey hc
    go_wp2
    go_roundw
    case rel => exact ⟨(lo + hi) / 2 + 1, hi, by rw [show ((lo : Int) + (hi : Int)) / 2 + 1 = (((lo + hi) / 2 + 1 : Nat) : Int) by omega], rfl, by omega, hhi, hin, bel1⟩
    case measure => simp [intOf]; omega
   ·have hC : ∃ C, C = cmpI t T ∧ ¬ C < 0 := ⟨_, rfl, by unfold cmpI; rw [if_neg hc]; split <;> omega⟩
    obtain ⟨C, hC1, hC2⟩ := hC
    have hp2 : ¬ (lo + hi) / 2 < p := fun h => hc (hkey.2 h)
    rw [← hC1]
    clear hC1 hkey hc
    go_wp2
    go_roundw
    case rel => exact ⟨lo, (lo + hi) / 2, rfl, by rw [show ((lo : Int) + (hi : Int)) / 2 = (((lo + hi) / 2 : Nat) : Int) by omega], hlo, by omega, by omega, bel1⟩
    case measure => simp [intOf]; omega
  ·have e1 : lo = p := by omega
   have e2 : hi = p := by omega
   subst e1
   subst e2
   by_cases hpn : hi < n
   ·have hkl : hi < l.length := by rw [← HN.out]; omega
    obtain ⟨b, off, rfl, hcell⟩ := hs.sample hkl
    have hb : b < w.heap.size := World.block_lt_of_cell? w _ (hcell _ hkl).1
    obtain ⟨t, ht⟩ : ∃ t, t = Grain.tm l hi := ⟨_, rfl⟩
    obtain ⟨v, hv⟩ : ∃ v, v = Grain.vl l hi := ⟨_, rfl⟩
    have c0 : wr.cell? ⟨b, off + hi * 2, none⟩ = some (.int .i64 t) := by rw [ht]; exact (bel.cell (by exact hb)).trans (hcell _ hkl).1
    have c1 : wr.cell? ⟨b, off + hi * 2 + 1, none⟩ = some (.int .i64 v) := by rw [hv]; exact (bel.cell (by exact hb)).trans (hcell _ hkl).2
    clear hcell ht hv hkl
    go_wp2_with fail
    refine (mahead1_any t v T wr).mono ?_
    rintro e w1 ⟨rfl, b1⟩
    have bel1 : Below w.heap.size w w1 := bel.trans (b1.mono hsz)
    generalize cmpI t T = C
    clear c0 c1 b1 bel
    go_wp2
    all_goals
     go_ret2
     exact ⟨⟨_, rfl⟩, bel1⟩
   ·go_wp2
    go_ret2
    exact ⟨⟨_, rfl⟩, bel⟩
set_option maxHeartbeats 1000000 in
theorem mallof1_any (x : CT) (s : Lb) (n m c' : Nat) (so : Option Addr) (w : World) (hx : Seg w x.sa (lcells x.ser)) (hs : Seg w so (lcells s)) (hn : n = x.ser.length) (hm : m = s.length) (hc : n ≤ 9223372036854775807) :
  Calls Tryz.prog 153 #[.agg #[.slice x.sa n x.sc, .int .i64 x.v], .slice so m c'] w fun e w' => e = .returned (.int .i64 (cmpS x.ser s)) ∧ Below w.heap.size w w' := by
 obtain ⟨V, hV⟩ : ∃ V, V = w.alloc (.cells #[.slice x.sa n x.sc, .int .i64 x.v] 79) := ⟨_, rfl⟩
 have bel : Below w.heap.size w V := by rw [hV]; exact (Below.refl _ _).alloc (Nat.le_refl _) _
 have HV := hide hV
 have HN := hide hn
 have HM := hide hm
 obtain ⟨C, hC⟩ : ∃ C, C = cmpS x.ser s := ⟨_, rfl⟩
 rw [← hC]
 have HC := hide hC
 clear hV hn hm hC
 go_enter Tryz.func153, Tryz.ntmps153
 go_wp2_with fail
 rw [← HV.out]
 refine (ncmp_any x.ser s x.sa so n m x.sc c' V (hx.below bel) (hs.below bel) HN.out HM.out hc).mono ?_
 rintro e w1 ⟨rfl, b1⟩
 rw [← HC.out]
 go_wp2
 go_ret
 exact ⟨rfl, bel.trans (b1.mono bel.size)⟩
set_option maxHeartbeats 4000000 in
set_option maxRecDepth 100000 in
theorem mbsc_any (l : List CT) (s : Lb) (co so : Option Addr) (n c m c' p : Nat) (F : Bool) (w : World) (hl : CsIn w co l) (hs : Seg w so (lcells s)) (hn : n = l.length) (hm : m = s.length) (hn4 : n ≤ 1000000) (hb8 : ∀ x ∈ l, x.ser.length ≤ 9223372036854775807) (hp : p ≤ n) (hbd : ∀ k, k < n → (cmpS (ct l k).ser s < 0 ↔ k < p)) (hF : F = (decide (p < n) && decide (cmpS (ct l p).ser s = 0))) :
  Calls Tryz.prog 152 #[.slice co n c, .slice so m c', .func (.func 153) #[] #[]] w fun e w' => e = .returned (.tuple #[.int .i64 p, .bool F]) ∧ Below w.heap.size w w' := by
 have HN := hide hn
 have HM := hide hm
 have HB := hide hbd
 have HF := hide hF
 have H8 := hide hb8
 clear hn hm hbd hF hb8
 go_enter Tryz.func152, Tryz.ntmps152
 go_wp2
 go_loopw [9, 10] (fun s9 s10 wr => ∃ lo hi : Nat, s9 = .int .i64 lo ∧ s10 = .int .i64 hi ∧ lo ≤ p ∧ p ≤ hi ∧ hi ≤ n ∧ Below w.heap.size w wr) (fun s9 s10 _ => (intOf s10).toNat - (intOf s9).toNat)
 case atStart => exact ⟨0, n, rfl, rfl, Nat.zero_le _, hp, Nat.le_refl _, Below.refl _ _⟩
 case round =>
  obtain ⟨lo, hi, rfl, rfl, hlo, hhi, hin, bel⟩ := hrel
  have hsz := bel.size
  by_cases hlt : lo < hi
  ·have hkl : (lo + hi) / 2 < l.length := by rw [← HN.out]; omega
   obtain ⟨b, off, rfl, hb, hcell⟩ := seg_cell hl.seg hkl
   obtain ⟨x, hx⟩ : ∃ x, x = ct l ((lo + hi) / 2) := ⟨_, rfl⟩
   obtain ⟨xn, hxn⟩ : ∃ xn, xn = x.ser.length := ⟨_, rfl⟩
   have c0 : wr.cell? ⟨b, off + (lo + hi) / 2 * 2, none⟩ = some (.slice x.sa xn x.sc) := by rw [hxn, hx]; exact (bel.cell (by exact hb)).trans (hcell _ hkl).1
   have c1 : wr.cell? ⟨b, off + (lo + hi) / 2 * 2 + 1, none⟩ = some (.int .i64 x.v) := by rw [hx]; exact (bel.cell (by exact hb)).trans (hcell _ hkl).2
   have sx : Seg w x.sa (lcells x.ser) := by rw [hx]; exact hl.ser _ (ct_mem hkl)
   have x8 : xn ≤ 9223372036854775807 := by rw [hxn, hx]; exact H8.out _ (ct_mem hkl)
   have HX := hide hx
   have HXN := hide hxn
   clear hcell hx hxn hkl
   go_wp2_with fail
   refine (mallof1_any x s xn m c' so wr (sx.below bel) (hs.below bel) HXN.out HM.out x8).mono ?_
   rintro e w1 ⟨rfl, b1⟩
   have bel1 : Below w.heap.size w w1 := bel.trans (b1.mono hsz)
   have hkey := HB.out ((lo + hi) / 2) (by omega)
   rw [← HX.out] at hkey
   generalize cmpS x.ser s = C at hkey ⊢
   clear c0 c1 b1 bel HX
   by_cases hc : C < 0
   ·have hp2 := hkey.1 hc
    clear hkey
    go_wp2
    go_roundw
    case rel => exact ⟨(lo + hi) / 2 + 1, hi, by rw [show ((lo : Int) + (hi : Int)) / 2 + 1 = (((lo + hi) / 2 + 1 : Nat) : Int) by omega], rfl, by omega, hhi, hin, bel1⟩
    case measure => simp [intOf]; omega
   ·have hp2 : ¬ (lo + hi) / 2 < p := fun h => hc (hkey.2 h)
    clear hkey
    go_wp2
    go_roundw
    case rel => exact ⟨lo, (lo + hi) / 2, rfl, by rw [show ((lo : Int) + (hi : Int)) / 2 = (((lo + hi) / 2 : Nat) : Int) by omega], hlo, by omega, by omega, bel1⟩
    case measure => simp [intOf]; omega
  ·have e1 : lo = p := by omega
   have e2 : hi = p := by omega
   subst e1
   subst e2
   by_cases hpn : hi < n
   ·have hkl : hi < l.length := by rw [← HN.out]; omega
    obtain ⟨b, off, rfl, hb, hcell⟩ := seg_cell hl.seg hkl
    obtain ⟨x, hx⟩ : ∃ x, x = ct l hi := ⟨_, rfl⟩
    obtain ⟨xn, hxn⟩ : ∃ xn, xn = x.ser.length := ⟨_, rfl⟩
    have c0 : wr.cell? ⟨b, off + hi * 2, none⟩ = some (.slice x.sa xn x.sc) := by rw [hxn, hx]; exact (bel.cell (by exact hb)).trans (hcell _ hkl).1
    have c1 : wr.cell? ⟨b, off + hi * 2 + 1, none⟩ = some (.int .i64 x.v) := by rw [hx]; exact (bel.cell (by exact hb)).trans (hcell _ hkl).2
    have sx : Seg w x.sa (lcells x.ser) := by rw [hx]; exact hl.ser _ (ct_mem hkl)
    have x8 : xn ≤ 9223372036854775807 := by rw [hxn, hx]; exact H8.out _ (ct_mem hkl)
    have HX := hide hx
    have HXN := hide hxn
    clear hcell hx hxn hkl
    go_wp2_with fail
    refine (mallof1_any x s xn m c' so wr (sx.below bel) (hs.below bel) HXN.out HM.out x8).mono ?_
    rintro e w1 ⟨rfl, b1⟩
    have bel1 : Below w.heap.size w w1 := bel.trans (b1.mono hsz)
    have HF2 : Hid (F = decide (cmpS x.ser s = 0)) := by show _ = _; rw [HF.out, HX.out]; simp [hpn]
    generalize cmpS x.ser s = C at HF2 ⊢
    clear c0 c1 b1 bel HX HF
    by_cases hc : C = 0
    ·have HF3 : Hid (F = true) := by show _ = _; rw [HF2.out]; simpa using hc
     subst hc
     go_wp2
     go_ret2
     exact ⟨by rw [HF3.out]; rfl, bel1⟩
    ·have HF3 : Hid (F = false) := by show _ = _; rw [HF2.out]; simpa using hc
     have hd : (C == 0) = false := by simpa using hc
     clear hc
     go_wp2
     go_ret2
     exact ⟨by rw [HF3.out]; rfl, bel1⟩
   ·have HF3 : Hid (F = false) := by show _ = _; rw [HF.out]; simp [hpn]
    clear HF
    go_wp2
    go_ret2
    exact ⟨by rw [HF3.out]; rfl, bel⟩
set_option maxHeartbeats 1000000 in
theorem nonly_own (l : List (ByteArray × ByteArray)) (ks : List ByteArray) (ao bo : Option Addr) (n cap m c : Nat) (w : World) (hs : Seg w ao (lcells l)) (hn : n = l.length) (hL : n * 32 ≤ 140737488351232) (hb : Seg w bo (wcells ks)) (hm : m = ks.length) (hM : m ≤ 9223372036854775807) :
  Calls Tryz.prog 151 #[.slice ao n cap, .slice bo m c] w fun e w' => ∃ co N d, e = .returned (.slice co N d) ∧ w'.ownsRow w.heap.size 88 2 (.slice co N d) N (lcells (only l ks)) ∧ N = (only l ks).length ∧ Below w.heap.size w w' := by
 obtain ⟨V, hV⟩ : ∃ V, V = w.alloc (.cells #[.slice bo m c] 38) := ⟨_, rfl⟩
 have bel : Below w.heap.size w V := by rw [hV]; exact (Below.refl _ _).alloc (Nat.le_refl _) _
 have cB : V.cell? ⟨w.heap.size, 0, none⟩ = some (.slice bo m c) := by rw [hV]; simp
 have hsz := bel.size
 have HV := hide hV
 have HN := hide hn
 have HM := hide hm
 clear hV hn hm
 have haV := hs.below bel
 have hbV := hb.below bel
 go_enter Tryz.func151, Tryz.ntmps151
 go_wp2_with fail
 rw [← HV.out]
 refine (nkept_any l ks w.heap.size ao bo n cap m c V haV HN.out hL hbV cB HM.out hM).mono ?_
 rintro e w1 ⟨co, N, d, rfl, own, hb1⟩
 have bel1 : Below w.heap.size w w1 := bel.trans (hb1.mono hsz)
 have own1 := own.mono hsz
 have HL := hide (own_llen own)
 clear hb1 own
 go_wp2
 go_ret
 exact ⟨co, N, d, rfl, own1, HL.out, bel1⟩
end Go.Proofs.YtoldmigappbjcaaGreatDoor
