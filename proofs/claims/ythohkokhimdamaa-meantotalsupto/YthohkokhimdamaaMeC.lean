/-
  The walks of meaning's at.
-/
import Derived.Test.YthohkokhimdamaaMeB
namespace Go.GrainU
open Go.RowKit

/-- where the first cell of a series lies, or -1 -/
def CAt (l : List CT) (s : Lb) (i : Int) : Prop := (i = -1 ∧ cellOf (cls l) s = none) ∨ ∃ k : Nat, k < l.length ∧ i = k ∧ cellOf (cls l) s = some (ct l k).v

theorem cellOf_drop {l : List CT} {k : Nat} (h : k < l.length) (s : Lb) : cellOf (cls (l.drop k)) s = if cmpS (ct l k).ser s = 0 then some (ct l k).v else cellOf (cls (l.drop (k + 1))) s := by
  rw [drop_ct h]; rfl

end Go.GrainU
namespace Go.Proofs.Ythohkokhimdamaa
open Go.RowKit Go.GrainU

set_option maxHeartbeats 1000000 in
theorem mat1_any (x : CT) (s : Lb) (B n m c' : Nat) (so : Option Addr) (w : World) (hx : Seg w x.sa (lcells x.ser)) (hs : Seg w so (lcells s)) (hB : w.cell? ⟨B, 0, none⟩ = some (.slice so m c')) (hn : n = x.ser.length) (hm : m = s.length) (hc : n ≤ 9223372036854775807) :
    Calls Try.prog 69 #[.agg #[.slice x.sa n x.sc, .int .i64 x.v], .pointer (some ⟨B, 0, none⟩)] w fun e w' => e = .returned (.bool (decide (cmpS x.ser s = 0))) ∧ Below w.heap.size w w' := by
  have hl : B < w.heap.size := World.block_lt_of_cell? w _ hB
  obtain ⟨V, hV⟩ : ∃ V, V = w.alloc (.cells #[.slice x.sa n x.sc, .int .i64 x.v] 44) := ⟨_, rfl⟩
  have bel : Below w.heap.size w V := by rw [hV]; exact (Below.refl _ _).alloc (Nat.le_refl _) _
  have HV := hide hV
  have HN := hide hn
  have HM := hide hm
  obtain ⟨C, hC⟩ : ∃ C, C = cmpS x.ser s := ⟨_, rfl⟩
  rw [← hC]
  have HC := hide hC
  obtain ⟨R, hR⟩ : ∃ R, R = decide (C = 0) := ⟨_, rfl⟩
  rw [← hR]
  have HR := hide hR
  clear hV hn hm hC hR
  go_enter Try.func69, Try.ntmps69
  go_wp2_with fail
  rw [← HV.out]
  refine (ncmp_any x.ser s x.sa so n m x.sc c' V (hx.below bel) (hs.below bel) HN.out HM.out hc).mono ?_
  rintro e w1 ⟨rfl, b1⟩
  rw [← HC.out]
  have b2 : Below w.heap.size w w1 := bel.trans (b1.mono bel.size)
  by_cases h0 : C = 0
  · have hd : Hid (R = true) := by show _ = _; rw [HR.out]; simpa using h0
    subst h0
    go_wp2
    go_ret
    exact ⟨ret_bool hd.out.symm, b2⟩
  · have hd : Hid (R = false) := by show _ = _; rw [HR.out]; simpa using h0
    have hd2 : (C == 0) = false := by simpa using h0
    clear h0
    go_wp2
    go_ret
    exact ⟨ret_bool hd.out.symm, b2⟩

set_option maxHeartbeats 2000000 in
theorem midx_any (l : List CT) (s : Lb) (B n c m c' : Nat) (co so : Option Addr) (w : World) (hl : CsIn w co l) (hs : Seg w so (lcells s)) (hB : w.cell? ⟨B, 0, none⟩ = some (.slice so m c')) (hn : n = l.length) (hm : m = s.length) (hb8 : ∀ x ∈ l, x.ser.length ≤ 9223372036854775807) (hn8 : n ≤ 9223372036854775807) :
    Calls Try.prog 68 #[.slice co n c, .func (.func 69) #[] #[.pointer (some ⟨B, 0, none⟩)]] w fun e w' => (∃ i, e = .returned (.int .i64 i) ∧ CAt l s i) ∧ Below w.heap.size w w' := by
  have hBl : B < w.heap.size := World.block_lt_of_cell? w _ hB
  have HN := hide hn
  have HM := hide hm
  have H8 := hide hb8
  clear hn hm hb8
  go_enter Try.func68, Try.ntmps68
  go_wp2
  go_loopw [8] (fun i wr => ∃ k : Nat, k ≤ n ∧ i = .int .i64 k ∧ Hid (cellOf (cls l) s = cellOf (cls (l.drop k)) s) ∧ Below w.heap.size w wr) (fun i _ => n - (intOf i).toNat)
  case atStart => exact ⟨0, Nat.zero_le _, rfl, rfl, Below.refl _ _⟩
  case round =>
    obtain ⟨k, hk, rfl, HW, bel⟩ := hrel
    have hsz := bel.size
    by_cases hlt : k < n
    · have hka : k < l.length := by rw [← HN.out]; exact hlt
      obtain ⟨p, off, rfl, hbl, hcell⟩ := seg_cell hl.seg hka
      obtain ⟨x, hx⟩ : ∃ x, x = ct l k := ⟨_, rfl⟩
      obtain ⟨xn, hxn⟩ : ∃ xn, xn = x.ser.length := ⟨_, rfl⟩
      have sx : Seg w x.sa (lcells x.ser) := by rw [hx]; exact hl.ser _ (ct_mem hka)
      have c0 : wr.cell? ⟨p, off + k * 2, none⟩ = some (.slice x.sa xn x.sc) := by rw [hxn, hx]; exact (bel.cell (by exact hbl)).trans (hcell k hka).1
      have c1 : wr.cell? ⟨p, off + k * 2 + 1, none⟩ = some (.int .i64 x.v) := by rw [hx]; exact (bel.cell (by exact hbl)).trans (hcell k hka).2
      have cB : wr.cell? ⟨B, 0, none⟩ = some (.slice so m c') := (bel.cell (by exact hBl)).trans hB
      have HS : Hid (cellOf (cls l) s = if cmpS x.ser s = 0 then some x.v else cellOf (cls (l.drop (k + 1))) s) := by
        show _ = _
        rw [HW.out, cellOf_drop hka, hx]
      have x8 : xn ≤ 9223372036854775807 := by rw [hxn, hx]; exact H8.out _ (ct_mem hka)
      have HK := hide hka
      have HX := hide hx
      have HXN := hide hxn
      clear hx hxn hcell hka HW
      go_wp2_with fail
      refine (mat1_any x s B xn m c' so wr (sx.below bel) (hs.below bel) cB HXN.out HM.out x8).mono ?_
      rintro e w1 ⟨rfl, hb1⟩
      have bel1 : Below w.heap.size w w1 := bel.trans (hb1.mono hsz)
      clear hb1 bel c0 c1 cB
      by_cases e1 : cmpS x.ser s = 0
      · have hw : Hid (cellOf (cls l) s = some (ct l k).v) := by show _ = _; rw [HS.out, if_pos e1, HX.out]
        have hd : decide (cmpS x.ser s = 0) = true := by simpa using e1
        rw [hd]
        clear HS hd e1
        go_wp2
        go_ret
        exact ⟨⟨_, rfl, .inr ⟨k, HK.out, rfl, hw.out⟩⟩, bel1⟩
      · have hw : Hid (cellOf (cls l) s = cellOf (cls (l.drop (k + 1))) s) := by show _ = _; rw [HS.out, if_neg e1]
        have hd : decide (cmpS x.ser s = 0) = false := by simpa using e1
        rw [hd]
        clear HS hd e1
        go_wp2
        go_roundw
        case rel => exact ⟨k + 1, by omega, by go_num, hw, bel1⟩
        case measure => simp [intOf]; omega
    · have he : k = n := by omega
      subst he
      have hw : Hid (cellOf (cls l) s = none) := by
        show _ = _
        rw [HW.out, List.drop_eq_nil_of_le (by rw [← HN.out]; omega)]; rfl
      clear HW
      go_wp2
      go_ret
      exact ⟨⟨_, rfl, .inl ⟨rfl, hw.out⟩⟩, bel⟩

/-- a meaning lies there -/
def mnv (nb : Bool) (co : Option Addr) (n d : Nat) : Value := .agg #[.bool nb, .slice co n d]

def oi (o : Option Int) : Int := match o with | some v => v | none => 0
def ob (o : Option Int) : Bool := match o with | some _ => true | none => false

set_option maxRecDepth 100000 in
set_option maxHeartbeats 2000000 in
theorem mat_any (nb : Bool) (l : List CT) (s : Lb) (n c m c' : Nat) (co so : Option Addr) (w : World) (hl : CsIn w co l) (hs : Seg w so (lcells s)) (hn : n = l.length) (hm : m = s.length) (hb8 : ∀ x ∈ l, x.ser.length ≤ 9223372036854775807) (hn8 : n ≤ 9223372036854775807) (hnb : nb = true → 0 < n) :
    Calls Try.prog 53 #[.agg #[.bool nb, .slice co n c], .slice so m c'] w fun e w' => e = .returned (.tuple #[.int .i64 (oi (atM ⟨nb, cls l⟩ s)), .bool (ob (atM ⟨nb, cls l⟩ s))]) ∧ Below w.heap.size w w' := by
  obtain ⟨V, hV⟩ : ∃ V, V = (w.alloc (.cells #[.bool nb, .slice co n c] 65)).alloc (.cells #[.slice so m c'] 35) := ⟨_, rfl⟩
  have bel : Below w.heap.size w V := by rw [hV]; exact ((Below.refl _ _).alloc (Nat.le_refl _) _).alloc (by simp) _
  have F0 : V.heap[w.heap.size]? = some (.cells #[.bool nb, .slice co n c] 65 (0, 0)) := by rw [hV, Below.heap_alloc _ _ _ (by simp)]; exact heap_alloc_new w _
  have cB : V.cell? ⟨w.heap.size + 1, 0, none⟩ = some (.slice so m c') := by rw [hV]; simp
  have hsz := bel.size
  have HV := hide hV
  have HN := hide hn
  have HM := hide hm
  clear hV hn hm
  have hlV := hl.below bel
  cases nb with
  | true =>
    have h0 := hnb rfl
    have hka : 0 < l.length := by rw [← HN.out]; exact h0
    obtain ⟨p, off, rfl, hbl, hcell⟩ := seg_cell hl.seg hka
    obtain ⟨x, hx⟩ : ∃ x, x = (ct l 0).v := ⟨_, rfl⟩
    have c1 : w.cell? ⟨p, off + 1, none⟩ = some (.int .i64 x) := by
      rw [hx]
      have := (hcell 0 hka).2
      rw [Nat.zero_mul, Nat.add_zero] at this
      exact this
    have HR : Hid (atM ⟨true, cls l⟩ s = some x) := by
      show _ = _
      rw [hx]
      simp [atM, cl0, ct, cls, List.getD]
      cases l with
      | nil => simp at hka
      | cons a r => rfl
    obtain ⟨R1, hR1⟩ : ∃ R, R = oi (atM ⟨true, cls l⟩ s) := ⟨_, rfl⟩
    obtain ⟨R2, hR2⟩ : ∃ R, R = ob (atM ⟨true, cls l⟩ s) := ⟨_, rfl⟩
    rw [← hR1, ← hR2]
    have HR1 : Hid (R1 = x) := by show _ = _; rw [hR1, HR.out]; rfl
    have HR2 : Hid (R2 = true) := by show _ = _; rw [hR2, HR.out]; rfl
    clear hx hcell hka hR1 hR2 HR
    have HB := hide bel
    clear F0 cB hlV bel hsz
    go_enter Try.func53, Try.ntmps53
    go_wp2
    go_ret2
    exact ⟨by rw [HR1.out, HR2.out]; rfl, by rw [← HV.out]; exact HB.out⟩
  | false =>
    obtain ⟨R, hR⟩ : ∃ R, R = atM ⟨false, cls l⟩ s := ⟨_, rfl⟩
    rw [← hR]
    have HR : Hid (R = cellOf (cls l) s) := by show _ = _; rw [hR]; simp [atM]
    clear hR
    obtain ⟨f0, f1, _, _⟩ := two_cells F0
    go_enter Try.func53, Try.ntmps53
    go_wp2_with fail
    rw [← HV.out]
    refine (midx_any l s (w.heap.size + 1) n c m c' co so V hlV (hs.below bel) cB HN.out HM.out hb8 hn8).mono ?_
    rintro e w1 ⟨⟨i, rfl, hi⟩, hb1⟩
    have bel1 : Below w.heap.size w w1 := bel.trans (hb1.mono hsz)
    obtain ⟨f0, f1, _, _⟩ := two_cells (below_block hb1 F0)
    clear hb1
    rcases hi with ⟨rfl, hf⟩ | ⟨k, hk, rfl, hf⟩
    · have HF : Hid (R = none) := by show _ = _; rw [HR.out]; exact hf
      clear hf HR
      go_wp2
      go_ret2
      exact ⟨by rw [HF.out]; rfl, bel1⟩
    · obtain ⟨p, off, rfl, hbl, hcell⟩ := seg_cell hl.seg hk
      obtain ⟨y, hy⟩ : ∃ y, y = (ct l k).v := ⟨_, rfl⟩
      have HF : Hid (R = some y) := by show _ = _; rw [HR.out, hy]; exact hf
      have c1 : w1.cell? ⟨p, off + k * 2 + 1, none⟩ = some (.int .i64 y) := by rw [hy]; exact (bel1.cell (by exact hbl)).trans (hcell k hk).2
      have hkn : k < n := by rw [HN.out]; exact hk
      clear hy hcell hk hf HR
      go_wp2
      go_ret2
      exact ⟨by rw [HF.out]; rfl, bel1⟩

end Go.Proofs.Ythohkokhimdamaa
