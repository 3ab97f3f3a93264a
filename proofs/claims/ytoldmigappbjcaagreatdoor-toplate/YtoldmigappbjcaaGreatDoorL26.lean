import Derived.Test.YtoldmigappbjcaaGreatDoorL16
import Derived.Test.YtoldmigappbjcaaGreatDoorL17
import Derived.Test.YtoldmigappbjcaaGreatDoorL25
namespace Go.Proofs.YtoldmigappbjcaaGreatDoor
open Go.RowKit Go.GrainU
theorem krt_any (T : Grain.Bk) (w : World) : Calls Tryz.prog 236 #[.agg #[.int .i64 T.a, .int .i64 T.s.c, .int .i64 T.s.t, .int .i64 T.s.mn, .int .i64 T.s.mx, .int .i64 T.s.f, .int .i64 T.s.l, .int .i64 T.s.r]] w fun e w' => e = .returned (.int .i64 T.a) ∧ Below w.heap.size w w' := by
 have bel : Below w.heap.size w (w.alloc (.cells #[.int .i64 T.a, .int .i64 T.s.c, .int .i64 T.s.t, .int .i64 T.s.mn, .int .i64 T.s.mx, .int .i64 T.s.f, .int .i64 T.s.l, .int .i64 T.s.r] 145)) := (Below.refl _ _).alloc (Nat.le_refl _) _
 go_enter Tryz.func236, Tryz.ntmps236
 go_wp2
 go_ret
 exact ⟨rfl, bel⟩
set_option maxHeartbeats 2000000 in
theorem kf1_any (l : List Grain.Bk) (ao : Option Addr) (n c Bt Bl Bp i : Nat) (f : Int) (w : World) (hs : Seg w ao (kcells l)) (hn : n = l.length) (hi : i < n)
  (ht : w.cell? ⟨Bt, 0, none⟩ = some (.func (.func 236) #[] #[])) (hl : w.cell? ⟨Bl, 0, none⟩ = some (.slice ao n c)) (hf : w.cell? ⟨Bp, 1, none⟩ = some (.int .i64 f)) :
  Calls Tryz.prog 247 #[.int .i64 i, .pointer (some ⟨Bt, 0, none⟩), .pointer (some ⟨Bl, 0, none⟩), .pointer (some ⟨Bp, 0, none⟩)] w fun e w' => e = .returned (.bool (decide (f ≤ (Grain.bk l i).a))) ∧ Below w.heap.size w w' := by
 have hil : i < l.length := by omega
 obtain ⟨b, off, rfl, _, hcell⟩ := seg_bucket hs hil
 obtain ⟨T, hT⟩ : ∃ T, T = Grain.bk l i := ⟨_, rfl⟩
 have q := hcell i hil
 rw [← hT] at q ⊢
 obtain ⟨c0, c1, c2, c3, c4, c5, c6, c7⟩ := q
 have R1 : Below w.heap.size w w.drew := below_drewN (Below.refl _ _) 1
 have HS : Hid (∀ w', Below w.heap.size w w' → w'.cell? ⟨Bt, 0, none⟩ = some (.func (.func 236) #[] #[]) ∧ w'.cell? ⟨Bl, 0, none⟩ = some (.slice (some ⟨b, off, none⟩) n c) ∧ w'.cell? ⟨Bp, 1, none⟩ = some (.int .i64 f) ∧ w'.cell? ⟨b, off + i * 8, none⟩ = some (.int .i64 T.a) ∧ w'.cell? ⟨b, off + i * 8 + 1, none⟩ = some (.int .i64 T.s.c) ∧ w'.cell? ⟨b, off + i * 8 + 2, none⟩ = some (.int .i64 T.s.t) ∧ w'.cell? ⟨b, off + i * 8 + 3, none⟩ = some (.int .i64 T.s.mn) ∧ w'.cell? ⟨b, off + i * 8 + 4, none⟩ = some (.int .i64 T.s.mx) ∧ w'.cell? ⟨b, off + i * 8 + 5, none⟩ = some (.int .i64 T.s.f) ∧ w'.cell? ⟨b, off + i * 8 + 6, none⟩ = some (.int .i64 T.s.l) ∧ w'.cell? ⟨b, off + i * 8 + 7, none⟩ = some (.int .i64 T.s.r)) :=
  fun w' hb => ⟨(hb.cell (by exact World.block_lt_of_cell? _ _ ht)).trans ht, (hb.cell (by exact World.block_lt_of_cell? _ _ hl)).trans hl, (hb.cell (by exact World.block_lt_of_cell? _ _ hf)).trans hf, (hb.cell (by exact World.block_lt_of_cell? _ _ c0)).trans c0, (hb.cell (by exact World.block_lt_of_cell? _ _ c1)).trans c1, (hb.cell (by exact World.block_lt_of_cell? _ _ c2)).trans c2, (hb.cell (by exact World.block_lt_of_cell? _ _ c3)).trans c3, (hb.cell (by exact World.block_lt_of_cell? _ _ c4)).trans c4, (hb.cell (by exact World.block_lt_of_cell? _ _ c5)).trans c5, (hb.cell (by exact World.block_lt_of_cell? _ _ c6)).trans c6, (hb.cell (by exact World.block_lt_of_cell? _ _ c7)).trans c7⟩
 clear hcell hT hs hn hil c0 c1 c2 c3 c4 c5 c6 c7 ht hl hf
 go_enter Tryz.func247, Tryz.ntmps247
 go_wp2
 go_region_held3 (fun w' => w'.cell? ⟨Bt, 0, none⟩ = some (.func (.func 236) #[] #[]) ∧ w'.cell? ⟨Bl, 0, none⟩ = some (.slice (some ⟨b, off, none⟩) n c) ∧ w'.cell? ⟨Bp, 1, none⟩ = some (.int .i64 f) ∧ w'.cell? ⟨b, off + i * 8, none⟩ = some (.int .i64 T.a) ∧ w'.cell? ⟨b, off + i * 8 + 1, none⟩ = some (.int .i64 T.s.c) ∧ w'.cell? ⟨b, off + i * 8 + 2, none⟩ = some (.int .i64 T.s.t) ∧ w'.cell? ⟨b, off + i * 8 + 3, none⟩ = some (.int .i64 T.s.mn) ∧ w'.cell? ⟨b, off + i * 8 + 4, none⟩ = some (.int .i64 T.s.mx) ∧ w'.cell? ⟨b, off + i * 8 + 5, none⟩ = some (.int .i64 T.s.f) ∧ w'.cell? ⟨b, off + i * 8 + 6, none⟩ = some (.int .i64 T.s.l) ∧ w'.cell? ⟨b, off + i * 8 + 7, none⟩ = some (.int .i64 T.s.r)) (exact HS.out _ (by assumption))
  (first | (go_at_call 236; refine (krt_any T _).mono ?_; rintro e w1 ⟨rfl, hb1⟩; have R2 := below_pl hb1 (by assumption)))
 all_goals
  go_wp2
  go_ret
  exact ⟨rfl, R2⟩
set_option maxHeartbeats 2000000 in
theorem kf2_any (l : List Grain.Bk) (ao : Option Addr) (n c Bt Bl Bp i : Nat) (f : Int) (w : World) (hs : Seg w ao (kcells l)) (hn : n = l.length) (hi : i < n)
  (ht : w.cell? ⟨Bt, 0, none⟩ = some (.func (.func 236) #[] #[])) (hl : w.cell? ⟨Bl, 0, none⟩ = some (.slice ao n c)) (hf : w.cell? ⟨Bp, 2, none⟩ = some (.int .i64 f)) :
  Calls Tryz.prog 248 #[.int .i64 i, .pointer (some ⟨Bt, 0, none⟩), .pointer (some ⟨Bl, 0, none⟩), .pointer (some ⟨Bp, 0, none⟩)] w fun e w' => e = .returned (.bool (decide (f ≤ (Grain.bk l i).a))) ∧ Below w.heap.size w w' := by
 have hil : i < l.length := by omega
 obtain ⟨b, off, rfl, _, hcell⟩ := seg_bucket hs hil
 obtain ⟨T, hT⟩ : ∃ T, T = Grain.bk l i := ⟨_, rfl⟩
 have q := hcell i hil
 rw [← hT] at q ⊢
 obtain ⟨c0, c1, c2, c3, c4, c5, c6, c7⟩ := q
 have R1 : Below w.heap.size w w.drew := below_drewN (Below.refl _ _) 1
 have HS : Hid (∀ w', Below w.heap.size w w' → w'.cell? ⟨Bt, 0, none⟩ = some (.func (.func 236) #[] #[]) ∧ w'.cell? ⟨Bl, 0, none⟩ = some (.slice (some ⟨b, off, none⟩) n c) ∧ w'.cell? ⟨Bp, 2, none⟩ = some (.int .i64 f) ∧ w'.cell? ⟨b, off + i * 8, none⟩ = some (.int .i64 T.a) ∧ w'.cell? ⟨b, off + i * 8 + 1, none⟩ = some (.int .i64 T.s.c) ∧ w'.cell? ⟨b, off + i * 8 + 2, none⟩ = some (.int .i64 T.s.t) ∧ w'.cell? ⟨b, off + i * 8 + 3, none⟩ = some (.int .i64 T.s.mn) ∧ w'.cell? ⟨b, off + i * 8 + 4, none⟩ = some (.int .i64 T.s.mx) ∧ w'.cell? ⟨b, off + i * 8 + 5, none⟩ = some (.int .i64 T.s.f) ∧ w'.cell? ⟨b, off + i * 8 + 6, none⟩ = some (.int .i64 T.s.l) ∧ w'.cell? ⟨b, off + i * 8 + 7, none⟩ = some (.int .i64 T.s.r)) :=
  fun w' hb => ⟨(hb.cell (by exact World.block_lt_of_cell? _ _ ht)).trans ht, (hb.cell (by exact World.block_lt_of_cell? _ _ hl)).trans hl, (hb.cell (by exact World.block_lt_of_cell? _ _ hf)).trans hf, (hb.cell (by exact World.block_lt_of_cell? _ _ c0)).trans c0, (hb.cell (by exact World.block_lt_of_cell? _ _ c1)).trans c1, (hb.cell (by exact World.block_lt_of_cell? _ _ c2)).trans c2, (hb.cell (by exact World.block_lt_of_cell? _ _ c3)).trans c3, (hb.cell (by exact World.block_lt_of_cell? _ _ c4)).trans c4, (hb.cell (by exact World.block_lt_of_cell? _ _ c5)).trans c5, (hb.cell (by exact World.block_lt_of_cell? _ _ c6)).trans c6, (hb.cell (by exact World.block_lt_of_cell? _ _ c7)).trans c7⟩
 clear hcell hT hs hn hil c0 c1 c2 c3 c4 c5 c6 c7 ht hl hf
 go_enter Tryz.func248, Tryz.ntmps248
 go_wp2
 go_region_held3 (fun w' => w'.cell? ⟨Bt, 0, none⟩ = some (.func (.func 236) #[] #[]) ∧ w'.cell? ⟨Bl, 0, none⟩ = some (.slice (some ⟨b, off, none⟩) n c) ∧ w'.cell? ⟨Bp, 2, none⟩ = some (.int .i64 f) ∧ w'.cell? ⟨b, off + i * 8, none⟩ = some (.int .i64 T.a) ∧ w'.cell? ⟨b, off + i * 8 + 1, none⟩ = some (.int .i64 T.s.c) ∧ w'.cell? ⟨b, off + i * 8 + 2, none⟩ = some (.int .i64 T.s.t) ∧ w'.cell? ⟨b, off + i * 8 + 3, none⟩ = some (.int .i64 T.s.mn) ∧ w'.cell? ⟨b, off + i * 8 + 4, none⟩ = some (.int .i64 T.s.mx) ∧ w'.cell? ⟨b, off + i * 8 + 5, none⟩ = some (.int .i64 T.s.f) ∧ w'.cell? ⟨b, off + i * 8 + 6, none⟩ = some (.int .i64 T.s.l) ∧ w'.cell? ⟨b, off + i * 8 + 7, none⟩ = some (.int .i64 T.s.r)) (exact HS.out _ (by assumption))
  (first | (go_at_call 236; refine (krt_any T _).mono ?_; rintro e w1 ⟨rfl, hb1⟩; have R2 := below_pl hb1 (by assumption)))
 all_goals
  go_wp2
  go_ret
  exact ⟨rfl, R2⟩
theorem krise_mono {l : List Grain.Bk} (h : l.Pairwise (fun x y => x.a < y.a)) (f : Int) : ∀ a b, a ≤ b → b < l.length → decide (f ≤ (Grain.bk l a).a) = true → decide (f ≤ (Grain.bk l b).a) = true := by
 intro a b hab hb ha
 rcases Nat.lt_or_ge a b with hl | hl
 ·have := List.pairwise_iff_getElem.1 h a b (by omega) hb hl
  simp [Grain.bk, List.getD, List.getElem?_eq_getElem hb, List.getElem?_eq_getElem (show a < l.length by omega)] at ha ⊢
  omega
 ·obtain rfl : a = b := by omega
  exact ha
set_option maxHeartbeats 2000000 in
theorem kwithin_any (l : List Grain.Bk) (ao : Option Addr) (n c : Nat) (p : Grain.Pt) (w : World) (hs : Seg w ao (kcells l)) (hn : n = l.length) (hc : n ≤ c) (hL : n ≤ 1000000) (hpw : l.Pairwise (fun x y => x.a < y.a)) (hft : p.f ≤ p.t) :
  Calls Tryz.prog 235 #[.slice ao n c, .agg #[.int .i64 p.k, .int .i64 p.f, .int .i64 p.t], .func (.func 236) #[] #[]] w fun e w' => ∃ (bo : Option Addr) (m d : Nat), e = .returned (.slice bo m d) ∧ Seg w bo (kcells (Grain.winB l p.f p.t)) ∧ Hid (m = (Grain.winB l p.f p.t).length) ∧ Below w.heap.size w w' := by
 obtain ⟨k, f, t⟩ := p
 simp only at hft
 obtain ⟨X, hX⟩ : ∃ X, X = w.heap.size := ⟨_, rfl⟩
 obtain ⟨V, hV⟩ : ∃ V, V = ((w.alloc (.cells #[.slice ao n c] 57)).alloc (.cells #[.int .i64 k, .int .i64 f, .int .i64 t] 235)).alloc (.cells #[.func (.func 236) #[] #[]] 284) := ⟨_, rfl⟩
 have bel : Below w.heap.size w V := by rw [hV]; exact (((Below.refl _ _).alloc (Nat.le_refl _) _).alloc (by simp) _).alloc (by simp; omega) _
 have B0 : V.heap[X]? = some (.cells #[.slice ao n c] 57 (0, 0)) := by
  rw [hV, hX, Below.heap_alloc _ _ _ (by simp; omega), Below.heap_alloc _ _ _ (by simp)]; exact heap_alloc_new w _
 have B1 : V.heap[X + 1]? = some (.cells #[.int .i64 k, .int .i64 f, .int .i64 t] 235 (0, 0)) := by
  rw [hV, hX, Below.heap_alloc _ _ _ (by simp)]; have := heap_alloc_new (w.alloc (.cells #[.slice ao n c] 57)) (.cells #[.int .i64 k, .int .i64 f, .int .i64 t] 235); rwa [World.size_alloc] at this
 have B2 : V.heap[X + 2]? = some (.cells #[.func (.func 236) #[] #[]] 284 (0, 0)) := by
  rw [hV, hX]; have := heap_alloc_new ((w.alloc (.cells #[.slice ao n c] 57)).alloc (.cells #[.int .i64 k, .int .i64 f, .int .i64 t] 235)) (.cells #[.func (.func 236) #[] #[]] 284); rwa [World.size_alloc, World.size_alloc] at this
 have cL : V.cell? ⟨X, 0, none⟩ = some (.slice ao n c) := by rw [cell_of_row V X _ _ _ (0, 0) B0]; rfl
 have cT : V.cell? ⟨X + 2, 0, none⟩ = some (.func (.func 236) #[] #[]) := by rw [cell_of_row V (X + 2) _ _ _ (0, 0) B2]; rfl
 obtain ⟨p0, p1, p2⟩ := three3 B1
 have lX := lt_of_block B0
 have lX1 := lt_of_block B1
 have lX2 := lt_of_block B2
 have hsV := hs.below bel
 have hE1 := hide (enters (P := Tryz.prog) (f := 247) Tryz.func247 (by kernel_rfl) (by kernel_rfl))
 have hE2 := hide (enters (P := Tryz.prog) (f := 248) Tryz.func248 (by kernel_rfl) (by kernel_rfl))
 have HA : Hid (∀ W, Below V.heap.size V W → Calls Tryz.prog 238 #[.int .i64 n, .func (.func 247) #[] #[.pointer (some ⟨X + 2, 0, none⟩), .pointer (some ⟨X, 0, none⟩), .pointer (some ⟨X + 1, 0, none⟩)]] W fun e w' => ∃ r : Nat, r ≤ n ∧ Hid ((∀ t, t < r → decide (f ≤ (Grain.bk l t).a) = false) ∧ ∀ t, r ≤ t → t < n → decide (f ≤ (Grain.bk l t).a) = true) ∧ e = .returned (.int .i64 r) ∧ Below W.heap.size W w') := by
  intro W hb
  refine search_any (fun i => decide (f ≤ (Grain.bk l i).a)) _ _ n W hL hE1 (fun W' i hi hb' => ?_) (fun a b h1 h2 => krise_mono hpw f a b h1 (by omega))
  have hbb := below_pl hb' hb
  exact kf1_any l ao n c (X + 2) X (X + 1) i f W' (hsV.below hbb) hn hi ((hbb.cell (by exact lX2)).trans cT) ((hbb.cell (by exact lX)).trans cL) ((hbb.cell (by exact lX1)).trans p1)
 have HB : Hid (∀ W, Below V.heap.size V W → Calls Tryz.prog 238 #[.int .i64 n, .func (.func 248) #[] #[.pointer (some ⟨X + 2, 0, none⟩), .pointer (some ⟨X, 0, none⟩), .pointer (some ⟨X + 1, 0, none⟩)]] W fun e w' => ∃ r : Nat, r ≤ n ∧ Hid ((∀ i, i < r → decide (t ≤ (Grain.bk l i).a) = false) ∧ ∀ i, r ≤ i → i < n → decide (t ≤ (Grain.bk l i).a) = true) ∧ e = .returned (.int .i64 r) ∧ Below W.heap.size W w') := by
  intro W hb
  refine search_any (fun i => decide (t ≤ (Grain.bk l i).a)) _ _ n W hL hE2 (fun W' i hi hb' => ?_) (fun a b h1 h2 => krise_mono hpw t a b h1 (by omega))
  have hbb := below_pl hb' hb
  exact kf2_any l ao n c (X + 2) X (X + 1) i t W' (hsV.below hbb) hn hi ((hbb.cell (by exact lX2)).trans cT) ((hbb.cell (by exact lX)).trans cL) ((hbb.cell (by exact lX1)).trans p2)
 have HN := hide hn
 have HV := hide hV
 have HX := hide hX
 have HS := hide hs
 have HPW := hide hpw
 have HFT := hide hft
 have hXV : X ≤ V.heap.size := by omega
 clear hn hV hX hs hsV hE1 hE2 B0 B1 B2 hpw p0 p1 p2 lX1 lX2 hft
 go_enter Tryz.func235, Tryz.ntmps235
 go_wp2_with fail
 rw [← HV.out, ← HX.out]
 refine (HA.out V (Below.refl _ _)).mono ?_
 rintro e w1 ⟨r1, hr1, I1, rfl, hb1⟩
 have cL1 := (hb1.cell (p := ⟨X, 0, none⟩) (by exact lX)).trans cL
 clear HA
 go_wp2_with fail
 refine (HB.out w1 hb1).mono ?_
 rintro e w2 ⟨r2, hr2, I2, rfl, hb2⟩
 have bel2 : Below V.heap.size V w2 := below_pl hb2 hb1
 have cL2 := (bel2.cell (p := ⟨X, 0, none⟩) (by exact lX)).trans cL
 have C := Grain.cut_filter (fun x : Grain.Bk => x.a) (l := l) (f := f) (t := t) (a := r1) (b := r2) (by rw [← HN.out]; exact hr1) (by rw [← HN.out]; exact hr2) (fun i hi => ?c1) (fun i hi => ?c2) HFT.out
 case c1 =>
  have e : (Grain.bk l i).a = l[i].a := by simp [Grain.bk, List.getD, List.getElem?_eq_getElem hi]
  rw [← e]
  constructor
  ·intro h
   rcases Nat.lt_or_ge i r1 with h' | h'
   ·exact h'
   ·have := I1.out.2 i h' (by rw [HN.out]; exact hi)
    simp at this; omega
  ·intro h
   have := I1.out.1 i h
   simp at this; omega
 case c2 =>
  have e : (Grain.bk l i).a = l[i].a := by simp [Grain.bk, List.getD, List.getElem?_eq_getElem hi]
  rw [← e]
  constructor
  ·intro h
   rcases Nat.lt_or_ge i r2 with h' | h'
   ·exact h'
   ·have := I2.out.2 i h' (by rw [HN.out]; exact hi)
    simp at this; omega
  ·intro h
   have := I2.out.1 i h
   simp at this; omega
 obtain ⟨h12, hcut⟩ := C
 obtain ⟨so, hso⟩ : ∃ so, so = cutP ao c r1 8 := ⟨_, rfl⟩
 obtain ⟨sl, hsl⟩ : ∃ sl, sl = r2 - r1 := ⟨_, rfl⟩
 obtain ⟨sd, hsd⟩ : ∃ sd, sd = c - r1 := ⟨_, rfl⟩
 have hseg : Seg w so (kcells (Grain.winB l f t)) := by
  rw [hso, show Grain.winB l f t = (l.take r2).drop r1 from hcut.symm, ← kcells_td]
  exact seg_cutP (n := n) HS.out (by rw [kcells_length, HN.out]) hc h12 (by omega)
 have hlen : sl = (Grain.winB l f t).length := by
  rw [hsl, show Grain.winB l f t = (l.take r2).drop r1 from hcut.symm, List.length_drop, List.length_take, ← HN.out]; omega
 have hsl1 : ∀ w, Sem.run Tryz.prog (Instr.slice 57 (.slice ao n c) (some (.int .i64 r1)) (some (.int .i64 r2)) none) w = .ok (.slice so sl sd) w := by
  intro w
  rw [run_slice_lh (P := Tryz.prog) (t := 57) (ht := by kernel_rfl) (a := ao) (len := n) (cap := c) (kl := .i64) (kh := .i64) (l := (r1 : Int)) (h := (r2 : Int)) (h0 := by omega) (h1 := by omega) (h2 := by omega)]
  rw [hso, hsl, hsd]
  simp [sliced, cutP, go_sem]
 have hsl2 : ∀ w, Sem.run Tryz.prog (Instr.sliceAt 57 (.slice ao n c) (some (.int .i64 r1)) (some (.int .i64 r2)) none) w = .ok (.slice so sl sd) w := by
  intro w
  rw [run_sliceAt_slice (P := Tryz.prog) (t := 57) (h := by kernel_rfl)]
  exact hsl1 w
 have HG := hide hseg
 have HLn := hide hlen
 clear hso hsl hsd hcut hseg hlen I1 I2 HS HPW
 go_wp2
 go_ret
 exact ⟨so, sl, sd, rfl, HG.out, HLn, by first | exact bel.trans (bel2.mono bel.size) | (rw [← HX.out]; exact bel.trans (bel2.mono hXV))⟩
open Go.RowKit Go.GrainU
theorem join_let (a b : Grain.Sm) (w : World) :
  Calls Tryz.prog 55 #[sv a, sv b] w fun e w' => ∃ J : Grain.Sm, Hid (J = Grain.join a b) ∧ e = .returned (.agg #[.int .i64 J.c, .int .i64 J.t, .int .i64 J.mn, .int .i64 J.mx, .int .i64 J.f, .int .i64 J.l, .int .i64 J.r]) ∧ Below w.heap.size w w' :=
 (join_any a b w).mono fun _ _ h => ⟨_, rfl, h.1, h.2⟩
def SumAt (w : World) (B : Nat) (s : Grain.Sm) : Prop :=
 w.heap[B]? = some (.cells #[.int .i64 s.c, .int .i64 s.t, .int .i64 s.mn, .int .i64 s.mx, .int .i64 s.f, .int .i64 s.l, .int .i64 s.r] 76 (0, 0))
theorem SumAt.below {w w' : World} {B : Nat} {s : Grain.Sm} (h : SumAt w B s) (hb : Below w.heap.size w w') : SumAt w' B s := below_block hb h
def SumCells (w : World) (B : Nat) (s : Grain.Sm) : Prop :=
 w.cell? ⟨B, 0, none⟩ = some (.int .i64 s.c) ∧ w.cell? ⟨B, 1, none⟩ = some (.int .i64 s.t) ∧ w.cell? ⟨B, 2, none⟩ = some (.int .i64 s.mn) ∧ w.cell? ⟨B, 3, none⟩ = some (.int .i64 s.mx) ∧ w.cell? ⟨B, 4, none⟩ = some (.int .i64 s.f) ∧ w.cell? ⟨B, 5, none⟩ = some (.int .i64 s.l) ∧ w.cell? ⟨B, 6, none⟩ = some (.int .i64 s.r)
theorem SumAt.cells {w : World} {B : Nat} {s : Grain.Sm} (h : SumAt w B s) : SumCells w B s := seven_cells h
theorem SumAt.set {w : World} {B : Nat} {s : Grain.Sm} (h : SumAt w B s) (J : Grain.Sm) :
  SumAt (((((((w.setCell ⟨B, 0, none⟩ (.int .i64 J.c)).setCell ⟨B, 1, none⟩ (.int .i64 J.t)).setCell ⟨B, 2, none⟩ (.int .i64 J.mn)).setCell ⟨B, 3, none⟩ (.int .i64 J.mx)).setCell ⟨B, 4, none⟩ (.int .i64 J.f)).setCell ⟨B, 5, none⟩ (.int .i64 J.l)).setCell ⟨B, 6, none⟩ (.int .i64 J.r)) B J := by
 unfold SumAt at h ⊢
 simp [World.setCell, Array.getElem?_modify, h]
theorem SumAt.far {w : World} {B C : Nat} {s : Grain.Sm} (h : SumAt w C s) (hn : C ≠ B) (v0 v1 v2 v3 v4 v5 v6 : Value) :
  SumAt (((((((w.setCell ⟨B, 0, none⟩ v0).setCell ⟨B, 1, none⟩ v1).setCell ⟨B, 2, none⟩ v2).setCell ⟨B, 3, none⟩ v3).setCell ⟨B, 4, none⟩ v4).setCell ⟨B, 5, none⟩ v5).setCell ⟨B, 6, none⟩ v6) C s := by
 unfold SumAt at h ⊢
 rw [setCell_far hn, setCell_far hn, setCell_far hn, setCell_far hn, setCell_far hn, setCell_far hn, setCell_far hn]
 exact h
theorem below_set7 {w W : World} {A C : Nat} (bel : Below A w W) (hC : A ≤ C) (v0 v1 v2 v3 v4 v5 v6 : Value) :
  Below A w (((((((W.setCell ⟨C, 0, none⟩ v0).setCell ⟨C, 1, none⟩ v1).setCell ⟨C, 2, none⟩ v2).setCell ⟨C, 3, none⟩ v3).setCell ⟨C, 4, none⟩ v4).setCell ⟨C, 5, none⟩ v5).setCell ⟨C, 6, none⟩ v6) :=
 ((((((bel.setCell hC _).setCell hC _).setCell hC _).setCell hC _).setCell hC _).setCell hC _).setCell hC _
structure OfInv (w wr : World) (s : Grain.Sm) : Prop where
 res : SumAt wr w.heap.size Grain.zero
 cur : SumAt wr (w.heap.size + 1) s
 bel : Below w.heap.size w wr
theorem OfInv.start (w : World) : OfInv w ((w.alloc (.cells #[.int .i64 0, .int .i64 0, .int .i64 0, .int .i64 0, .int .i64 0, .int .i64 0, .int .i64 0] 76)).alloc (.cells #[.int .i64 0, .int .i64 0, .int .i64 0, .int .i64 0, .int .i64 0, .int .i64 0, .int .i64 0] 76)) Grain.zero := by
 refine ⟨?_, ?_, ?_⟩
 ·show ((w.alloc _).alloc _).heap[w.heap.size]? = _
  rw [Below.heap_alloc _ _ _ (by simp)]; exact heap_alloc_new w _
 ·have := heap_alloc_new (w.alloc (.cells #[.int .i64 0, .int .i64 0, .int .i64 0, .int .i64 0, .int .i64 0, .int .i64 0, .int .i64 0] 76)) (.cells #[.int .i64 0, .int .i64 0, .int .i64 0, .int .i64 0, .int .i64 0, .int .i64 0, .int .i64 0] 76)
  have e : (w.alloc (.cells #[.int .i64 0, .int .i64 0, .int .i64 0, .int .i64 0, .int .i64 0, .int .i64 0, .int .i64 0] 76)).heap.size = w.heap.size + 1 := by simp
  rw [e] at this
  exact this
 ·exact ((Below.refl _ _).alloc (Nat.le_refl _) _).alloc (by simp) _
theorem OfInv.next {w wr : World} {s : Grain.Sm} (I : OfInv w wr s) (t v : Value) : ∃ V, V = wr.alloc (.cells #[t, v] 34) ∧ OfInv w V s ∧ V.heap[wr.heap.size]? = some (.cells #[t, v] 34 (0, 0)) ∧ w.heap.size + 2 ≤ wr.heap.size ∧ V.heap.size = wr.heap.size + 1 := by
 have h2 := lt_of_block I.cur
 have h1 := lt_of_block I.res
 refine ⟨_, rfl, ⟨?_, ?_, I.bel.alloc (by omega) _⟩, heap_alloc_new wr _, by omega, by simp⟩
 ·show (wr.alloc _).heap[_]? = _
  rw [Below.heap_alloc _ _ _ h1]; exact I.res
 ·show (wr.alloc _).heap[_]? = _
  rw [Below.heap_alloc _ _ _ h2]; exact I.cur
theorem OfInv.call {w V w' : World} {s : Grain.Sm} (I : OfInv w V s) (hb : Below V.heap.size V w') : OfInv w w' s :=
 ⟨I.res.below hb, I.cur.below hb, I.bel.trans (hb.mono I.bel.size)⟩
theorem OfInv.store {w V : World} {s : Grain.Sm} (I : OfInv w V s) (J : Grain.Sm) : OfInv w (((((((V.setCell ⟨w.heap.size + 1, 0, none⟩ (.int .i64 J.c)).setCell ⟨w.heap.size + 1, 1, none⟩ (.int .i64 J.t)).setCell ⟨w.heap.size + 1, 2, none⟩ (.int .i64 J.mn)).setCell ⟨w.heap.size + 1, 3, none⟩ (.int .i64 J.mx)).setCell ⟨w.heap.size + 1, 4, none⟩ (.int .i64 J.f)).setCell ⟨w.heap.size + 1, 5, none⟩ (.int .i64 J.l)).setCell ⟨w.heap.size + 1, 6, none⟩ (.int .i64 J.r)) J :=
 ⟨I.res.far (by omega) _ _ _ _ _ _ _, I.cur.set J, below_set7 I.bel (by omega) _ _ _ _ _ _ _⟩
set_option maxHeartbeats 2000000 in
theorem of_any (l : List (Int × Int)) (ao : Option Addr) (cap : Nat) (w : World) (hs : Seg w ao (scells l)) (hL : l.length ≤ 1152921504606846975) :
  Calls Tryz.prog 31 #[.slice ao l.length cap] w fun e w' => e = .returned (sv (Grain.of l)) ∧ Below w.heap.size w w' := by
 go_enter Tryz.func31, Tryz.ntmps31
 go_wp2
 go_loopw [8] (fun i wr => ∃ (k : Nat) (s : Grain.Sm), k ≤ l.length ∧ i = .int .i64 k ∧ Hid (s = Grain.ofN l k) ∧ OfInv w wr s) (fun i _ => l.length - (intOf i).toNat)
 case atStart => exact ⟨0, _, Nat.zero_le _, rfl, rfl, OfInv.start w⟩
 case round =>
  obtain ⟨k, s, hk, rfl, HS, I⟩ := hrel
  by_cases hlt : k < l.length
  ·obtain ⟨b, off, rfl, hcell⟩ := hs.sample hlt
   have hb : b < w.heap.size := World.block_lt_of_cell? w ⟨b, off + k * 2, none⟩ (hcell k hlt).1
   have c0 : wr.cell? ⟨b, off + k * 2, none⟩ = some (.int .i64 (Grain.tm l k)) := (I.bel.cell (by exact hb)).trans (hcell k hlt).1
   have c1 : wr.cell? ⟨b, off + k * 2 + 1, none⟩ = some (.int .i64 (Grain.vl l k)) := (I.bel.cell (by exact hb)).trans (hcell k hlt).2
   obtain ⟨V, hV, I1, G, hsz, hVs⟩ := I.next (.int .i64 (Grain.tm l k)) (.int .i64 (Grain.vl l k))
   have HV := hide hV
   have HVs := hide hVs
   have HG := hide G
   clear hV I hVs G
   go_wp2_with fail
   rw [← HV.out]
   obtain ⟨v, hv⟩ : ∃ v : Int, v = Grain.vl l k := ⟨_, rfl⟩
   have Hv := hide hv
   have x1 : V.cell? ⟨wr.heap.size, 1, none⟩ = some (.int .i64 v) := by rw [hv]; exact (two_cells HG.out).2.1
   obtain ⟨s0, s1, s2, s3, s4, s5, s6⟩ := I1.cur.cells
   clear hv c0 c1
   have hX : Hid (∀ w' : World, Below V.heap.size V w' → w'.cell? ⟨wr.heap.size, 1, none⟩ = some (.int .i64 v)) := by
    intro w' hb'
    have := HVs.out
    exact (hb'.cell (p := ⟨wr.heap.size, 1, none⟩) (by simp; omega)).trans x1
   go_region_with
    (first
     | (go_at_call 56; refine (one_any _ _).mono ?_; rintro e w1 ⟨rfl, hb1⟩; have hb1' : Below V.heap.size V w1 := (below_drewN (Below.refl _ V) 1).trans hb1; have I2 := I1.call hb1'; obtain ⟨p0, p1, p2, p3, p4, p5, p6⟩ := I2.cur.cells)
     | (go_at_call 55; refine (join_let s (Grain.one v) _).mono ?_; rintro e w2 ⟨J, HJ, rfl, hb2⟩; have hb2' : Below V.heap.size V w2 := hb1'.trans (hb2.mono hb1'.size); have I3 := I1.call hb2'; obtain ⟨q0, q1, q2, q3, q4, q5, q6⟩ := I3.cur.cells; obtain ⟨r0, r1, r2, r3, r4, r5, r6⟩ := seven_thaw I3.cur)) 
   all_goals
    have I4 := I3.store J
    have HK : Hid (J = Grain.ofN l (k + 1)) := by
     show J = Grain.ofN l (k + 1)
     rw [HJ.out, HS.out, Hv.out]; rfl
    clear HJ HS Hv hX s0 s1 s2 s3 s4 s5 s6 p0 p1 p2 p3 p4 p5 p6 q0 q1 q2 q3 q4 q5 q6 r0 r1 r2 r3 r4 r5 r6 x1 hb1 hb1' hb2 hb2' I1 I2 I3
    go_wp2
    go_roundw
    case rel => exact ⟨k + 1, J, by omega, by go_num, HK, I4⟩
    case measure => simp [intOf]; omega
  ·have he : k = l.length := by omega
   subst he
   obtain ⟨s0, s1, s2, s3, s4, s5, s6⟩ := I.cur.cells
   obtain ⟨z0, z1, z2, z3, z4, z5, z6⟩ := seven_cells I.res
   obtain ⟨r0, r1, r2, r3, r4, r5, r6⟩ := seven_thaw I.res
   go_wp2
   exact bodyPost_ret (v := sv s) (by simp [results, Tryz.results31, go_sem, sv, z0, z1, z2, z3, z4, z5, z6]) rfl ⟨by rw [HS.out]; rfl, below_set7 I.bel (Nat.le_refl _) _ _ _ _ _ _ _⟩
theorem of_len (l : List (Int × Int)) (ao : Option Addr) (N cap : Nat) (w : World) (hs : Seg w ao (scells l)) (hN : N = l.length) (hL : N ≤ 1152921504606846975) :
  Calls Tryz.prog 31 #[.slice ao N cap] w fun e w' => ∃ J : Grain.Sm, Hid (J = Grain.of l) ∧ e = .returned (.agg #[.int .i64 J.c, .int .i64 J.t, .int .i64 J.mn, .int .i64 J.mx, .int .i64 J.f, .int .i64 J.l, .int .i64 J.r]) ∧ Below w.heap.size w w' := by
 subst hN
 exact (of_any l ao cap w hs hL).mono fun _ _ h => ⟨_, rfl, h.1, h.2⟩
end Go.Proofs.YtoldmigappbjcaaGreatDoor
