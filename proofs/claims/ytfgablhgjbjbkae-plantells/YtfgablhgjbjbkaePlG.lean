/-
  The walks of plan's within and its closures, over buckets.
-/
import Derived.Test.YtfgablhgjbjbkaePlF
import Derived.Test.YtfgablhgjbjbkaeRollU
import Derived.Test.YtfgablhgjbjbkaeShM
namespace Go.Proofs.Ytfgablhgjbjbkae
open Go.RowKit Go.GrainU

theorem krt_any (T : Grain.Bk) (w : World) : Calls Try.prog 123 #[.agg #[.int .i64 T.a, .int .i64 T.s.c, .int .i64 T.s.t, .int .i64 T.s.mn, .int .i64 T.s.mx, .int .i64 T.s.f, .int .i64 T.s.l, .int .i64 T.s.r]] w fun e w' => e = .returned (.int .i64 T.a) ∧ Below w.heap.size w w' := by
  have bel : Below w.heap.size w (w.alloc (.cells #[.int .i64 T.a, .int .i64 T.s.c, .int .i64 T.s.t, .int .i64 T.s.mn, .int .i64 T.s.mx, .int .i64 T.s.f, .int .i64 T.s.l, .int .i64 T.s.r] 90)) := (Below.refl _ _).alloc (Nat.le_refl _) _
  go_enter Try.func123, Try.ntmps123
  go_wp2
  go_ret
  exact ⟨rfl, bel⟩

set_option maxHeartbeats 2000000 in
theorem kf1_any (l : List Grain.Bk) (ao : Option Addr) (n c Bt Bl Bp i : Nat) (f : Int) (w : World) (hs : Seg w ao (kcells l)) (hn : n = l.length) (hi : i < n)
    (ht : w.cell? ⟨Bt, 0, none⟩ = some (.func (.func 123) #[] #[])) (hl : w.cell? ⟨Bl, 0, none⟩ = some (.slice ao n c)) (hf : w.cell? ⟨Bp, 1, none⟩ = some (.int .i64 f)) :
    Calls Try.prog 143 #[.int .i64 i, .pointer (some ⟨Bt, 0, none⟩), .pointer (some ⟨Bl, 0, none⟩), .pointer (some ⟨Bp, 0, none⟩)] w fun e w' => e = .returned (.bool (decide (f ≤ (Grain.bk l i).a))) ∧ Below w.heap.size w w' := by
  have hil : i < l.length := by omega
  obtain ⟨b, off, rfl, _, hcell⟩ := seg_bucket hs hil
  obtain ⟨T, hT⟩ : ∃ T, T = Grain.bk l i := ⟨_, rfl⟩
  have q := hcell i hil
  rw [← hT] at q ⊢
  obtain ⟨c0, c1, c2, c3, c4, c5, c6, c7⟩ := q
  have R1 : Below w.heap.size w w.drew := below_drewN (Below.refl _ _) 1
  have HS : Hid (∀ w', Below w.heap.size w w' → w'.cell? ⟨Bt, 0, none⟩ = some (.func (.func 123) #[] #[]) ∧ w'.cell? ⟨Bl, 0, none⟩ = some (.slice (some ⟨b, off, none⟩) n c) ∧ w'.cell? ⟨Bp, 1, none⟩ = some (.int .i64 f) ∧ w'.cell? ⟨b, off + i * 8, none⟩ = some (.int .i64 T.a) ∧ w'.cell? ⟨b, off + i * 8 + 1, none⟩ = some (.int .i64 T.s.c) ∧ w'.cell? ⟨b, off + i * 8 + 2, none⟩ = some (.int .i64 T.s.t) ∧ w'.cell? ⟨b, off + i * 8 + 3, none⟩ = some (.int .i64 T.s.mn) ∧ w'.cell? ⟨b, off + i * 8 + 4, none⟩ = some (.int .i64 T.s.mx) ∧ w'.cell? ⟨b, off + i * 8 + 5, none⟩ = some (.int .i64 T.s.f) ∧ w'.cell? ⟨b, off + i * 8 + 6, none⟩ = some (.int .i64 T.s.l) ∧ w'.cell? ⟨b, off + i * 8 + 7, none⟩ = some (.int .i64 T.s.r)) :=
    fun w' hb => ⟨(hb.cell (by exact World.block_lt_of_cell? _ _ ht)).trans ht, (hb.cell (by exact World.block_lt_of_cell? _ _ hl)).trans hl, (hb.cell (by exact World.block_lt_of_cell? _ _ hf)).trans hf, (hb.cell (by exact World.block_lt_of_cell? _ _ c0)).trans c0, (hb.cell (by exact World.block_lt_of_cell? _ _ c1)).trans c1, (hb.cell (by exact World.block_lt_of_cell? _ _ c2)).trans c2, (hb.cell (by exact World.block_lt_of_cell? _ _ c3)).trans c3, (hb.cell (by exact World.block_lt_of_cell? _ _ c4)).trans c4, (hb.cell (by exact World.block_lt_of_cell? _ _ c5)).trans c5, (hb.cell (by exact World.block_lt_of_cell? _ _ c6)).trans c6, (hb.cell (by exact World.block_lt_of_cell? _ _ c7)).trans c7⟩
  clear hcell hT hs hn hil c0 c1 c2 c3 c4 c5 c6 c7 ht hl hf
  go_enter Try.func143, Try.ntmps143
  go_wp2
  go_region_held3 (fun w' => w'.cell? ⟨Bt, 0, none⟩ = some (.func (.func 123) #[] #[]) ∧ w'.cell? ⟨Bl, 0, none⟩ = some (.slice (some ⟨b, off, none⟩) n c) ∧ w'.cell? ⟨Bp, 1, none⟩ = some (.int .i64 f) ∧ w'.cell? ⟨b, off + i * 8, none⟩ = some (.int .i64 T.a) ∧ w'.cell? ⟨b, off + i * 8 + 1, none⟩ = some (.int .i64 T.s.c) ∧ w'.cell? ⟨b, off + i * 8 + 2, none⟩ = some (.int .i64 T.s.t) ∧ w'.cell? ⟨b, off + i * 8 + 3, none⟩ = some (.int .i64 T.s.mn) ∧ w'.cell? ⟨b, off + i * 8 + 4, none⟩ = some (.int .i64 T.s.mx) ∧ w'.cell? ⟨b, off + i * 8 + 5, none⟩ = some (.int .i64 T.s.f) ∧ w'.cell? ⟨b, off + i * 8 + 6, none⟩ = some (.int .i64 T.s.l) ∧ w'.cell? ⟨b, off + i * 8 + 7, none⟩ = some (.int .i64 T.s.r)) (exact HS.out _ (by assumption))
    (first | (go_at_call 123; refine (krt_any T _).mono ?_; rintro e w1 ⟨rfl, hb1⟩; have R2 := below_pl hb1 (by assumption)))
  all_goals
    go_wp2
    go_ret
    exact ⟨rfl, R2⟩

set_option maxHeartbeats 2000000 in
theorem kf2_any (l : List Grain.Bk) (ao : Option Addr) (n c Bt Bl Bp i : Nat) (f : Int) (w : World) (hs : Seg w ao (kcells l)) (hn : n = l.length) (hi : i < n)
    (ht : w.cell? ⟨Bt, 0, none⟩ = some (.func (.func 123) #[] #[])) (hl : w.cell? ⟨Bl, 0, none⟩ = some (.slice ao n c)) (hf : w.cell? ⟨Bp, 2, none⟩ = some (.int .i64 f)) :
    Calls Try.prog 144 #[.int .i64 i, .pointer (some ⟨Bt, 0, none⟩), .pointer (some ⟨Bl, 0, none⟩), .pointer (some ⟨Bp, 0, none⟩)] w fun e w' => e = .returned (.bool (decide (f ≤ (Grain.bk l i).a))) ∧ Below w.heap.size w w' := by
  have hil : i < l.length := by omega
  obtain ⟨b, off, rfl, _, hcell⟩ := seg_bucket hs hil
  obtain ⟨T, hT⟩ : ∃ T, T = Grain.bk l i := ⟨_, rfl⟩
  have q := hcell i hil
  rw [← hT] at q ⊢
  obtain ⟨c0, c1, c2, c3, c4, c5, c6, c7⟩ := q
  have R1 : Below w.heap.size w w.drew := below_drewN (Below.refl _ _) 1
  have HS : Hid (∀ w', Below w.heap.size w w' → w'.cell? ⟨Bt, 0, none⟩ = some (.func (.func 123) #[] #[]) ∧ w'.cell? ⟨Bl, 0, none⟩ = some (.slice (some ⟨b, off, none⟩) n c) ∧ w'.cell? ⟨Bp, 2, none⟩ = some (.int .i64 f) ∧ w'.cell? ⟨b, off + i * 8, none⟩ = some (.int .i64 T.a) ∧ w'.cell? ⟨b, off + i * 8 + 1, none⟩ = some (.int .i64 T.s.c) ∧ w'.cell? ⟨b, off + i * 8 + 2, none⟩ = some (.int .i64 T.s.t) ∧ w'.cell? ⟨b, off + i * 8 + 3, none⟩ = some (.int .i64 T.s.mn) ∧ w'.cell? ⟨b, off + i * 8 + 4, none⟩ = some (.int .i64 T.s.mx) ∧ w'.cell? ⟨b, off + i * 8 + 5, none⟩ = some (.int .i64 T.s.f) ∧ w'.cell? ⟨b, off + i * 8 + 6, none⟩ = some (.int .i64 T.s.l) ∧ w'.cell? ⟨b, off + i * 8 + 7, none⟩ = some (.int .i64 T.s.r)) :=
    fun w' hb => ⟨(hb.cell (by exact World.block_lt_of_cell? _ _ ht)).trans ht, (hb.cell (by exact World.block_lt_of_cell? _ _ hl)).trans hl, (hb.cell (by exact World.block_lt_of_cell? _ _ hf)).trans hf, (hb.cell (by exact World.block_lt_of_cell? _ _ c0)).trans c0, (hb.cell (by exact World.block_lt_of_cell? _ _ c1)).trans c1, (hb.cell (by exact World.block_lt_of_cell? _ _ c2)).trans c2, (hb.cell (by exact World.block_lt_of_cell? _ _ c3)).trans c3, (hb.cell (by exact World.block_lt_of_cell? _ _ c4)).trans c4, (hb.cell (by exact World.block_lt_of_cell? _ _ c5)).trans c5, (hb.cell (by exact World.block_lt_of_cell? _ _ c6)).trans c6, (hb.cell (by exact World.block_lt_of_cell? _ _ c7)).trans c7⟩
  clear hcell hT hs hn hil c0 c1 c2 c3 c4 c5 c6 c7 ht hl hf
  go_enter Try.func144, Try.ntmps144
  go_wp2
  go_region_held3 (fun w' => w'.cell? ⟨Bt, 0, none⟩ = some (.func (.func 123) #[] #[]) ∧ w'.cell? ⟨Bl, 0, none⟩ = some (.slice (some ⟨b, off, none⟩) n c) ∧ w'.cell? ⟨Bp, 2, none⟩ = some (.int .i64 f) ∧ w'.cell? ⟨b, off + i * 8, none⟩ = some (.int .i64 T.a) ∧ w'.cell? ⟨b, off + i * 8 + 1, none⟩ = some (.int .i64 T.s.c) ∧ w'.cell? ⟨b, off + i * 8 + 2, none⟩ = some (.int .i64 T.s.t) ∧ w'.cell? ⟨b, off + i * 8 + 3, none⟩ = some (.int .i64 T.s.mn) ∧ w'.cell? ⟨b, off + i * 8 + 4, none⟩ = some (.int .i64 T.s.mx) ∧ w'.cell? ⟨b, off + i * 8 + 5, none⟩ = some (.int .i64 T.s.f) ∧ w'.cell? ⟨b, off + i * 8 + 6, none⟩ = some (.int .i64 T.s.l) ∧ w'.cell? ⟨b, off + i * 8 + 7, none⟩ = some (.int .i64 T.s.r)) (exact HS.out _ (by assumption))
    (first | (go_at_call 123; refine (krt_any T _).mono ?_; rintro e w1 ⟨rfl, hb1⟩; have R2 := below_pl hb1 (by assumption)))
  all_goals
    go_wp2
    go_ret
    exact ⟨rfl, R2⟩

/-- where a time comes, among rising ones -/
theorem krise_mono {l : List Grain.Bk} (h : l.Pairwise (fun x y => x.a < y.a)) (f : Int) : ∀ a b, a ≤ b → b < l.length → decide (f ≤ (Grain.bk l a).a) = true → decide (f ≤ (Grain.bk l b).a) = true := by
  intro a b hab hb ha
  rcases Nat.lt_or_ge a b with hl | hl
  · have := List.pairwise_iff_getElem.1 h a b (by omega) hb hl
    simp [Grain.bk, List.getD, List.getElem?_eq_getElem hb, List.getElem?_eq_getElem (show a < l.length by omega)] at ha ⊢
    omega
  · obtain rfl : a = b := by omega
    exact ha

set_option maxHeartbeats 2000000 in
theorem kwithin_any (l : List Grain.Bk) (ao : Option Addr) (n c : Nat) (p : Grain.Pt) (w : World) (hs : Seg w ao (kcells l)) (hn : n = l.length) (hc : n ≤ c) (hL : n ≤ 1000000) (hpw : l.Pairwise (fun x y => x.a < y.a)) (hft : p.f ≤ p.t) :
    Calls Try.prog 122 #[.slice ao n c, .agg #[.int .i64 p.k, .int .i64 p.f, .int .i64 p.t], .func (.func 123) #[] #[]] w fun e w' => ∃ (bo : Option Addr) (m d : Nat), e = .returned (.slice bo m d) ∧ Seg w bo (kcells (Grain.winB l p.f p.t)) ∧ Hid (m = (Grain.winB l p.f p.t).length) ∧ Below w.heap.size w w' := by
  obtain ⟨k, f, t⟩ := p
  simp only at hft
  obtain ⟨X, hX⟩ : ∃ X, X = w.heap.size := ⟨_, rfl⟩
  obtain ⟨V, hV⟩ : ∃ V, V = ((w.alloc (.cells #[.slice ao n c] 42)).alloc (.cells #[.int .i64 k, .int .i64 f, .int .i64 t] 112)).alloc (.cells #[.func (.func 123) #[] #[]] 161) := ⟨_, rfl⟩
  have bel : Below w.heap.size w V := by rw [hV]; exact (((Below.refl _ _).alloc (Nat.le_refl _) _).alloc (by simp) _).alloc (by simp; omega) _
  have B0 : V.heap[X]? = some (.cells #[.slice ao n c] 42 (0, 0)) := by
    rw [hV, hX, Below.heap_alloc _ _ _ (by simp; omega), Below.heap_alloc _ _ _ (by simp)]; exact heap_alloc_new w _
  have B1 : V.heap[X + 1]? = some (.cells #[.int .i64 k, .int .i64 f, .int .i64 t] 112 (0, 0)) := by
    rw [hV, hX, Below.heap_alloc _ _ _ (by simp)]; have := heap_alloc_new (w.alloc (.cells #[.slice ao n c] 42)) (.cells #[.int .i64 k, .int .i64 f, .int .i64 t] 112); rwa [World.size_alloc] at this
  have B2 : V.heap[X + 2]? = some (.cells #[.func (.func 123) #[] #[]] 161 (0, 0)) := by
    rw [hV, hX]; have := heap_alloc_new ((w.alloc (.cells #[.slice ao n c] 42)).alloc (.cells #[.int .i64 k, .int .i64 f, .int .i64 t] 112)) (.cells #[.func (.func 123) #[] #[]] 161); rwa [World.size_alloc, World.size_alloc] at this
  have cL : V.cell? ⟨X, 0, none⟩ = some (.slice ao n c) := by rw [cell_of_row V X _ _ _ (0, 0) B0]; rfl
  have cT : V.cell? ⟨X + 2, 0, none⟩ = some (.func (.func 123) #[] #[]) := by rw [cell_of_row V (X + 2) _ _ _ (0, 0) B2]; rfl
  obtain ⟨p0, p1, p2⟩ := three3 B1
  have lX := lt_of_block B0
  have lX1 := lt_of_block B1
  have lX2 := lt_of_block B2
  have hsV := hs.below bel
  have hE1 := hide (enters (P := Try.prog) (f := 143) Try.func143 (by kernel_rfl) (by kernel_rfl))
  have hE2 := hide (enters (P := Try.prog) (f := 144) Try.func144 (by kernel_rfl) (by kernel_rfl))
  have HA : Hid (∀ W, Below V.heap.size V W → Calls Try.prog 125 #[.int .i64 n, .func (.func 143) #[] #[.pointer (some ⟨X + 2, 0, none⟩), .pointer (some ⟨X, 0, none⟩), .pointer (some ⟨X + 1, 0, none⟩)]] W fun e w' => ∃ r : Nat, r ≤ n ∧ Hid ((∀ t, t < r → decide (f ≤ (Grain.bk l t).a) = false) ∧ ∀ t, r ≤ t → t < n → decide (f ≤ (Grain.bk l t).a) = true) ∧ e = .returned (.int .i64 r) ∧ Below W.heap.size W w') := by
    intro W hb
    refine search_any (fun i => decide (f ≤ (Grain.bk l i).a)) _ _ n W hL hE1 (fun W' i hi hb' => ?_) (fun a b h1 h2 => krise_mono hpw f a b h1 (by omega))
    have hbb := below_pl hb' hb
    exact kf1_any l ao n c (X + 2) X (X + 1) i f W' (hsV.below hbb) hn hi ((hbb.cell (by exact lX2)).trans cT) ((hbb.cell (by exact lX)).trans cL) ((hbb.cell (by exact lX1)).trans p1)
  have HB : Hid (∀ W, Below V.heap.size V W → Calls Try.prog 125 #[.int .i64 n, .func (.func 144) #[] #[.pointer (some ⟨X + 2, 0, none⟩), .pointer (some ⟨X, 0, none⟩), .pointer (some ⟨X + 1, 0, none⟩)]] W fun e w' => ∃ r : Nat, r ≤ n ∧ Hid ((∀ i, i < r → decide (t ≤ (Grain.bk l i).a) = false) ∧ ∀ i, r ≤ i → i < n → decide (t ≤ (Grain.bk l i).a) = true) ∧ e = .returned (.int .i64 r) ∧ Below W.heap.size W w') := by
    intro W hb
    refine search_any (fun i => decide (t ≤ (Grain.bk l i).a)) _ _ n W hL hE2 (fun W' i hi hb' => ?_) (fun a b h1 h2 => krise_mono hpw t a b h1 (by omega))
    have hbb := below_pl hb' hb
    exact kf2_any l ao n c (X + 2) X (X + 1) i t W' (hsV.below hbb) hn hi ((hbb.cell (by exact lX2)).trans cT) ((hbb.cell (by exact lX)).trans cL) ((hbb.cell (by exact lX1)).trans p2)
  have HN := hide hn
  have HV := hide hV
  have HX := hide hX
  have HS := hide hs
  have HPW := hide hpw
  have HFT := hide hft
  have hXV : X ≤ V.heap.size := by omega
  clear hn hV hX hs hsV hE1 hE2 B0 B1 B2 hpw p0 p1 p2 lX1 lX2 hft
  go_enter Try.func122, Try.ntmps122
  go_wp2_with fail
  rw [← HV.out, ← HX.out]
  refine (HA.out V (Below.refl _ _)).mono ?_
  rintro e w1 ⟨r1, hr1, I1, rfl, hb1⟩
  have cL1 := (hb1.cell (p := ⟨X, 0, none⟩) (by exact lX)).trans cL
  clear HA
  go_wp2_with fail
  refine (HB.out w1 hb1).mono ?_
  rintro e w2 ⟨r2, hr2, I2, rfl, hb2⟩
  have bel2 : Below V.heap.size V w2 := below_pl hb2 hb1
  have cL2 := (bel2.cell (p := ⟨X, 0, none⟩) (by exact lX)).trans cL
  have C := Grain.cut_filter (fun x : Grain.Bk => x.a) (l := l) (f := f) (t := t) (a := r1) (b := r2) (by rw [← HN.out]; exact hr1) (by rw [← HN.out]; exact hr2) (fun i hi => ?c1) (fun i hi => ?c2) HFT.out
  case c1 =>
    have e : (Grain.bk l i).a = l[i].a := by simp [Grain.bk, List.getD, List.getElem?_eq_getElem hi]
    rw [← e]
    constructor
    · intro h
      rcases Nat.lt_or_ge i r1 with h' | h'
      · exact h'
      · have := I1.out.2 i h' (by rw [HN.out]; exact hi)
        simp at this; omega
    · intro h
      have := I1.out.1 i h
      simp at this; omega
  case c2 =>
    have e : (Grain.bk l i).a = l[i].a := by simp [Grain.bk, List.getD, List.getElem?_eq_getElem hi]
    rw [← e]
    constructor
    · intro h
      rcases Nat.lt_or_ge i r2 with h' | h'
      · exact h'
      · have := I2.out.2 i h' (by rw [HN.out]; exact hi)
        simp at this; omega
    · intro h
      have := I2.out.1 i h
      simp at this; omega
  obtain ⟨h12, hcut⟩ := C
  obtain ⟨so, hso⟩ : ∃ so, so = cutP ao c r1 8 := ⟨_, rfl⟩
  obtain ⟨sl, hsl⟩ : ∃ sl, sl = r2 - r1 := ⟨_, rfl⟩
  obtain ⟨sd, hsd⟩ : ∃ sd, sd = c - r1 := ⟨_, rfl⟩
  have hseg : Seg w so (kcells (Grain.winB l f t)) := by
    rw [hso, show Grain.winB l f t = (l.take r2).drop r1 from hcut.symm, ← kcells_td]
    exact seg_cutP (n := n) HS.out (by rw [kcells_length, HN.out]) hc h12 (by omega)
  have hlen : sl = (Grain.winB l f t).length := by
    rw [hsl, show Grain.winB l f t = (l.take r2).drop r1 from hcut.symm, List.length_drop, List.length_take, ← HN.out]; omega
  have hsl1 : ∀ w, Sem.run Try.prog (Instr.slice 42 (.slice ao n c) (some (.int .i64 r1)) (some (.int .i64 r2)) none) w = .ok (.slice so sl sd) w := by
    intro w
    rw [run_slice_lh (P := Try.prog) (t := 42) (ht := by kernel_rfl) (a := ao) (len := n) (cap := c) (kl := .i64) (kh := .i64) (l := (r1 : Int)) (h := (r2 : Int)) (h0 := by omega) (h1 := by omega) (h2 := by omega)]
    rw [hso, hsl, hsd]
    simp [sliced, cutP, go_sem]
  have hsl2 : ∀ w, Sem.run Try.prog (Instr.sliceAt 42 (.slice ao n c) (some (.int .i64 r1)) (some (.int .i64 r2)) none) w = .ok (.slice so sl sd) w := by
    intro w
    rw [run_sliceAt_slice (P := Try.prog) (t := 42) (h := by kernel_rfl)]
    exact hsl1 w
  have HG := hide hseg
  have HLn := hide hlen
  clear hso hsl hsd hcut hseg hlen I1 I2 HS HPW
  go_wp2
  go_ret
  exact ⟨so, sl, sd, rfl, HG.out, HLn, by first | exact bel.trans (bel2.mono bel.size) | (rw [← HX.out]; exact bel.trans (bel2.mono hXV))⟩

end Go.Proofs.Ytfgablhgjbjbkae
