/-
  The walk of play: acts, one by one.
-/
import Derived.Test.YtcgcefnfelmmkaaShP
namespace Go.GrainU
open Go.RowKit

theorem five_cells {w : World} {B : Nat} {v0 v1 v2 v3 v4 : Value} {t : TypeId} (h : w.heap[B]? = some (.cells #[v0, v1, v2, v3, v4] t (0, 0))) :
    w.cell? ⟨B, 0, none⟩ = some v0 ∧ w.cell? ⟨B, 1, none⟩ = some v1 ∧ w.cell? ⟨B, 2, none⟩ = some v2 ∧ w.cell? ⟨B, 3, none⟩ = some v3 ∧ w.cell? ⟨B, 4, none⟩ = some v4 := by
  simp [World.cell?, h]

end Go.GrainU
namespace Go.Proofs.Ytcgcefnfelmmkaa
open Go.RowKit Go.GrainU

theorem ShO.set9 {base : Nat} {w : World} {y : ShT} (h : ShO base w y) {B : Nat} (hB : B < base) (v0 v1 v2 v3 v4 v5 v6 v7 v8 : Value) : ShO base (Set9 w B v0 v1 v2 v3 v4 v5 v6 v7 v8) y :=
  ⟨own_set9 h.o0 hB _ _ _ _ _ _ _ _ _, own_set9 h.o1 hB _ _ _ _ _ _ _ _ _, own_set9 h.o2 hB _ _ _ _ _ _ _ _ _, own_set9 h.o3 hB _ _ _ _ _ _ _ _ _, h.ne, h.fits, h.n0, h.n1, h.n2, h.n3⟩

theorem ShO.grown {base : Nat} {w w' : World} {y : ShT} {r : Option Nat} (h : ShO base w y) (hg : w.grownBy w' r) (hr : ∀ g, r = some g → g < base) : ShO base w' y :=
  ⟨own_keep h.o0 hg (fun k hk e => by have := (h.o0.lt k hk).1; have := hr k e; omega), own_keep h.o1 hg (fun k hk e => by have := (h.o1.lt k hk).1; have := hr k e; omega),
   own_keep h.o2 hg (fun k hk e => by have := (h.o2.lt k hk).1; have := hr k e; omega), own_keep h.o3 hg (fun k hk e => by have := (h.o3.lt k hk).1; have := hr k e; omega), h.ne, h.fits, h.n0, h.n1, h.n2, h.n3⟩

theorem own_at2 {w : World} {base e size n c : Nat} {ao : Option Addr} {xs : List Value} (h : w.ownsRow base e size (.slice ao n c) n xs) {b off : Nat} (ha : ao = some ⟨b, off, none⟩) : base ≤ b ∧ b < w.heap.size := by
  subst ha
  rcases h.2 with ⟨h2, _⟩ | ⟨g, cap, cur, hv, hg, hh, _⟩
  · simp at h2
  · simp at hv
    obtain ⟨⟨rfl, _⟩, _⟩ := hv
    exact ⟨hg, lt_of_block hh⟩

theorem ShO.off2 {base : Nat} {w : World} {y : ShT} (h : ShO base w y) {r : Option Nat} (hr : ∀ g, r = some g → g < base ∨ w.heap.size ≤ g) : Off9 r y := by
  intro b off ha e
  have hb := hr b e
  rcases ha with ha | ha | ha | ha
  · have := own_at2 h.o0 ha; omega
  · have := own_at2 h.o1 ha; omega
  · have := own_at2 h.o2 ha; omega
  · have := own_at2 h.o3 ha; omega

theorem PI.grown {w wr w' : World} {X S b0 : Nat} {y : ShT} {ro : Option Addr} {N c : Nat} {A : List (Int × Int)} (h : PI w wr X S b0 y ro N c A) (gr : wr.grownBy w' (Value.slice ro N c).ownBlock) :
    w'.heap[S]? = some (so y) ∧ w'.heap[X]? = some (so szT) ∧ Below w.heap.size w w' := by
  refine ⟨?_, ?_, h.bel.grown gr h.bel.size (fun j hj => ?_)⟩
  · rw [gr.block S (lt_of_block h.s) (fun e => own_far h.row h.s (by decide) e.symm)]; exact h.s
  · rw [gr.block X (lt_of_block h.x) (fun e => own_far h.row h.x (by decide) e.symm)]; exact h.x
  · have := (h.row.lt j hj).1
    have := h.sb
    have := h.sx
    have := h.xw
    omega

theorem kept_ab : wrongS [(⟨#[97]⟩, ⟨#[98]⟩)] = 0 := by decide +kernel

set_option maxRecDepth 100000 in
set_option maxHeartbeats 8000000 in
theorem splay_any (l : List Grain.Act) (ao : Option Addr) (n cap : Nat) (w : World) (hs : Seg w ao (acells l)) (hn : n = l.length) (hN : n ≤ 9223372036854775806) :
    Calls Try.prog 11 #[.slice ao n cap] w fun e w' => ∃ (y : ShT) (A : List (Int × Int)) (ro : Option Addr) (N c : Nat), e = .returned (.tuple #[y.v, .slice ro N c]) ∧ Grain.Keeps y.s A ∧ ShIn w' y ∧ Seg w' ro (scells A) ∧ N = A.length ∧ Below w.heap.size w w' := by
  obtain ⟨X, hX⟩ : ∃ X, X = w.heap.size := ⟨_, rfl⟩
  obtain ⟨V, hV⟩ : ∃ V, V = w.alloc (so szT) := ⟨_, rfl⟩
  obtain ⟨L, hL⟩ : ∃ L, L = V.alloc (.cells #[.string ⟨#[97]⟩, .string ⟨#[98]⟩] 71) := ⟨_, rfl⟩
  have hVs : V.heap.size = X + 1 := by rw [hV, hX]; simp
  have bel : Below w.heap.size w L := by rw [hL, hV]; exact ((Below.refl _ _).alloc (Nat.le_refl _) _).alloc (by simp) _
  have X0 : L.heap[X]? = some (so szT) := by rw [hL, Below.heap_alloc _ _ _ (by omega), hV, hX]; exact heap_alloc_new w _
  have sg : Seg L (some ⟨X + 1, 0, none⟩) (lcells [(⟨#[97]⟩, ⟨#[98]⟩)]) := by
    rw [hL, ← hVs]; exact seg_new V _ _
  have HL : Hid (L = (w.alloc (.cells #[.slice none 0 0, .slice none 0 0, .slice none 0 0, .slice none 0 0, .int .i64 0, .int .i64 0, .int .i64 0, .int .i64 0, .int .i64 0] 27)).alloc (.cells #[.string ⟨#[97]⟩, .string ⟨#[98]⟩] 71)) := by rw [hL, hV]; exact rfl
  have HX := hide hX
  have HN := hide hn
  clear hL hV hX hn hVs
  go_enter Try.func11, Try.ntmps11
  go_wp2_with fail
  rw [← HL.out, ← HX.out]
  refine (snew_any [(⟨#[97]⟩, ⟨#[98]⟩)] (some ⟨X + 1, 0, none⟩) 1 1 L sg rfl (fun k hk => by
    have hk0 : k = 0 := by simp at hk; omega
    subst hk0
    exact ⟨by decide, by decide⟩) (by decide) (fun h => by cases h)).mono ?_
  rintro e w1 ⟨ys, rfl, hys, iny, hb1⟩
  have bel1 : Below w.heap.size w w1 := bel.trans (hb1.mono bel.size)
  have X1 := below_block hb1 X0
  obtain ⟨S, hS⟩ : ∃ S, S = w1.heap.size := ⟨_, rfl⟩
  obtain ⟨W1, hW1⟩ : ∃ W, W = w1.alloc (so ys) := ⟨_, rfl⟩
  obtain ⟨b0, hb0⟩ : ∃ b, b = W1.heap.size := ⟨_, rfl⟩
  have hbs : W1.heap.size = S + 1 := by rw [hW1, hS]; simp
  have hbW : Below w1.heap.size w1 W1 := by rw [hW1]; exact (Below.refl _ _).alloc (Nat.le_refl _) _
  have ofx : Off9 (some X) ys := iny.off2 (fun g hg => by simp at hg; subst hg; left; exact lt_of_block X0)
  have pi0 : PI w W1 X S b0 ys none 0 0 [] := by
    refine ⟨by rw [hW1, hS]; exact heap_alloc_new w1 _, below_block hbW X1, iny.shIn.below hbW, World.ownsRow_nil _ _ _ _, fun b off _ h => by simp [Value.ownBlock] at h, ofx, bel1.trans (hbW.mono bel1.size), by rw [HX.out]; exact Nat.le_refl _, ?_, by omega, by omega⟩
    rw [hS]; exact lt_of_block X1
  have K0 : Hid (Grain.Keeps ys.s []) := by show Grain.Keeps _ _; rw [hys]; exact Grain.keeps_new kept_ab
  have HW1 : Hid (W1 = w1.alloc (.cells #[.slice ys.a0 ys.s.se.length ys.c0, .slice ys.a1 ys.s.ra.length ys.c1, .slice ys.a2 ys.s.fi.length ys.c2, .slice ys.a3 ys.s.co.length ys.c3, .int .i64 ys.s.rf, .int .i64 ys.s.ff, .int .i64 ys.s.ft, .int .i64 ys.s.cf, .int .i64 ys.s.ct] 27)) := hW1
  have HS := hide hS
  simp only [ShT.v]
  clear hW1 hS hb0 hbs hbW hb1 X0 X1 iny hys sg bel bel1 HL
  go_wp2_with fail
  rw [← HW1.out, ← HS.out]
  clear HW1
  go_loopw [5, 15] (fun all i wr => ∃ (k N c : Nat) (ro : Option Addr) (y : ShT) (A : List (Int × Int)), k ≤ n ∧ i = .int .i64 k ∧ all = .slice ro N c ∧ Hid (Grain.Keeps y.s A) ∧ PI w wr X S b0 y ro N c A) (fun _ i _ => n - (intOf i).toNat)
  case atStart => exact ⟨0, 0, 0, none, ys, [], Nat.zero_le _, rfl, rfl, K0, pi0⟩
  case round =>
    obtain ⟨k, N, c, ro, y, A, hk, rfl, rfl, HK, pi⟩ := hrel
    by_cases hlt : k < n
    · have hkl : k < l.length := by rw [← HN.out]; exact hlt
      obtain ⟨b, off, rfl, hbl, k0, k1, k2, k3, k4⟩ := seg_act hs hkl
      obtain ⟨⟨K, T, U, I, O⟩, ha⟩ : ∃ a, a = ac l k := ⟨_, rfl⟩
      rw [← ha] at k0 k1 k2 k3 k4
      simp only at k0 k1 k2 k3 k4
      have e0 := (pi.bel.cell (p := ⟨b, off + k * 5, none⟩) hbl).trans k0
      have e1 := (pi.bel.cell (p := ⟨b, off + k * 5 + 1, none⟩) hbl).trans k1
      have e2 := (pi.bel.cell (p := ⟨b, off + k * 5 + 2, none⟩) hbl).trans k2
      have e3 := (pi.bel.cell (p := ⟨b, off + k * 5 + 3, none⟩) hbl).trans k3
      have e4 := (pi.bel.cell (p := ⟨b, off + k * 5 + 4, none⟩) hbl).trans k4
      obtain ⟨s0, s1, s2, s3, s4, s5, s6, s7, s8⟩ := nine_cells pi.s
      have sl : S < wr.heap.size := lt_of_block pi.s
      obtain ⟨Y7, hY7⟩ : ∃ Y, Y = wr.heap.size := ⟨_, rfl⟩
      obtain ⟨Y8, hY8⟩ : ∃ Y, Y = wr.heap.size + 1 := ⟨_, rfl⟩
      obtain ⟨W7, hW7⟩ : ∃ W, W = wr.alloc (.cells #[.int .i64 K, .int .i64 T, .int .i64 U, .int .i64 I, .int .i64 O] 73) := ⟨_, rfl⟩
      obtain ⟨W8, hW8⟩ : ∃ W, W = W7.alloc (so y) := ⟨_, rfl⟩
      have h7s : W7.heap.size = Y8 := by rw [hW7, hY8]; simp
      have h8s : W8.heap.size = Y8 + 1 := by rw [hW8]; simp [h7s]
      have b8 : Below wr.heap.size wr W8 := by rw [hW8, hW7]; exact ((Below.refl _ _).alloc (Nat.le_refl _) _).alloc (by simp) _
      have pi8 := pi.call b8
      have F7 : W8.heap[Y7]? = some (.cells #[.int .i64 K, .int .i64 T, .int .i64 U, .int .i64 I, .int .i64 O] 73 (0, 0)) := by rw [hW8, Below.heap_alloc _ _ _ (by omega), hW7, hY7]; exact heap_alloc_new wr _
      have F8 : W8.heap[Y8]? = some (so y) := by rw [hW8, ← h7s]; exact heap_alloc_new W7 _
      have Hvy : Hid (y.v = .agg #[.slice y.a0 y.s.se.length y.c0, .slice y.a1 y.s.ra.length y.c1, .slice y.a2 y.s.fi.length y.c2, .slice y.a3 y.s.co.length y.c3, .int .i64 y.s.rf, .int .i64 y.s.ff, .int .i64 y.s.ft, .int .i64 y.s.cf, .int .i64 y.s.ct]) := rfl
      have HW8 : Hid (W8 = (wr.alloc (.cells #[.int .i64 K, .int .i64 T, .int .i64 U, .int .i64 I, .int .i64 O] 73)).alloc (.cells #[.slice y.a0 y.s.se.length y.c0, .slice y.a1 y.s.ra.length y.c1, .slice y.a2 y.s.fi.length y.c2, .slice y.a3 y.s.co.length y.c3, .int .i64 y.s.rf, .int .i64 y.s.ff, .int .i64 y.s.ft, .int .i64 y.s.cf, .int .i64 y.s.ct] 27)) := by rw [hW8, hW7]; exact rfl
      have HY7 := hide hY7
      have hY78 : Y7 < Y8 := by omega
      have hY8l : Y8 < W8.heap.size := by omega
      have hYw : wr.heap.size ≤ Y7 := by omega
      have HY8 : Hid (Y8 = wr.heap.size + 1) := hY8
      clear ha k0 k1 k2 k3 k4 hkl hW8 hW7 hY7 hY8 h7s h8s
      go_upto_region 7 with fail
      rw [← HW8.out]
      simp only [← HY8.out]
      simp only [← HY7.out]
      clear e0 e1 e2 e3 e4 s0 s1 s2 s3 s4 s5 s6 s7 s8 HW8 HY7 HY8
      by_cases c0 : K = 0
      · subst c0
        obtain ⟨a0, a1, a2, a3, a4⟩ := five_cells F7
        obtain ⟨s0, s1, s2, s3, s4, s5, s6, s7, s8⟩ := nine_cells pi8.s
        have kc := sapp_any y T U W8 pi8.inn
        rw [Hvy.out] at kc
        go_wp2_with fail
        refine kc.mono ?_
        rintro e w3 ⟨z, rfl, hz, oz, hb3⟩
        have HZ := hide hz
        obtain ⟨E, hE⟩ : ∃ E, E = (Grain.sapp y.s T U).2 := ⟨_, rfl⟩
        rw [← hE]
        have KK : Hid (E = 0 → Grain.Keeps z.s (A ++ [(T, U)])) := by
          intro h
          rw [HZ.out]
          exact Grain.keeps_app HK.out (hE.symm.trans h)
        have F7' := below_block hb3 F7
        have F8' := below_block hb3 F8
        have b3 : Below wr.heap.size wr w3 := b8.trans (hb3.mono b8.size)
        obtain ⟨W4, hW4⟩ : ∃ W, W = Set9 w3 Y8 (.slice z.a0 z.s.se.length z.c0) (.slice z.a1 z.s.ra.length z.c1) (.slice z.a2 z.s.fi.length z.c2) (.slice z.a3 z.s.co.length z.c3) (.int .i64 z.s.rf) (.int .i64 z.s.ff) (.int .i64 z.s.ft) (.int .i64 z.s.cf) (.int .i64 z.s.ct) := ⟨_, rfl⟩
        have b4 : Below wr.heap.size wr W4 := by rw [hW4]; exact below_set9 b3 (by omega) _ _ _ _ _ _ _ _ _
        have pi4 := pi.call b4
        have F8'' : W4.heap[Y8]? = some (so z) := by rw [hW4]; exact set9_here F8' z
        have F7'' : W4.heap[Y7]? = some (.cells #[.int .i64 0, .int .i64 T, .int .i64 U, .int .i64 I, .int .i64 O] 73 (0, 0)) := by rw [hW4, set9_far (by omega)]; exact F7'
        have zW4 : ShO W8.heap.size W4 z := by rw [hW4]; exact oz.set9 (by omega) _ _ _ _ _ _ _ _ _
        have HW4 : Hid (W4 = (((((((((w3.setCell ⟨Y8, 0, none⟩ (.slice z.a0 z.s.se.length z.c0)).setCell ⟨Y8, 1, none⟩ (.slice z.a1 z.s.ra.length z.c1)).setCell ⟨Y8, 2, none⟩ (.slice z.a2 z.s.fi.length z.c2)).setCell ⟨Y8, 3, none⟩ (.slice z.a3 z.s.co.length z.c3)).setCell ⟨Y8, 4, none⟩ (.int .i64 z.s.rf)).setCell ⟨Y8, 5, none⟩ (.int .i64 z.s.ff)).setCell ⟨Y8, 6, none⟩ (.int .i64 z.s.ft)).setCell ⟨Y8, 7, none⟩ (.int .i64 z.s.cf)).setCell ⟨Y8, 8, none⟩ (.int .i64 z.s.ct))) := hW4
        obtain ⟨y0, y1, y2, y3, y4, y5, y6, y7, y8⟩ := nine_cells F8'
        obtain ⟨g0, g1, g2, g3, g4, g5, g6, g7, g8⟩ := so_free F8'
        simp only [ShT.v]
        clear hE hz kc hW4 hb3 oz s0 s1 s2 s3 s4 s5 s6 s7 s8 a0 a1 a2 a3 a4
        go_upto_region 14 with fail
        rw [← HW4.out]
        clear HW4 y0 y1 y2 y3 y4 y5 y6 y7 y8 g0 g1 g2 g3 g4 g5 g6 g7 g8 F7' F8'
        obtain ⟨a0, a1, a2, a3, a4⟩ := five_cells F7''
        by_cases e0 : E = 0
        · have KZ := hide (KK.out e0)
          rw [e0]
          clear e0 KK
          obtain ⟨i0, hi, hz0, hz1, hz2⟩ := sinfo_parts Try.infoSmp
          have hlen : N ≤ 1000001 := by have h1 := HK.out.took.len; have h2 := own_slen pi4.row; omega
          have bs4 := pi4.bs
          go_wp2_with (at_builtin; refine wpList_append_lies _ rfl _ _ 24 rfl b0 29 i0 (.agg #[.int .i64 0, .int .i64 0]) 2 16 Try.underlying24 hi hz0 hz1 hz2 rfl (by decide) _ _ _ rfl (pi4.row.alloc _) ⟨W4.heap.size, 0, none⟩ 1 1 [.int .i64 T, .int .i64 U] rfl rfl (news_two rfl _ _ _) (by simp [Value.oneCell']) (by decide) (by unfold maxLen; omega) (by omega) (by simp; omega) (W4.heap.size + 1) (by simp) ?_)
          intro g' cp' w5 own5 gr5 hat5 hlt5
          have piA := pi4.call ((Below.refl W4.heap.size W4).alloc (Nat.le_refl _) (.cells #[.int .i64 T, .int .i64 U] 29))
          have zA := zW4.below ((Below.refl W4.heap.size W4).alloc (Nat.le_refl _) (.cells #[.int .i64 T, .int .i64 U] 29))
          have FA := below_block ((Below.refl W4.heap.size W4).alloc (Nat.le_refl _) (.cells #[.int .i64 T, .int .i64 U] 29)) F8''
          obtain ⟨t1, t2, t3⟩ := piA.grown gr5
          have t4 : w5.heap[Y8]? = some (so z) := by rw [gr5.block Y8 (lt_of_block FA) (fun e => own_far piA.row FA (by decide) e.symm)]; exact FA
          have zW5 : ShO W8.heap.size w5 z := zA.grown gr5 (fun g hg => Nat.lt_of_lt_of_le (pi.row.lt g hg).2 b8.size)
          have own6 : w5.ownsRow b0 29 2 (.slice (some ⟨g', 0, none⟩) (N + 1) cp') (N + 1) (scells (A ++ [(T, U)])) := by rw [scells_append]; exact own5
          have off6 : Off9 (Value.slice (some ⟨g', 0, none⟩) (N + 1) cp').ownBlock z := zW4.off2 (fun g hg => by
            simp [Value.ownBlock] at hg
            subst hg
            rcases hat5 with h | h
            · left; have := (pi.row.lt _ h).2; have := b8.size; omega
            · right; omega)
          have bs5 : b0 ≤ w5.heap.size := by have := gr5.size; simp at this; omega
          clear gr5 hat5 hlt5 own5 piA zA FA hi hz0 hz1 hz2
          obtain ⟨W6, hW6⟩ : ∃ W, W = Set9 w5 S (.slice z.a0 z.s.se.length z.c0) (.slice z.a1 z.s.ra.length z.c1) (.slice z.a2 z.s.fi.length z.c2) (.slice z.a3 z.s.co.length z.c3) (.int .i64 z.s.rf) (.int .i64 z.s.ff) (.int .i64 z.s.ft) (.int .i64 z.s.cf) (.int .i64 z.s.ct) := ⟨_, rfl⟩
          have pi6 : PI w W6 X S b0 z (some ⟨g', 0, none⟩) (N + 1) cp' (A ++ [(T, U)]) := by
            have hsx := pi.sx
            have hsb := pi.sb
            have hxw := pi.xw
            have offX6 : Off9 (some X) z := zW4.off2 (fun g hg => by simp at hg; subst hg; left; omega)
            refine ⟨?_, ?_, ?_, ?_, off6, offX6, ?_, pi.xw, pi.sx, pi.sb, ?_⟩
            · rw [hW6]; exact set9_here t1 z
            · rw [hW6, set9_far (by omega)]; exact t2
            · rw [hW6]; exact (zW5.set9 (by omega) _ _ _ _ _ _ _ _ _).shIn
            · rw [hW6]; exact own_set9 own6 hsb _ _ _ _ _ _ _ _ _
            · rw [hW6]; exact below_set9 t3 (by omega) _ _ _ _ _ _ _ _ _
            · rw [hW6, set9_size]; exact bs5
          have HW6 : Hid (W6 = (((((((((w5.setCell ⟨S, 0, none⟩ (.slice z.a0 z.s.se.length z.c0)).setCell ⟨S, 1, none⟩ (.slice z.a1 z.s.ra.length z.c1)).setCell ⟨S, 2, none⟩ (.slice z.a2 z.s.fi.length z.c2)).setCell ⟨S, 3, none⟩ (.slice z.a3 z.s.co.length z.c3)).setCell ⟨S, 4, none⟩ (.int .i64 z.s.rf)).setCell ⟨S, 5, none⟩ (.int .i64 z.s.ff)).setCell ⟨S, 6, none⟩ (.int .i64 z.s.ft)).setCell ⟨S, 7, none⟩ (.int .i64 z.s.cf)).setCell ⟨S, 8, none⟩ (.int .i64 z.s.ct))) := hW6
          obtain ⟨y0, y1, y2, y3, y4, y5, y6, y7, y8⟩ := nine_cells t4
          obtain ⟨h0, h1, h2, h3, h4, h5, h6, h7, h8⟩ := nine_cells t1
          obtain ⟨g0, g1, g2, g3, g4, g5, g6, g7, g8⟩ := so_free t1
          have hne : Y8 ≠ S := by omega
          clear hW6 t1 t2 t3 t4 zW5 own6 off6 zW4 pi4
          go_wp2
          rw [← HW6.out]
          go_roundw
          case rel => exact ⟨k + 1, (N + 1), cp', _, z, (A ++ [(T, U)]), by omega, by go_num, rfl, KZ, pi6⟩
          case measure => simp [intOf]; omega
        · have ne := ne_beq e0
          go_wp2
          go_roundw
          case rel => exact ⟨k + 1, N, c, ro, y, A, by omega, by go_num, rfl, HK, pi4⟩
          case measure => simp [intOf]; omega
      · by_cases c1 : K = 1
        · subst c1
          obtain ⟨a0, a1, a2, a3, a4⟩ := five_cells F7
          obtain ⟨s0, s1, s2, s3, s4, s5, s6, s7, s8⟩ := nine_cells pi8.s
          have kc := sroll_any y O W8 pi8.inn
          rw [Hvy.out] at kc
          go_wp2_with fail
          refine kc.mono ?_
          rintro e w3 ⟨z, rfl, hz, oz, hb3⟩
          have HZ := hide hz
          obtain ⟨E, hE⟩ : ∃ E, E = (Grain.sroll y.s O).2 := ⟨_, rfl⟩
          rw [← hE]
          have KK : Hid (E = 0 → Grain.Keeps z.s A) := by
            intro h
            rw [HZ.out]
            exact Grain.keeps_roll HK.out (hE.symm.trans h)
          have F7' := below_block hb3 F7
          have F8' := below_block hb3 F8
          have b3 : Below wr.heap.size wr w3 := b8.trans (hb3.mono b8.size)
          obtain ⟨W4, hW4⟩ : ∃ W, W = Set9 w3 Y8 (.slice z.a0 z.s.se.length z.c0) (.slice z.a1 z.s.ra.length z.c1) (.slice z.a2 z.s.fi.length z.c2) (.slice z.a3 z.s.co.length z.c3) (.int .i64 z.s.rf) (.int .i64 z.s.ff) (.int .i64 z.s.ft) (.int .i64 z.s.cf) (.int .i64 z.s.ct) := ⟨_, rfl⟩
          have b4 : Below wr.heap.size wr W4 := by rw [hW4]; exact below_set9 b3 (by omega) _ _ _ _ _ _ _ _ _
          have pi4 := pi.call b4
          have F8'' : W4.heap[Y8]? = some (so z) := by rw [hW4]; exact set9_here F8' z
          have F7'' : W4.heap[Y7]? = some (.cells #[.int .i64 1, .int .i64 T, .int .i64 U, .int .i64 I, .int .i64 O] 73 (0, 0)) := by rw [hW4, set9_far (by omega)]; exact F7'
          have zW4 : ShO W8.heap.size W4 z := by rw [hW4]; exact oz.set9 (by omega) _ _ _ _ _ _ _ _ _
          have HW4 : Hid (W4 = (((((((((w3.setCell ⟨Y8, 0, none⟩ (.slice z.a0 z.s.se.length z.c0)).setCell ⟨Y8, 1, none⟩ (.slice z.a1 z.s.ra.length z.c1)).setCell ⟨Y8, 2, none⟩ (.slice z.a2 z.s.fi.length z.c2)).setCell ⟨Y8, 3, none⟩ (.slice z.a3 z.s.co.length z.c3)).setCell ⟨Y8, 4, none⟩ (.int .i64 z.s.rf)).setCell ⟨Y8, 5, none⟩ (.int .i64 z.s.ff)).setCell ⟨Y8, 6, none⟩ (.int .i64 z.s.ft)).setCell ⟨Y8, 7, none⟩ (.int .i64 z.s.cf)).setCell ⟨Y8, 8, none⟩ (.int .i64 z.s.ct))) := hW4
          obtain ⟨y0, y1, y2, y3, y4, y5, y6, y7, y8⟩ := nine_cells F8'
          obtain ⟨g0, g1, g2, g3, g4, g5, g6, g7, g8⟩ := so_free F8'
          simp only [ShT.v]
          clear hE hz kc hW4 hb3 oz s0 s1 s2 s3 s4 s5 s6 s7 s8 a0 a1 a2 a3 a4
          go_upto_region 14 with fail
          rw [← HW4.out]
          clear HW4 y0 y1 y2 y3 y4 y5 y6 y7 y8 g0 g1 g2 g3 g4 g5 g6 g7 g8 F7' F8'
          obtain ⟨a0, a1, a2, a3, a4⟩ := five_cells F7''
          by_cases e0 : E = 0
          · have KZ := hide (KK.out e0)
            rw [e0]
            clear e0 KK
            have t1 := pi4.s
            have t2 := pi4.x
            have t3 := pi4.bel
            have t4 := F8''
            have zW5 := zW4
            have own6 := pi4.row
            have off6 : Off9 (Value.slice ro N c).ownBlock z := zW4.off2 (fun g hg => .inl (Nat.lt_of_lt_of_le (pi.row.lt g hg).2 b8.size))
            have bs5 := pi4.bs
            obtain ⟨W6, hW6⟩ : ∃ W, W = Set9 W4 S (.slice z.a0 z.s.se.length z.c0) (.slice z.a1 z.s.ra.length z.c1) (.slice z.a2 z.s.fi.length z.c2) (.slice z.a3 z.s.co.length z.c3) (.int .i64 z.s.rf) (.int .i64 z.s.ff) (.int .i64 z.s.ft) (.int .i64 z.s.cf) (.int .i64 z.s.ct) := ⟨_, rfl⟩
            have pi6 : PI w W6 X S b0 z ro N c A := by
              have hsx := pi.sx
              have hsb := pi.sb
              have hxw := pi.xw
              have offX6 : Off9 (some X) z := zW4.off2 (fun g hg => by simp at hg; subst hg; left; omega)
              refine ⟨?_, ?_, ?_, ?_, off6, offX6, ?_, pi.xw, pi.sx, pi.sb, ?_⟩
              · rw [hW6]; exact set9_here t1 z
              · rw [hW6, set9_far (by omega)]; exact t2
              · rw [hW6]; exact (zW5.set9 (by omega) _ _ _ _ _ _ _ _ _).shIn
              · rw [hW6]; exact own_set9 own6 hsb _ _ _ _ _ _ _ _ _
              · rw [hW6]; exact below_set9 t3 (by omega) _ _ _ _ _ _ _ _ _
              · rw [hW6, set9_size]; exact bs5
            have HW6 : Hid (W6 = (((((((((W4.setCell ⟨S, 0, none⟩ (.slice z.a0 z.s.se.length z.c0)).setCell ⟨S, 1, none⟩ (.slice z.a1 z.s.ra.length z.c1)).setCell ⟨S, 2, none⟩ (.slice z.a2 z.s.fi.length z.c2)).setCell ⟨S, 3, none⟩ (.slice z.a3 z.s.co.length z.c3)).setCell ⟨S, 4, none⟩ (.int .i64 z.s.rf)).setCell ⟨S, 5, none⟩ (.int .i64 z.s.ff)).setCell ⟨S, 6, none⟩ (.int .i64 z.s.ft)).setCell ⟨S, 7, none⟩ (.int .i64 z.s.cf)).setCell ⟨S, 8, none⟩ (.int .i64 z.s.ct))) := hW6
            obtain ⟨y0, y1, y2, y3, y4, y5, y6, y7, y8⟩ := nine_cells t4
            obtain ⟨h0, h1, h2, h3, h4, h5, h6, h7, h8⟩ := nine_cells t1
            obtain ⟨g0, g1, g2, g3, g4, g5, g6, g7, g8⟩ := so_free t1
            have hne : Y8 ≠ S := by omega
            clear hW6 t1 t2 t3 t4 zW5 own6 off6 zW4 pi4
            go_wp2
            rw [← HW6.out]
            go_roundw
            case rel => exact ⟨k + 1, N, c, _, z, A, by omega, by go_num, rfl, KZ, pi6⟩
            case measure => simp [intOf]; omega
          · have ne := ne_beq e0
            go_wp2
            go_roundw
            case rel => exact ⟨k + 1, N, c, ro, y, A, by omega, by go_num, rfl, HK, pi4⟩
            case measure => simp [intOf]; omega
        · by_cases c2 : K = 2
          · subst c2
            obtain ⟨a0, a1, a2, a3, a4⟩ := five_cells F7
            obtain ⟨s0, s1, s2, s3, s4, s5, s6, s7, s8⟩ := nine_cells pi8.s
            have kc := sforg_any y I O W8 pi8.inn
            rw [Hvy.out] at kc
            go_wp2_with fail
            refine kc.mono ?_
            rintro e w3 ⟨z, rfl, hz, oz, hb3⟩
            have HZ := hide hz
            obtain ⟨E, hE⟩ : ∃ E, E = (Grain.sforg y.s I O).2 := ⟨_, rfl⟩
            rw [← hE]
            have KK : Hid (E = 0 → Grain.Keeps z.s A) := by
              intro h
              rw [HZ.out]
              exact Grain.keeps_forg HK.out (hE.symm.trans h)
            have F7' := below_block hb3 F7
            have F8' := below_block hb3 F8
            have b3 : Below wr.heap.size wr w3 := b8.trans (hb3.mono b8.size)
            obtain ⟨W4, hW4⟩ : ∃ W, W = Set9 w3 Y8 (.slice z.a0 z.s.se.length z.c0) (.slice z.a1 z.s.ra.length z.c1) (.slice z.a2 z.s.fi.length z.c2) (.slice z.a3 z.s.co.length z.c3) (.int .i64 z.s.rf) (.int .i64 z.s.ff) (.int .i64 z.s.ft) (.int .i64 z.s.cf) (.int .i64 z.s.ct) := ⟨_, rfl⟩
            have b4 : Below wr.heap.size wr W4 := by rw [hW4]; exact below_set9 b3 (by omega) _ _ _ _ _ _ _ _ _
            have pi4 := pi.call b4
            have F8'' : W4.heap[Y8]? = some (so z) := by rw [hW4]; exact set9_here F8' z
            have F7'' : W4.heap[Y7]? = some (.cells #[.int .i64 2, .int .i64 T, .int .i64 U, .int .i64 I, .int .i64 O] 73 (0, 0)) := by rw [hW4, set9_far (by omega)]; exact F7'
            have zW4 : ShO W8.heap.size W4 z := by rw [hW4]; exact oz.set9 (by omega) _ _ _ _ _ _ _ _ _
            have HW4 : Hid (W4 = (((((((((w3.setCell ⟨Y8, 0, none⟩ (.slice z.a0 z.s.se.length z.c0)).setCell ⟨Y8, 1, none⟩ (.slice z.a1 z.s.ra.length z.c1)).setCell ⟨Y8, 2, none⟩ (.slice z.a2 z.s.fi.length z.c2)).setCell ⟨Y8, 3, none⟩ (.slice z.a3 z.s.co.length z.c3)).setCell ⟨Y8, 4, none⟩ (.int .i64 z.s.rf)).setCell ⟨Y8, 5, none⟩ (.int .i64 z.s.ff)).setCell ⟨Y8, 6, none⟩ (.int .i64 z.s.ft)).setCell ⟨Y8, 7, none⟩ (.int .i64 z.s.cf)).setCell ⟨Y8, 8, none⟩ (.int .i64 z.s.ct))) := hW4
            obtain ⟨y0, y1, y2, y3, y4, y5, y6, y7, y8⟩ := nine_cells F8'
            obtain ⟨g0, g1, g2, g3, g4, g5, g6, g7, g8⟩ := so_free F8'
            simp only [ShT.v]
            clear hE hz kc hW4 hb3 oz s0 s1 s2 s3 s4 s5 s6 s7 s8 a0 a1 a2 a3 a4
            go_upto_region 14 with fail
            rw [← HW4.out]
            clear HW4 y0 y1 y2 y3 y4 y5 y6 y7 y8 g0 g1 g2 g3 g4 g5 g6 g7 g8 F7' F8'
            obtain ⟨a0, a1, a2, a3, a4⟩ := five_cells F7''
            by_cases e0 : E = 0
            · have KZ := hide (KK.out e0)
              rw [e0]
              clear e0 KK
              have t1 := pi4.s
              have t2 := pi4.x
              have t3 := pi4.bel
              have t4 := F8''
              have zW5 := zW4
              have own6 := pi4.row
              have off6 : Off9 (Value.slice ro N c).ownBlock z := zW4.off2 (fun g hg => .inl (Nat.lt_of_lt_of_le (pi.row.lt g hg).2 b8.size))
              have bs5 := pi4.bs
              obtain ⟨W6, hW6⟩ : ∃ W, W = Set9 W4 S (.slice z.a0 z.s.se.length z.c0) (.slice z.a1 z.s.ra.length z.c1) (.slice z.a2 z.s.fi.length z.c2) (.slice z.a3 z.s.co.length z.c3) (.int .i64 z.s.rf) (.int .i64 z.s.ff) (.int .i64 z.s.ft) (.int .i64 z.s.cf) (.int .i64 z.s.ct) := ⟨_, rfl⟩
              have pi6 : PI w W6 X S b0 z ro N c A := by
                have hsx := pi.sx
                have hsb := pi.sb
                have hxw := pi.xw
                have offX6 : Off9 (some X) z := zW4.off2 (fun g hg => by simp at hg; subst hg; left; omega)
                refine ⟨?_, ?_, ?_, ?_, off6, offX6, ?_, pi.xw, pi.sx, pi.sb, ?_⟩
                · rw [hW6]; exact set9_here t1 z
                · rw [hW6, set9_far (by omega)]; exact t2
                · rw [hW6]; exact (zW5.set9 (by omega) _ _ _ _ _ _ _ _ _).shIn
                · rw [hW6]; exact own_set9 own6 hsb _ _ _ _ _ _ _ _ _
                · rw [hW6]; exact below_set9 t3 (by omega) _ _ _ _ _ _ _ _ _
                · rw [hW6, set9_size]; exact bs5
              have HW6 : Hid (W6 = (((((((((W4.setCell ⟨S, 0, none⟩ (.slice z.a0 z.s.se.length z.c0)).setCell ⟨S, 1, none⟩ (.slice z.a1 z.s.ra.length z.c1)).setCell ⟨S, 2, none⟩ (.slice z.a2 z.s.fi.length z.c2)).setCell ⟨S, 3, none⟩ (.slice z.a3 z.s.co.length z.c3)).setCell ⟨S, 4, none⟩ (.int .i64 z.s.rf)).setCell ⟨S, 5, none⟩ (.int .i64 z.s.ff)).setCell ⟨S, 6, none⟩ (.int .i64 z.s.ft)).setCell ⟨S, 7, none⟩ (.int .i64 z.s.cf)).setCell ⟨S, 8, none⟩ (.int .i64 z.s.ct))) := hW6
              obtain ⟨y0, y1, y2, y3, y4, y5, y6, y7, y8⟩ := nine_cells t4
              obtain ⟨h0, h1, h2, h3, h4, h5, h6, h7, h8⟩ := nine_cells t1
              obtain ⟨g0, g1, g2, g3, g4, g5, g6, g7, g8⟩ := so_free t1
              have hne : Y8 ≠ S := by omega
              clear hW6 t1 t2 t3 t4 zW5 own6 off6 zW4 pi4
              go_wp2
              rw [← HW6.out]
              go_roundw
              case rel => exact ⟨k + 1, N, c, _, z, A, by omega, by go_num, rfl, KZ, pi6⟩
              case measure => simp [intOf]; omega
            · have ne := ne_beq e0
              go_wp2
              go_roundw
              case rel => exact ⟨k + 1, N, c, ro, y, A, by omega, by go_num, rfl, HK, pi4⟩
              case measure => simp [intOf]; omega
          · have n0 := ne_beq c0
            have n1 : (K == 1) = false := by simpa using c1
            have n2 : (K == 2) = false := by simpa using c2
            obtain ⟨a0, a1, a2, a3, a4⟩ := five_cells F7
            clear c0 c1 c2
            go_wp2
            go_roundw
            case rel => exact ⟨k + 1, N, c, ro, y, A, by omega, by go_num, rfl, HK, pi8⟩
            case measure => simp [intOf]; omega
    · have he : k = n := by omega
      subst he
      obtain ⟨s0, s1, s2, s3, s4, s5, s6, s7, s8⟩ := nine_cells pi.s
      obtain ⟨q0, q1, q2, q3, q4, q5, q6, q7, q8⟩ := sz_cells pi.x
      obtain ⟨f0, f1, f2, f3, f4, f5, f6, f7, f8⟩ := so_free pi.x
      have sl : S < wr.heap.size := lt_of_block pi.s
      have xl : X < wr.heap.size := lt_of_block pi.x
      have hxs : X ≠ S := by have := pi.sx; omega
      go_wp2
      refine bodyPost_ret (v := .tuple #[.agg #[.slice y.a0 y.s.se.length y.c0, .slice y.a1 y.s.ra.length y.c1, .slice y.a2 y.s.fi.length y.c2, .slice y.a3 y.s.co.length y.c3, .int .i64 y.s.rf, .int .i64 y.s.ff, .int .i64 y.s.ft, .int .i64 y.s.cf, .int .i64 y.s.ct], .slice ro N c]) (by simp [results, Try.results11, go_sem, q0, q1, q2, q3, q4, q5, q6, q7, q8]) rfl ?_
      refine ⟨y, A, ro, N, c, rfl, HK.out, ShIn.set9 pi.inn pi.offX _ _ _ _ _ _ _ _ _, own_seg' (own_set9 pi.row (by have := pi.sx; have := pi.sb; omega) _ _ _ _ _ _ _ _ _), own_slen pi.row, below_set9 pi.bel pi.xw _ _ _ _ _ _ _ _ _⟩

end Go.Proofs.Ytcgcefnfelmmkaa
