/-
  The walk of the document's Bytes.
-/
import Derived.Test.YtlepdjfkgingpaaRefA
import Derived.Test.YtlepdjfkgingpaaRefB
import Derived.Deep.RegionHeld3
import Derived.Deep.DrawnRows
import Derived.Test.YtlepdjfkgingpaaMathE
import Derived.Test.YtlepdjfkgingpaaMathD
import Derived.Test.YtlepdjfkgingpaaUtilC
namespace Go.Proofs.Ytlepdjfkgingpaa
open Go.RowKit Go.GrainU

set_option maxHeartbeats 400000 in
theorem rbytes_no (l : List (Int × Int)) (ao : Option Addr) (n cap : Nat) (w : World) (hs : Seg w ao (scells l)) (hn : n = l.length) (hw : (Grain.wrong l).1 ≠ 0) :
    Calls Try.prog 8 #[.slice ao n cap] w fun e w' => e = .returned (.tuple #[.slice none 0 0, .agg #[.int .i64 (Grain.wrong l).1, .int .i64 (Grain.wrong l).2]]) ∧ Below w.heap.size w w' := by
  have hE : ((Grain.wrong l).1 == 0) = false := by simpa using hw
  have HN := hide hn
  clear hn
  go_enter Try.func8, Try.ntmps8
  go_wp2_with fail
  refine (rwrong_any l ao n cap _ (hs.below (by go_grown)) HN.out).mono ?_
  rintro e w1 ⟨rfl, hb1⟩
  have hbel : Below w.heap.size w w1 := ((Below.refl _ _).alloc (Nat.le_refl _) _).trans (hb1.mono (by simp))
  have hres : w1.heap[w.heap.size]? = some (.cells #[.int .i64 0, .int .i64 0] 26 (0, 0)) := by
    rw [hb1.block _ (by simp)]; exact heap_alloc_new w _
  obtain ⟨r0, r1, r2, r3⟩ := two_cells hres
  have hB := lt_of_block hres
  clear hb1
  go_wp2
  go_region
  all_goals
    go_wp2
    refine bodyPost_ret (v := .tuple #[.slice none 0 0, .agg #[.int .i64 (Grain.wrong l).1, .int .i64 (Grain.wrong l).2]]) (by simp [results, Try.results8, go_sem, r0, r1, World.cell?_alloc_past, hB]) rfl ⟨rfl, ?_⟩
    go_grown

theorem cell_past3 {w : World} (a b c : Obj) {n i : Nat} (h : n < w.heap.size) : (((w.alloc a).alloc b).alloc c).cell? ⟨n, i, none⟩ = w.cell? ⟨n, i, none⟩ := by
  rw [World.cell?_alloc_past _ _ _ (by simp; omega), World.cell?_alloc_past _ _ _ (by simp; omega), World.cell?_alloc_past _ _ _ h]

/-- what holds at the head of each round of the document's Bytes -/
structure DInv (w : World) (l : List (Int × Int)) (k g N c : Nat) (wr : World) : Prop where
  own : wr.ownsRow w.heap.size 5 1 (.slice (some ⟨g, 0, none⟩) N c) N (bcells (Grain.upTo l k))
  res : wr.heap[w.heap.size]? = some (.cells #[.int .i64 0, .int .i64 0] 26 (0, 0))
  bel : Below w.heap.size w wr

theorem dprep {w : World} {l : List (Int × Int)} {k g N c : Nat} {wr : World} (I : DInv w l k g N c wr) (T V A AV B BV : Value) :
    ∃ W, W = ((wr.alloc (.cells #[T, V] 36)).alloc (.cells #[A, AV] 36)).alloc (.cells #[B, BV] 36) ∧ W.ownsRow w.heap.size 5 1 (.slice (some ⟨g, 0, none⟩) N c) N (bcells (Grain.upTo l k)) ∧
      W.cell? ⟨wr.heap.size, 0, none⟩ = some T ∧ W.cell? ⟨wr.heap.size, 1, none⟩ = some V ∧ W.cell? ⟨wr.heap.size + 1, 0, none⟩ = some A ∧ W.cell? ⟨wr.heap.size + 1, 1, none⟩ = some AV ∧ W.cell? ⟨wr.heap.size + 1 + 1, 0, none⟩ = some B ∧
      W.heap[w.heap.size]? = some (.cells #[.int .i64 0, .int .i64 0] 26 (0, 0)) ∧ Below w.heap.size w W ∧ wr.heap.size + 3 ≤ W.heap.size ∧ g < wr.heap.size ∧ w.heap.size ≤ g ∧ w.heap.size < wr.heap.size := by
  have hg := own_block I.own
  have hr := lt_of_block I.res
  have b1 : (wr.alloc (.cells #[T, V] 36)).heap[wr.heap.size]? = some (.cells #[T, V] 36 (0, 0)) := heap_alloc_new wr _
  have b2 : ((wr.alloc (.cells #[T, V] 36)).alloc (.cells #[A, AV] 36)).heap[wr.heap.size + 1]? = some (.cells #[A, AV] 36 (0, 0)) := by
    have := heap_alloc_new (wr.alloc (.cells #[T, V] 36)) (.cells #[A, AV] 36); simpa using this
  have b3 : (((wr.alloc (.cells #[T, V] 36)).alloc (.cells #[A, AV] 36)).alloc (.cells #[B, BV] 36)).heap[wr.heap.size + 1 + 1]? = some (.cells #[B, BV] 36 (0, 0)) := by
    have := heap_alloc_new ((wr.alloc (.cells #[T, V] 36)).alloc (.cells #[A, AV] 36)) (.cells #[B, BV] 36); simpa using this
  have c1 := (Below.heap_alloc _ (.cells #[B, BV] 36) _ (by simp; omega)).trans ((Below.heap_alloc _ (.cells #[A, AV] 36) wr.heap.size (by simp)).trans b1)
  have c2 := (Below.heap_alloc _ (.cells #[B, BV] 36) (wr.heap.size + 1) (by simp)).trans b2
  have t1 := two_cells c1
  have t2 := two_cells c2
  have t3 := two_cells b3
  refine ⟨_, rfl, ((I.own.alloc _).alloc _).alloc _, t1.1, t1.2.1, t2.1, t2.2.1, t3.1, ?_, ((I.bel.alloc (by omega) _).alloc (by simp; omega) _).alloc (by simp; omega) _, by simp, hg.2, hg.1, hr⟩
  rw [Below.heap_alloc _ _ _ (by simp; omega), Below.heap_alloc _ _ _ (by simp; omega), Below.heap_alloc _ _ _ hr]
  exact I.res

theorem DInv.next {w W wd : World} {l : List (Int × Int)} {k g gd Nd cd : Nat} {a b : Int} (ha : a = Grain.tm l k - Grain.tp l k - Grain.sp l k) (hb : b = Grain.vl l k - Grain.vp l k)
    (own : wd.ownsRow w.heap.size 5 1 (.slice (some ⟨gd, 0, none⟩) Nd cd) Nd ((bcells (Grain.upTo l k) ++ bcells (Grain.num a)) ++ bcells (Grain.num b)))
    (R : W.grownBy wd (some g)) (res : W.heap[w.heap.size]? = some (.cells #[.int .i64 0, .int .i64 0] 26 (0, 0))) (bel : Below w.heap.size w W) (hg : w.heap.size ≤ g) (hne : w.heap.size ≠ g) : DInv w l (k + 1) gd Nd cd wd := by
  refine ⟨?_, ?_, ?_⟩
  · rw [← bcells_append, ← bcells_append] at own
    subst ha hb
    exact own
  · rw [R.block _ (lt_of_block res) (by simpa using hne)]; exact res
  · exact bel.grown R bel.size (fun j hj => by simp at hj; omega)

set_option maxRecDepth 100000 in
set_option maxHeartbeats 4000000 in
theorem rbytes_yes (l : List (Int × Int)) (ao : Option Addr) (n cap : Nat) (w : World) (hs : Seg w ao (scells l)) (hn : n = l.length) (hw : (Grain.wrong l).1 = 0) :
    Calls Try.prog 8 #[.slice ao n cap] w fun e w' => ∃ g N cap', e = .returned (.tuple #[.slice (some ⟨g, 0, none⟩) N cap', .agg #[.int .i64 0, .int .i64 0]]) ∧
      w'.ownsRow w.heap.size 5 1 (.slice (some ⟨g, 0, none⟩) N cap') N (bcells (Grain.bytes l)) ∧ Below w.heap.size w w' := by
  obtain ⟨i0, hi, hz0, hz1, hz2⟩ := info_parts Try.info5
  have hR := Grain.right_of hw
  have h5 : n ≤ 500 := by rw [hn]; exact hR.few
  have HZ := hide (Grain.wrong_zero hw)
  have HN := hide hn
  clear hw hn
  go_enter Try.func8, Try.ntmps8
  go_wp2_with fail
  refine (rwrong_any l ao n cap _ (hs.below (by go_grown)) HN.out).mono ?_
  rintro e w1 ⟨rfl, hb1⟩
  rw [HZ.out]
  have hbel : Below w.heap.size w w1 := ((Below.refl _ _).alloc (Nat.le_refl _) _).trans (hb1.mono (by simp))
  have hres : w1.heap[w.heap.size]? = some (.cells #[.int .i64 0, .int .i64 0] 26 (0, 0)) := by
    rw [hb1.block _ (by simp)]; exact heap_alloc_new w _
  have hB := lt_of_block hres
  clear hb1
  go_wp2_with fail
  refine (rnum_any (n : Int) _ (by omega) (by omega)).mono ?_
  rintro e w2 ⟨g, N, c2, rfl, hown2, hb2⟩
  have I0 : DInv w l 0 g N c2 w2 := by
    refine ⟨?_, below_block hb2 ((Below.heap_alloc w1 _ _ hB).trans hres), (hbel.alloc (by omega) _).trans (hb2.mono (by simp; omega))⟩
    have e : Grain.upTo l 0 = Grain.num (n : Int) := by rw [HN.out]; rfl
    rw [e]
    exact ⟨hown2.1, by
      rcases hown2.2 with ⟨h, _⟩ | ⟨g', c', cur, h1, h2, h3⟩
      · simp at h
      · exact .inr ⟨g', c', cur, h1, by simp at h2; omega, h3⟩⟩
  clear hown2 hb2 hbel hres hB
  go_wp2
  go_loopw [5, 21] (fun b i wr => ∃ k g N c : Nat, k ≤ n ∧ i = .int .i64 k ∧ b = .slice (some ⟨g, 0, none⟩) N c ∧ DInv w l k g N c wr) (fun _ i _ => n - (intOf i).toNat)
  case atStart => exact ⟨0, g, N, c2, Nat.zero_le _, rfl, rfl, I0⟩
  case round =>
    clear I0
    obtain ⟨k, g, N, c, hk, rfl, rfl, I⟩ := hrel
    by_cases hlt : k < n
    · have hlt' : k < l.length := by rw [← HN.out]; exact hlt
      obtain ⟨t0, t1, v0, v1⟩ := hR.rng k hlt'
      obtain ⟨p0, p1, q0, q1, s0, s1⟩ := hR.ahead k hlt'
      obtain ⟨b, off, rfl, hcell⟩ := hs.sample hlt'
      have hb : b < w.heap.size := World.block_lt_of_cell? w ⟨b, off + k * 2, none⟩ (hcell k hlt').1
      have hBl := lt_of_block I.res
      have cc : ∀ j, j < l.length → wr.cell? ⟨b, off + j * 2, none⟩ = some (.int .i64 (Grain.tm l j)) ∧ wr.cell? ⟨b, off + j * 2 + 1, none⟩ = some (.int .i64 (Grain.vl l j)) := fun j hj =>
        ⟨(I.bel.cell (by exact hb)).trans (hcell j hj).1, (I.bel.cell (by exact hb)).trans (hcell j hj).2⟩
      obtain ⟨c0, c1⟩ := cc k hlt'
      have hbr : b < wr.heap.size := by omega
      rcases (show k = 0 ∨ k = 1 ∨ ∃ m, k = m + 2 from by
            rcases Nat.lt_or_ge k 2 with h | h
            · omega
            · exact .inr (.inr ⟨k - 2, by omega⟩)) with rfl | rfl | ⟨m, rfl⟩
      · simp only [Nat.zero_mul, Nat.add_zero] at c0 c1
        clear cc hcell
        obtain ⟨W, hW, own0, x0, x1, x2, x3, x4, res0, bel0, hX3, hgX, hgB, hwX⟩ := dprep I (.int .i64 (Grain.tm l 0)) (.int .i64 (Grain.vl l 0)) (.int .i64 (0)) (.int .i64 (0)) (.int .i64 (0)) (.int .i64 (0))
        have HW := hide hW
        clear hW
        go_wp2_with fail
        rw [← HW.out]
        obtain ⟨T, hT⟩ : ∃ T : Int, T = Grain.tm l 0 := ⟨_, rfl⟩
        obtain ⟨V, hV⟩ : ∃ V : Int, V = Grain.vl l 0 := ⟨_, rfl⟩
        obtain ⟨A, hA⟩ : ∃ A : Int, A = 0 := ⟨_, rfl⟩
        obtain ⟨AV, hAV⟩ : ∃ AV : Int, AV = 0 := ⟨_, rfl⟩
        obtain ⟨B, hB⟩ : ∃ B : Int, B = 0 := ⟨_, rfl⟩
        rw [← hT] at x0
        rw [← hV] at x1
        rw [← hA] at x2
        rw [← hAV] at x3
        rw [← hB] at x4
        have T0 : 0 ≤ T ∧ T ≤ 1000000 := by rw [hT]; omega
        have V0 : -1000000000 ≤ V ∧ V ≤ 1000000000 := by rw [hV]; omega
        have A0 : 0 ≤ A ∧ A ≤ 1000000 := by rw [hA]; omega
        have AV0 : -1000000000 ≤ AV ∧ AV ≤ 1000000000 := by rw [hAV]; omega
        have B0 : 0 ≤ B ∧ B ≤ 1000000 := by rw [hB]; omega
        have HA : Hid (T - A - (A - B) = Grain.tm l 0 - Grain.tp l 0 - Grain.sp l 0) := by
          show T - A - (A - B) = Grain.tm l 0 - Grain.tp l 0 - Grain.sp l 0
          rw [hT, hA, hB]; simp [Grain.tp, Grain.sp]
        have HB : Hid (V - AV = Grain.vl l 0 - Grain.vp l 0) := by
          show V - AV = Grain.vl l 0 - Grain.vp l 0
          rw [hV, hAV]; simp [Grain.vp]
        clear hT hV hA hAV hB
        have k1 : IntKind.i64.wrap (T - A) = T - A := IntWalk.i64_in _ ⟨by omega, by omega⟩
        have k2 : IntKind.i64.wrap (A - B) = A - B := IntWalk.i64_in _ ⟨by omega, by omega⟩
        have k3 : IntKind.i64.wrap (T - A - (A - B)) = T - A - (A - B) := IntWalk.i64_in _ ⟨by omega, by omega⟩
        have k4 : IntKind.i64.wrap (V - AV) = V - AV := IntWalk.i64_in _ ⟨by omega, by omega⟩
        have hne := own_ne own0 res0 (by decide)
        have hN : N ≤ 10010 := by have h1 := own_len own0; have h2 := Grain.upTo_len l 0; omega
        have R0 : W.grownBy W.drew (some g) := ⟨rfl, rfl, rfl, Nat.le_refl _, fun _ _ _ => rfl⟩
        have own1 : W.drew.ownsRow w.heap.size 5 1 (.slice (some ⟨g, 0, none⟩) N c) N (bcells (Grain.upTo l 0)) := own0
        have HS : Hid (∀ w', W.grownBy w' (some g) → w'.cell? ⟨wr.heap.size, 0, none⟩ = some (.int .i64 T) ∧ w'.cell? ⟨wr.heap.size, 1, none⟩ = some (.int .i64 V) ∧ w'.cell? ⟨wr.heap.size + 1, 0, none⟩ = some (.int .i64 A) ∧ w'.cell? ⟨wr.heap.size + 1, 1, none⟩ = some (.int .i64 AV) ∧ w'.cell? ⟨wr.heap.size + 1 + 1, 0, none⟩ = some (.int .i64 B)) := by
          intro w' R
          exact ⟨(R.cell_far _ (by simp; omega) (by simp; omega)).trans x0, (R.cell_far _ (by simp; omega) (by simp; omega)).trans x1, (R.cell_far _ (by simp; omega) (by simp; omega)).trans x2, (R.cell_far _ (by simp; omega) (by simp; omega)).trans x3, (R.cell_far _ (by simp; omega) (by simp; omega)).trans x4⟩
        go_region_held3 (fun w' => w'.cell? ⟨wr.heap.size, 0, none⟩ = some (.int .i64 T) ∧ w'.cell? ⟨wr.heap.size, 1, none⟩ = some (.int .i64 V) ∧ w'.cell? ⟨wr.heap.size + 1, 0, none⟩ = some (.int .i64 A) ∧ w'.cell? ⟨wr.heap.size + 1, 1, none⟩ = some (.int .i64 AV) ∧ w'.cell? ⟨wr.heap.size + 1 + 1, 0, none⟩ = some (.int .i64 B))
          (exact HS.out _ (by assumption))
          (first
            | (refine step_append_lies _ (by rfl) (.tmp 40) (.tmp 52) 23 (by rfl) w.heap.size 5 i0 (.int .u8 0) 1 1 Try.underlying23 hi hz0 hz1 hz2 rfl (by decide) (.slice (some ⟨g, 0, none⟩) N c) N (bcells (Grain.upTo l 0)) (by rfl) (by assumption) ⟨ga, 0, none⟩ Na ca (bcells (Grain.num (T - A - (A - B)))) (by rfl) owna.1 (owna.cells rfl) (bcells_one _) na1 (by unfold maxLen; omega) (by omega) (by omega) _ rfl ?_; intro gc cc wc ownc grc hatc hltc; have Rc := grown_app (by assumption) grc (.inl rfl); have sc := Rc.size; have hgc := at_cases (W := W) hatc (by omega))
            | (refine step_append_lies _ (by rfl) (.tmp 53) (.tmp 59) 23 (by rfl) w.heap.size 5 i0 (.int .u8 0) 1 1 Try.underlying23 hi hz0 hz1 hz2 rfl (by decide) (.slice (some ⟨gc, 0, none⟩) (N + Na) cc) (N + Na) (bcells (Grain.upTo l 0) ++ bcells (Grain.num (T - A - (A - B)))) (by rfl) Obc ⟨gb, 0, none⟩ Nb cb (bcells (Grain.num (V - AV))) (by rfl) ownb.1 (ownb.cells rfl) (bcells_one _) nb1 (by unfold maxLen; omega) (by omega) (by omega) _ rfl ?_; intro gd cd wd ownd grd hatd hltd; have Rd := grown_app (by assumption) grd hgc)
            | (go_at_call_of 16 (Value.int IntKind.i64 (T - A - (A - B))); refine (rnum_any _ _ (by omega) (by omega)).mono ?_; rintro e wa ⟨ga, Na, ca, rfl, owna, bela⟩; have Ra := grown_call (by assumption) bela; have sa := Ra.size; obtain ⟨na1, na2⟩ := num_rows owna (Grain.num_pos _); have Oa : wa.ownsRow w.heap.size 5 1 (.slice (some ⟨g, 0, none⟩) N c) N (bcells (Grain.upTo l 0)) := own_below (by assumption) bela)
            | (go_at_call_of 16 (Value.int IntKind.i64 (V - AV)); refine (rnum_any _ _ (by omega) (by omega)).mono ?_; rintro e wb ⟨gb, Nb, cb, rfl, ownb, belb⟩; have Rb := grown_call (by assumption) belb; have sb := Rb.size; obtain ⟨nb1, nb2⟩ := num_rows ownb (Grain.num_pos _); have Obc := own_below ownc belb))
        have R := DInv.next (k := 0) HA.out HB.out ownd Rd res0 bel0 hgB hne
        clear ownd Rd grd grc ownc Obc owna ownb Ra Rb Rc Oa HS own1 own0 x0 x1 x2 x3 x4 res0 bel0 bela belb
        go_wp2
        go_roundw
        case rel => exact ⟨0 + 1, gd, _, cd, by omega, by go_num, rfl, R⟩
        case measure => simp [intOf]; omega
      · obtain ⟨e0, e1⟩ := cc 0 (by omega)
        obtain ⟨t2, t3, v2, v3⟩ := hR.rng 0 (by omega)
        simp only [Nat.zero_mul, Nat.add_zero] at e0 e1
        simp only [Nat.one_mul] at c0 c1
        have e0' := (cell_past3 (.cells #[.int .i64 (Grain.tm l 1), .int .i64 (Grain.vl l 1)] 36) (.cells #[.int .i64 0, .int .i64 0] 36) (.cells #[.int .i64 0, .int .i64 0] 36) hbr).trans e0
        have e1' := (cell_past3 (.cells #[.int .i64 (Grain.tm l 1), .int .i64 (Grain.vl l 1)] 36) (.cells #[.int .i64 0, .int .i64 0] 36) (.cells #[.int .i64 0, .int .i64 0] 36) hbr).trans e1
        clear cc hcell
        obtain ⟨W, hW, own0, x0, x1, x2, x3, x4, res0, bel0, hX3, hgX, hgB, hwX⟩ := dprep I (.int .i64 (Grain.tm l 1)) (.int .i64 (Grain.vl l 1)) (.int .i64 (Grain.tm l 0)) (.int .i64 (Grain.vl l 0)) (.int .i64 (0)) (.int .i64 (0))
        have HW := hide hW
        clear hW
        go_wp2_with fail
        rw [← HW.out]
        obtain ⟨T, hT⟩ : ∃ T : Int, T = Grain.tm l 1 := ⟨_, rfl⟩
        obtain ⟨V, hV⟩ : ∃ V : Int, V = Grain.vl l 1 := ⟨_, rfl⟩
        obtain ⟨A, hA⟩ : ∃ A : Int, A = Grain.tm l 0 := ⟨_, rfl⟩
        obtain ⟨AV, hAV⟩ : ∃ AV : Int, AV = Grain.vl l 0 := ⟨_, rfl⟩
        obtain ⟨B, hB⟩ : ∃ B : Int, B = 0 := ⟨_, rfl⟩
        rw [← hT] at x0
        rw [← hV] at x1
        rw [← hA] at x2
        rw [← hAV] at x3
        rw [← hB] at x4
        have T0 : 0 ≤ T ∧ T ≤ 1000000 := by rw [hT]; omega
        have V0 : -1000000000 ≤ V ∧ V ≤ 1000000000 := by rw [hV]; omega
        have A0 : 0 ≤ A ∧ A ≤ 1000000 := by rw [hA]; omega
        have AV0 : -1000000000 ≤ AV ∧ AV ≤ 1000000000 := by rw [hAV]; omega
        have B0 : 0 ≤ B ∧ B ≤ 1000000 := by rw [hB]; omega
        have HA : Hid (T - A - (A - B) = Grain.tm l 1 - Grain.tp l 1 - Grain.sp l 1) := by
          show T - A - (A - B) = Grain.tm l 1 - Grain.tp l 1 - Grain.sp l 1
          rw [hT, hA, hB]; simp [Grain.tp, Grain.sp]
        have HB : Hid (V - AV = Grain.vl l 1 - Grain.vp l 1) := by
          show V - AV = Grain.vl l 1 - Grain.vp l 1
          rw [hV, hAV]; simp [Grain.vp]
        clear hT hV hA hAV hB
        have k1 : IntKind.i64.wrap (T - A) = T - A := IntWalk.i64_in _ ⟨by omega, by omega⟩
        have k2 : IntKind.i64.wrap (A - B) = A - B := IntWalk.i64_in _ ⟨by omega, by omega⟩
        have k3 : IntKind.i64.wrap (T - A - (A - B)) = T - A - (A - B) := IntWalk.i64_in _ ⟨by omega, by omega⟩
        have k4 : IntKind.i64.wrap (V - AV) = V - AV := IntWalk.i64_in _ ⟨by omega, by omega⟩
        have hne := own_ne own0 res0 (by decide)
        have hN : N ≤ 10010 := by have h1 := own_len own0; have h2 := Grain.upTo_len l 1; omega
        have R0 : W.grownBy W.drew (some g) := ⟨rfl, rfl, rfl, Nat.le_refl _, fun _ _ _ => rfl⟩
        have own1 : W.drew.ownsRow w.heap.size 5 1 (.slice (some ⟨g, 0, none⟩) N c) N (bcells (Grain.upTo l 1)) := own0
        have HS : Hid (∀ w', W.grownBy w' (some g) → w'.cell? ⟨wr.heap.size, 0, none⟩ = some (.int .i64 T) ∧ w'.cell? ⟨wr.heap.size, 1, none⟩ = some (.int .i64 V) ∧ w'.cell? ⟨wr.heap.size + 1, 0, none⟩ = some (.int .i64 A) ∧ w'.cell? ⟨wr.heap.size + 1, 1, none⟩ = some (.int .i64 AV) ∧ w'.cell? ⟨wr.heap.size + 1 + 1, 0, none⟩ = some (.int .i64 B)) := by
          intro w' R
          exact ⟨(R.cell_far _ (by simp; omega) (by simp; omega)).trans x0, (R.cell_far _ (by simp; omega) (by simp; omega)).trans x1, (R.cell_far _ (by simp; omega) (by simp; omega)).trans x2, (R.cell_far _ (by simp; omega) (by simp; omega)).trans x3, (R.cell_far _ (by simp; omega) (by simp; omega)).trans x4⟩
        go_region_held3 (fun w' => w'.cell? ⟨wr.heap.size, 0, none⟩ = some (.int .i64 T) ∧ w'.cell? ⟨wr.heap.size, 1, none⟩ = some (.int .i64 V) ∧ w'.cell? ⟨wr.heap.size + 1, 0, none⟩ = some (.int .i64 A) ∧ w'.cell? ⟨wr.heap.size + 1, 1, none⟩ = some (.int .i64 AV) ∧ w'.cell? ⟨wr.heap.size + 1 + 1, 0, none⟩ = some (.int .i64 B))
          (exact HS.out _ (by assumption))
          (first
            | (refine step_append_lies _ (by rfl) (.tmp 40) (.tmp 52) 23 (by rfl) w.heap.size 5 i0 (.int .u8 0) 1 1 Try.underlying23 hi hz0 hz1 hz2 rfl (by decide) (.slice (some ⟨g, 0, none⟩) N c) N (bcells (Grain.upTo l 1)) (by rfl) (by assumption) ⟨ga, 0, none⟩ Na ca (bcells (Grain.num (T - A - (A - B)))) (by rfl) owna.1 (owna.cells rfl) (bcells_one _) na1 (by unfold maxLen; omega) (by omega) (by omega) _ rfl ?_; intro gc cc wc ownc grc hatc hltc; have Rc := grown_app (by assumption) grc (.inl rfl); have sc := Rc.size; have hgc := at_cases (W := W) hatc (by omega))
            | (refine step_append_lies _ (by rfl) (.tmp 53) (.tmp 59) 23 (by rfl) w.heap.size 5 i0 (.int .u8 0) 1 1 Try.underlying23 hi hz0 hz1 hz2 rfl (by decide) (.slice (some ⟨gc, 0, none⟩) (N + Na) cc) (N + Na) (bcells (Grain.upTo l 1) ++ bcells (Grain.num (T - A - (A - B)))) (by rfl) Obc ⟨gb, 0, none⟩ Nb cb (bcells (Grain.num (V - AV))) (by rfl) ownb.1 (ownb.cells rfl) (bcells_one _) nb1 (by unfold maxLen; omega) (by omega) (by omega) _ rfl ?_; intro gd cd wd ownd grd hatd hltd; have Rd := grown_app (by assumption) grd hgc)
            | (go_at_call_of 16 (Value.int IntKind.i64 (T - A - (A - B))); refine (rnum_any _ _ (by omega) (by omega)).mono ?_; rintro e wa ⟨ga, Na, ca, rfl, owna, bela⟩; have Ra := grown_call (by assumption) bela; have sa := Ra.size; obtain ⟨na1, na2⟩ := num_rows owna (Grain.num_pos _); have Oa : wa.ownsRow w.heap.size 5 1 (.slice (some ⟨g, 0, none⟩) N c) N (bcells (Grain.upTo l 1)) := own_below (by assumption) bela)
            | (go_at_call_of 16 (Value.int IntKind.i64 (V - AV)); refine (rnum_any _ _ (by omega) (by omega)).mono ?_; rintro e wb ⟨gb, Nb, cb, rfl, ownb, belb⟩; have Rb := grown_call (by assumption) belb; have sb := Rb.size; obtain ⟨nb1, nb2⟩ := num_rows ownb (Grain.num_pos _); have Obc := own_below ownc belb))
        have R := DInv.next (k := 1) HA.out HB.out ownd Rd res0 bel0 hgB hne
        clear ownd Rd grd grc ownc Obc owna ownb Ra Rb Rc Oa HS own1 own0 x0 x1 x2 x3 x4 res0 bel0 bela belb
        go_wp2
        go_roundw
        case rel => exact ⟨1 + 1, gd, _, cd, by omega, by go_num, rfl, R⟩
        case measure => simp [intOf]; omega
      · obtain ⟨e0, e1⟩ := cc (m + 1) (by omega)
        obtain ⟨f0, f1⟩ := cc m (by omega)
        obtain ⟨t2, t3, v2, v3⟩ := hR.rng (m + 1) (by omega)
        obtain ⟨t4, t5, v4, v5⟩ := hR.rng m (by omega)
        have e0' := (cell_past3 (.cells #[.int .i64 (Grain.tm l (m + 2)), .int .i64 (Grain.vl l (m + 2))] 36) (.cells #[.int .i64 0, .int .i64 0] 36) (.cells #[.int .i64 0, .int .i64 0] 36) hbr).trans e0
        have e1' := (cell_past3 (.cells #[.int .i64 (Grain.tm l (m + 2)), .int .i64 (Grain.vl l (m + 2))] 36) (.cells #[.int .i64 0, .int .i64 0] 36) (.cells #[.int .i64 0, .int .i64 0] 36) hbr).trans e1
        have f0' := (cell_past3 (.cells #[.int .i64 (Grain.tm l (m + 2)), .int .i64 (Grain.vl l (m + 2))] 36) (.cells #[.int .i64 (Grain.tm l (m + 1)), .int .i64 (Grain.vl l (m + 1))] 36) (.cells #[.int .i64 0, .int .i64 0] 36) hbr).trans f0
        have f1' := (cell_past3 (.cells #[.int .i64 (Grain.tm l (m + 2)), .int .i64 (Grain.vl l (m + 2))] 36) (.cells #[.int .i64 (Grain.tm l (m + 1)), .int .i64 (Grain.vl l (m + 1))] 36) (.cells #[.int .i64 0, .int .i64 0] 36) hbr).trans f1
        clear cc hcell
        obtain ⟨W, hW, own0, x0, x1, x2, x3, x4, res0, bel0, hX3, hgX, hgB, hwX⟩ := dprep I (.int .i64 (Grain.tm l (m + 2))) (.int .i64 (Grain.vl l (m + 2))) (.int .i64 (Grain.tm l (m + 1))) (.int .i64 (Grain.vl l (m + 1))) (.int .i64 (Grain.tm l m)) (.int .i64 (Grain.vl l m))
        have HW := hide hW
        clear hW
        go_wp2_with fail
        rw [← HW.out]
        obtain ⟨T, hT⟩ : ∃ T : Int, T = Grain.tm l (m + 2) := ⟨_, rfl⟩
        obtain ⟨V, hV⟩ : ∃ V : Int, V = Grain.vl l (m + 2) := ⟨_, rfl⟩
        obtain ⟨A, hA⟩ : ∃ A : Int, A = Grain.tm l (m + 1) := ⟨_, rfl⟩
        obtain ⟨AV, hAV⟩ : ∃ AV : Int, AV = Grain.vl l (m + 1) := ⟨_, rfl⟩
        obtain ⟨B, hB⟩ : ∃ B : Int, B = Grain.tm l m := ⟨_, rfl⟩
        rw [← hT] at x0
        rw [← hV] at x1
        rw [← hA] at x2
        rw [← hAV] at x3
        rw [← hB] at x4
        have T0 : 0 ≤ T ∧ T ≤ 1000000 := by rw [hT]; omega
        have V0 : -1000000000 ≤ V ∧ V ≤ 1000000000 := by rw [hV]; omega
        have A0 : 0 ≤ A ∧ A ≤ 1000000 := by rw [hA]; omega
        have AV0 : -1000000000 ≤ AV ∧ AV ≤ 1000000000 := by rw [hAV]; omega
        have B0 : 0 ≤ B ∧ B ≤ 1000000 := by rw [hB]; omega
        have HA : Hid (T - A - (A - B) = Grain.tm l (m + 2) - Grain.tp l (m + 2) - Grain.sp l (m + 2)) := by
          show T - A - (A - B) = Grain.tm l (m + 2) - Grain.tp l (m + 2) - Grain.sp l (m + 2)
          rw [hT, hA, hB]; simp [Grain.tp, Grain.sp]
        have HB : Hid (V - AV = Grain.vl l (m + 2) - Grain.vp l (m + 2)) := by
          show V - AV = Grain.vl l (m + 2) - Grain.vp l (m + 2)
          rw [hV, hAV]; simp [Grain.vp]
        clear hT hV hA hAV hB
        have k1 : IntKind.i64.wrap (T - A) = T - A := IntWalk.i64_in _ ⟨by omega, by omega⟩
        have k2 : IntKind.i64.wrap (A - B) = A - B := IntWalk.i64_in _ ⟨by omega, by omega⟩
        have k3 : IntKind.i64.wrap (T - A - (A - B)) = T - A - (A - B) := IntWalk.i64_in _ ⟨by omega, by omega⟩
        have k4 : IntKind.i64.wrap (V - AV) = V - AV := IntWalk.i64_in _ ⟨by omega, by omega⟩
        have hne := own_ne own0 res0 (by decide)
        have hN : N ≤ 10010 := by have h1 := own_len own0; have h2 := Grain.upTo_len l (m + 2); omega
        have R0 : W.grownBy W.drew (some g) := ⟨rfl, rfl, rfl, Nat.le_refl _, fun _ _ _ => rfl⟩
        have own1 : W.drew.ownsRow w.heap.size 5 1 (.slice (some ⟨g, 0, none⟩) N c) N (bcells (Grain.upTo l (m + 2))) := own0
        have HS : Hid (∀ w', W.grownBy w' (some g) → w'.cell? ⟨wr.heap.size, 0, none⟩ = some (.int .i64 T) ∧ w'.cell? ⟨wr.heap.size, 1, none⟩ = some (.int .i64 V) ∧ w'.cell? ⟨wr.heap.size + 1, 0, none⟩ = some (.int .i64 A) ∧ w'.cell? ⟨wr.heap.size + 1, 1, none⟩ = some (.int .i64 AV) ∧ w'.cell? ⟨wr.heap.size + 1 + 1, 0, none⟩ = some (.int .i64 B)) := by
          intro w' R
          exact ⟨(R.cell_far _ (by simp; omega) (by simp; omega)).trans x0, (R.cell_far _ (by simp; omega) (by simp; omega)).trans x1, (R.cell_far _ (by simp; omega) (by simp; omega)).trans x2, (R.cell_far _ (by simp; omega) (by simp; omega)).trans x3, (R.cell_far _ (by simp; omega) (by simp; omega)).trans x4⟩
        go_region_held3 (fun w' => w'.cell? ⟨wr.heap.size, 0, none⟩ = some (.int .i64 T) ∧ w'.cell? ⟨wr.heap.size, 1, none⟩ = some (.int .i64 V) ∧ w'.cell? ⟨wr.heap.size + 1, 0, none⟩ = some (.int .i64 A) ∧ w'.cell? ⟨wr.heap.size + 1, 1, none⟩ = some (.int .i64 AV) ∧ w'.cell? ⟨wr.heap.size + 1 + 1, 0, none⟩ = some (.int .i64 B))
          (exact HS.out _ (by assumption))
          (first
            | (refine step_append_lies _ (by rfl) (.tmp 40) (.tmp 52) 23 (by rfl) w.heap.size 5 i0 (.int .u8 0) 1 1 Try.underlying23 hi hz0 hz1 hz2 rfl (by decide) (.slice (some ⟨g, 0, none⟩) N c) N (bcells (Grain.upTo l (m + 2))) (by rfl) (by assumption) ⟨ga, 0, none⟩ Na ca (bcells (Grain.num (T - A - (A - B)))) (by rfl) owna.1 (owna.cells rfl) (bcells_one _) na1 (by unfold maxLen; omega) (by omega) (by omega) _ rfl ?_; intro gc cc wc ownc grc hatc hltc; have Rc := grown_app (by assumption) grc (.inl rfl); have sc := Rc.size; have hgc := at_cases (W := W) hatc (by omega))
            | (refine step_append_lies _ (by rfl) (.tmp 53) (.tmp 59) 23 (by rfl) w.heap.size 5 i0 (.int .u8 0) 1 1 Try.underlying23 hi hz0 hz1 hz2 rfl (by decide) (.slice (some ⟨gc, 0, none⟩) (N + Na) cc) (N + Na) (bcells (Grain.upTo l (m + 2)) ++ bcells (Grain.num (T - A - (A - B)))) (by rfl) Obc ⟨gb, 0, none⟩ Nb cb (bcells (Grain.num (V - AV))) (by rfl) ownb.1 (ownb.cells rfl) (bcells_one _) nb1 (by unfold maxLen; omega) (by omega) (by omega) _ rfl ?_; intro gd cd wd ownd grd hatd hltd; have Rd := grown_app (by assumption) grd hgc)
            | (go_at_call_of 16 (Value.int IntKind.i64 (T - A - (A - B))); refine (rnum_any _ _ (by omega) (by omega)).mono ?_; rintro e wa ⟨ga, Na, ca, rfl, owna, bela⟩; have Ra := grown_call (by assumption) bela; have sa := Ra.size; obtain ⟨na1, na2⟩ := num_rows owna (Grain.num_pos _); have Oa : wa.ownsRow w.heap.size 5 1 (.slice (some ⟨g, 0, none⟩) N c) N (bcells (Grain.upTo l (m + 2))) := own_below (by assumption) bela)
            | (go_at_call_of 16 (Value.int IntKind.i64 (V - AV)); refine (rnum_any _ _ (by omega) (by omega)).mono ?_; rintro e wb ⟨gb, Nb, cb, rfl, ownb, belb⟩; have Rb := grown_call (by assumption) belb; have sb := Rb.size; obtain ⟨nb1, nb2⟩ := num_rows ownb (Grain.num_pos _); have Obc := own_below ownc belb))
        have R := DInv.next (k := (m + 2)) HA.out HB.out ownd Rd res0 bel0 hgB hne
        clear ownd Rd grd grc ownc Obc owna ownb Ra Rb Rc Oa HS own1 own0 x0 x1 x2 x3 x4 res0 bel0 bela belb
        go_wp2
        go_roundw
        case rel => exact ⟨(m + 2) + 1, gd, _, cd, by omega, by go_num, rfl, R⟩
        case measure => simp [intOf]; omega
    · obtain ⟨r0, r1, r2, r3⟩ := two_cells I.res
      have he : k = n := by omega
      subst he
      have HU : Hid (Grain.upTo l k = Grain.bytes l) := by
        show Grain.upTo l k = Grain.bytes l
        unfold Grain.bytes; rw [HN.out]
      go_wp2
      refine bodyPost_ret (v := .tuple #[.slice (some ⟨g, 0, none⟩) N c, .agg #[.int .i64 0, .int .i64 0]]) (by simp [results, Try.results8, go_sem, r0, r1]) rfl ⟨g, N, c, rfl, ?_, (I.bel.setCell (Nat.le_refl _) _).setCell (Nat.le_refl _) _⟩
      have hg := own_ne I.own I.res (by decide)
      have own := I.own
      rw [HU.out] at own
      exact ownsRow_setCell_other (ownsRow_setCell_other own (by simp [Value.ownBlock]; omega) _) (by simp [Value.ownBlock]; omega) _

end Go.Proofs.Ytlepdjfkgingpaa
