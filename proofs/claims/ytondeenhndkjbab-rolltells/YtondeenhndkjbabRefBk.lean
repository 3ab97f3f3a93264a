/-
  The walk of the document's Buckets: buckets of samples, run by run.
-/
import Derived.Test.YtondeenhndkjbabRefGr
import Derived.Test.YtondeenhndkjbabRefOf
namespace Grain

theorem drop_snoc {l : List (Int × Int)} {i k : Nat} (hk : k < l.length) (hi : i ≤ k) : (l.take (k + 1)).drop i = (l.take k).drop i ++ [(tm l k, vl l k)] := by
  rw [take_tm hk, List.drop_append_of_le_length (by rw [List.length_take]; omega)]

theorem up_run {l : List (Int × Int)} {st A : Int} {i k : Nat} (hk : k < l.length) (hi : i ≤ k) (hl : l.length ≤ 1000000)
    (hA : beg (tm l k) st = A) (hoff : Off (up (l.take i) st) A) (hrun : k = i ∨ (i < k ∧ up (l.take k) st = up (l.take i) st ++ [⟨A, of ((l.take k).drop i)⟩])) :
    up (l.take (k + 1)) st = up (l.take i) st ++ [⟨A, of ((l.take (k + 1)).drop i)⟩] := by
  rw [up_take st hk, hA, drop_snoc hk hi]
  rcases hrun with rfl | ⟨_, e⟩
  · rw [put_off hoff]
    have : (l.take k).drop k = [] := by simp
    rw [this]
    rfl
  · rw [e, put_same, of_snoc _ _ (by simp; omega)]

theorem right_le {l : List (Int × Int)} (h : Right l) {i : Nat} : ∀ k, i ≤ k → k < l.length → tm l i ≤ tm l k := by
  intro k
  induction k with
  | zero => intro h1 _; rw [show i = 0 from by omega]; exact Int.le_refl _
  | succ k ih =>
    intro h1 h2
    rcases (show i ≤ k ∨ i = k + 1 from by omega) with e | e
    · have := ih e (by omega)
      have := h.rise k h2
      omega
    · subst e; exact Int.le_refl _

theorem vl_sub {l : List (Int × Int)} {i k j : Nat} (h : i + j < k) : vl ((l.take k).drop i) j = vl l (i + j) := by
  simp only [vl, List.getD, List.getElem?_drop]
  rw [List.getElem?_take_of_lt h]

end Grain
namespace Go.Proofs.Ytondeenhndkjbab
open Go.RowKit Go.GrainU

theorem scells_drop (l : List (Int × Int)) : ∀ m, scells (l.drop m) = (scells l).drop (m * 2) := by
  induction l with
  | nil => intro m; simp [scells]
  | cons s r ih =>
    intro m
    match m with
    | 0 => simp
    | m + 1 => rw [show (m + 1) * 2 = m * 2 + 1 + 1 from by omega]; simp [scells, ih]

theorem kscells_take (l : List (Int × Int)) : ∀ m, scells (l.take m) = (scells l).take (m * 2) := by
  induction l with
  | nil => intro m; simp [scells]
  | cons s r ih =>
    intro m
    match m with
    | 0 => simp [scells]
    | m + 1 => rw [show (m + 1) * 2 = m * 2 + 1 + 1 from by omega]; simp [scells, ih]

/-- a part of samples can be read -/
theorem seg_part {w : World} {b off : Nat} {l : List (Int × Int)} (h : Seg w (some ⟨b, off, none⟩) (scells l)) (i k : Nat) : Seg w (some ⟨b, off + i * 2, none⟩) (scells ((l.take k).drop i)) := by
  rcases h with h | ⟨b', off', e, h⟩
  · left
    rw [scells_drop, kscells_take, h]
    simp
  · simp at e
    obtain ⟨rfl, rfl⟩ := e
    refine .inr ⟨b, off + i * 2, rfl, fun j hj => ?_⟩
    rw [scells_drop, kscells_take] at hj ⊢
    simp at hj
    rw [Nat.add_assoc, h (i * 2 + j) (by omega), List.getElem?_drop, List.getElem?_take, if_pos (by omega)]

theorem rof_let (l : List (Int × Int)) (b off n cap : Nat) (w : World) (hs : Seg w (some ⟨b, off, none⟩) (scells l)) (hn : n = l.length) (h0 : 0 < n) (hL : n ≤ 1152921504606846975)
    (hv : ∀ j, j < n → -9223372036854775808 ≤ Grain.vl l j ∧ Grain.vl l j ≤ 9223372036854775807) :
    Calls Try.prog 34 #[.slice (some ⟨b, off, none⟩) n cap] w fun e w' => ∃ J : Grain.Sm, Hid (J = Grain.of l) ∧ e = .returned (.agg #[.int .i64 J.c, .int .i64 J.t, .int .i64 J.mn, .int .i64 J.mx, .int .i64 J.f, .int .i64 J.l, .int .i64 J.r]) ∧ Below w.heap.size w w' :=
  (rof_some l b off n cap w hs hn h0 hL hv).mono fun _ _ h => ⟨_, rfl, h.1, h.2⟩

/-- what the outer loop keeps -/
structure BkInv (base : Nat) (l : List (Int × Int)) (st : Int) (i : Nat) (v : Value) (N : Nat) (w wr : World) : Prop where
  own : wr.ownsRow base 57 8 v N (kcells (Grain.up (l.take i) st))
  bel : Below base w wr
  off : i < l.length → Grain.Off (Grain.up (l.take i) st) (Grain.beg (Grain.tm l i) st)

set_option maxHeartbeats 4000000 in
theorem rbk_any (l : List (Int × Int)) (ao : Option Addr) (n cap : Nat) (st : Int) (w : World) (hs : Seg w ao (scells l)) (hn : n = l.length) (hcap : n ≤ cap) (hcm : cap ≤ maxLen) (hr : Grain.Right l) (hst : st = 10 ∨ st = 60) :
    Calls Try.prog 24 #[.slice ao n cap, .int .i64 st] w fun e w' => ∃ bo N c, e = .returned (.slice bo N c) ∧ w'.ownsRow w.heap.size 57 8 (.slice bo N c) N (kcells (Grain.up l st)) ∧ Below w.heap.size w w' := by
  obtain ⟨i0, hi, hz0, hz1, hz2⟩ := info_parts Try.infoBucket
  have h5 := hr.few
  have HN := hide hn
  have HR := hide hr
  rw [← hn] at h5
  have hcm' : cap ≤ 9223372036854775807 := by unfold maxLen at hcm; omega
  clear hn hr hcm
  rcases hst with rfl | rfl
  · go_enter Try.func24, Try.ntmps24
    go_wp2
    go_loopw [5, 6] (fun out i wr => ∃ (k N c : Nat) (bo : Option Addr), k ≤ n ∧ i = .int .i64 k ∧ out = .slice bo N c ∧ N ≤ k ∧ BkInv w.heap.size l 10 k (.slice bo N c) N w wr) (fun _ i _ => n - (intOf i).toNat)
    case atStart => exact ⟨0, 0, 0, none, Nat.zero_le _, rfl, rfl, Nat.le_refl _, ⟨World.ownsRow_nil _ _ _ _, Below.refl _ _, fun _ => Grain.off_nil _⟩⟩
    case round =>
      obtain ⟨i, N, c, bo, hi', rfl, rfl, hNi, I⟩ := hrel
      have hsz := I.bel.size
      by_cases hlt : i < n
      · have hil : i < l.length := by rw [← HN.out]; exact hlt
        obtain ⟨b, off, rfl, hcell⟩ := hs.sample hil
        have hb : b < w.heap.size := World.block_lt_of_cell? w ⟨b, off + i * 2, none⟩ (hcell i hil).1
        obtain ⟨a0, ha0⟩ : ∃ a0, a0 = Grain.tm l i := ⟨_, rfl⟩
        have c0 : wr.cell? ⟨b, off + i * 2, none⟩ = some (.int .i64 a0) := by rw [ha0]; exact (I.bel.cell (by exact hb)).trans (hcell i hil).1
        have hr0 := HR.out.rng i hil
        rw [← ha0] at hr0
        have ht0 : 0 ≤ a0 := hr0.1
        have ht1 : a0 ≤ 1000000 := hr0.2.1
        obtain ⟨A, hA⟩ : ∃ A, A = a0 / 10 * 10 := ⟨_, rfl⟩
        have hAb : A = Grain.beg a0 10 := by rw [hA]; unfold Grain.beg; omega
        have hA0 : 0 ≤ A := by omega
        have hA1 : A ≤ a0 := by omega
        have hA2 : a0 < A + 10 := by omega
        have HA := hide hAb
        have Ha0 := hide ha0
        have HC := hide hcell
        have Hil := hide hil
        have HSG := hide hs
        clear hr0 hAb ha0 hcell hil hs
        go_wp2
        rw [← hA]
        clear hA c0
        go_loopw [8] (fun q wq => ∃ (k : Nat), i ≤ k ∧ k ≤ n ∧ q = .int .i64 k ∧ BkInv w.heap.size l 10 i (.slice bo N c) N w wq ∧ Hid (k = i ∨ (i < k ∧ Grain.up (l.take k) 10 = Grain.up (l.take i) 10 ++ [⟨A, Grain.of ((l.take k).drop i)⟩]))) (fun q _ => n - (intOf q).toNat)
        case atStart => exact ⟨i, Nat.le_refl _, by omega, rfl, I, .inl rfl⟩
        case round =>
          clear I hsz
          obtain ⟨k, hik, hkn, rfl, I, RUN⟩ := hrel
          have hsz := I.bel.size
          by_cases hk : k < n
          · have hkl : k < l.length := by rw [← HN.out]; exact hk
            obtain ⟨t, ht⟩ : ∃ t, t = Grain.tm l k := ⟨_, rfl⟩
            have c0 : wr.cell? ⟨b, off + k * 2, none⟩ = some (.int .i64 t) := by rw [ht]; exact (I.bel.cell (by exact hb)).trans (HC.out k hkl).1
            have hr0 := HR.out.rng k hkl
            rw [← ht] at hr0
            have kt0 : 0 ≤ t := hr0.1
            have kt1 : t ≤ 1000000 := hr0.2.1
            have HKL := hide hkl
            have HK := hide ht
            have hle : a0 ≤ t := by rw [ht, Ha0.out]; exact Grain.right_le HR.out k hik hkl
            clear hr0 hkl ht
            by_cases hin : t < A + 10
            · have HR' : Hid (k + 1 = i ∨ (i < k + 1 ∧ Grain.up (l.take (k + 1)) 10 = Grain.up (l.take i) 10 ++ [⟨A, Grain.of ((l.take (k + 1)).drop i)⟩])) := by
                right
                have hAk : Grain.beg (Grain.tm l k) 10 = A := by
                  have h1 := HA.out
                  rw [← HK.out]
                  unfold Grain.beg at h1 ⊢
                  omega
                have ho := I.off Hil.out
                rw [← Ha0.out, ← HA.out] at ho
                exact ⟨by omega, Grain.up_run HKL.out hik (by rw [← HN.out]; omega) hAk ho RUN.out⟩
              clear RUN
              go_wp2
              go_roundw
              case rel => exact ⟨k + 1, by omega, by omega, by go_num, I, HR'⟩
              case measure => simp [intOf]; omega
            · have hik' : i < k := by
                rcases RUN.out with e | ⟨e, _⟩
                · exfalso
                  subst e
                  have h1 : t = a0 := by rw [HK.out, Ha0.out]
                  omega
                · exact e
              have HE : Hid (Grain.up (l.take k) 10 = Grain.up (l.take i) 10 ++ [⟨A, Grain.of ((l.take k).drop i)⟩]) := by
                rcases RUN.out with e | ⟨_, e⟩
                · omega
                · exact e
              have HO' : Hid (k < l.length → Grain.Off (Grain.up (l.take k) 10) (Grain.beg (Grain.tm l k) 10)) := by
                intro _
                rw [HE.out]
                refine Grain.off_snoc ?_
                have h1 := HA.out
                rw [← HK.out]
                unfold Grain.beg at h1 ⊢
                omega
              clear RUN
              have sgp := seg_part (HSG.out.below I.bel) i k
              have hlen : k - i = ((l.take k).drop i).length := by rw [List.length_drop, List.length_take, ← HN.out]; omega
              have Hlen := hide hlen
              have HV : Hid (∀ j, j < k - i → -9223372036854775808 ≤ Grain.vl ((l.take k).drop i) j ∧ Grain.vl ((l.take k).drop i) j ≤ 9223372036854775807) := by
                intro j hj
                rw [Grain.vl_sub (by omega)]
                have := HR.out.rng (i + j) (by rw [← HN.out]; omega)
                omega
              have SG := hide sgp
              clear hlen sgp
              go_wp2_with fail
              refine (rof_let ((l.take k).drop i) b (off + i * 2) (k - i) (cap - i) _ SG.out Hlen.out (by omega) (by omega) HV.out).mono ?_
              rintro e w4 ⟨J, HJ, rfl, hb4⟩
              have own4 := own_below I.own hb4
              have bel4 := I.bel.trans (hb4.mono hsz)
              have hs4 := bel4.size
              rw [← HJ.out] at HE
              clear hb4 SG HV Hlen
              go_wp2_with (at_builtin; refine wpList_append_lies _ rfl _ _ 39 rfl w.heap.size 57 i0 (.agg #[.int .i64 0, .int .i64 0, .int .i64 0, .int .i64 0, .int .i64 0, .int .i64 0, .int .i64 0, .int .i64 0]) 8 64 Try.underlying39 hi hz0 hz1 hz2 rfl (by decide) _ _ _ rfl (own4.alloc _) ⟨w4.heap.size, 0, none⟩ 1 1 (kc ⟨A, J⟩) rfl rfl (World.news_of_block (cs := #[.int .i64 A, .int .i64 J.c, .int .i64 J.t, .int .i64 J.mn, .int .i64 J.mx, .int .i64 J.f, .int .i64 J.l, .int .i64 J.r]) (t := 57) (fr := (0, 0)) (heap_alloc_new w4 _)) (by simp [kc, Value.oneCell']) (by decide) (by unfold maxLen; omega) (by omega) (by simp; omega) (w4.heap.size + 1) (by simp) ?_)
              intro g' cp' w5 own5 gr5 hat5 hlt5
              rw [← kcells_snoc, ← HE.out] at own5
              have bel5 : Below w.heap.size w w5 := (bel4.alloc hs4 _).grown gr5 (by simp; omega) (fun j hj => (I.own.lt j hj).1)
              have I5 : BkInv w.heap.size l 10 k (.slice (some ⟨g', 0, none⟩) (N + 1) cp') (N + 1) w w5 := ⟨own5, bel5, HO'.out⟩
              clear I own4 bel4 gr5 hat5 hlt5 HE HJ own5 bel5 HO'
              go_wp2
              go_roundw
              case rel => exact ⟨k, N + 1, cp', _, by omega, rfl, rfl, by omega, I5⟩
              case measure => simp [intOf]; omega
          · have hik' : i < k := by omega
            have HE : Hid (Grain.up (l.take k) 10 = Grain.up (l.take i) 10 ++ [⟨A, Grain.of ((l.take k).drop i)⟩]) := by
              rcases RUN.out with e | ⟨_, e⟩
              · omega
              · exact e
            have HO' : Hid (k < l.length → Grain.Off (Grain.up (l.take k) 10) (Grain.beg (Grain.tm l k) 10)) := fun h => absurd (by rw [HN.out]; exact h) hk
            clear RUN
            have sgp := seg_part (HSG.out.below I.bel) i k
            have hlen : k - i = ((l.take k).drop i).length := by rw [List.length_drop, List.length_take, ← HN.out]; omega
            have Hlen := hide hlen
            have HV : Hid (∀ j, j < k - i → -9223372036854775808 ≤ Grain.vl ((l.take k).drop i) j ∧ Grain.vl ((l.take k).drop i) j ≤ 9223372036854775807) := by
              intro j hj
              rw [Grain.vl_sub (by omega)]
              have := HR.out.rng (i + j) (by rw [← HN.out]; omega)
              omega
            have SG := hide sgp
            clear hlen sgp
            go_wp2_with fail
            refine (rof_let ((l.take k).drop i) b (off + i * 2) (k - i) (cap - i) _ SG.out Hlen.out (by omega) (by omega) HV.out).mono ?_
            rintro e w4 ⟨J, HJ, rfl, hb4⟩
            have own4 := own_below I.own hb4
            have bel4 := I.bel.trans (hb4.mono hsz)
            have hs4 := bel4.size
            rw [← HJ.out] at HE
            clear hb4 SG HV Hlen
            go_wp2_with (at_builtin; refine wpList_append_lies _ rfl _ _ 39 rfl w.heap.size 57 i0 (.agg #[.int .i64 0, .int .i64 0, .int .i64 0, .int .i64 0, .int .i64 0, .int .i64 0, .int .i64 0, .int .i64 0]) 8 64 Try.underlying39 hi hz0 hz1 hz2 rfl (by decide) _ _ _ rfl (own4.alloc _) ⟨w4.heap.size, 0, none⟩ 1 1 (kc ⟨A, J⟩) rfl rfl (World.news_of_block (cs := #[.int .i64 A, .int .i64 J.c, .int .i64 J.t, .int .i64 J.mn, .int .i64 J.mx, .int .i64 J.f, .int .i64 J.l, .int .i64 J.r]) (t := 57) (fr := (0, 0)) (heap_alloc_new w4 _)) (by simp [kc, Value.oneCell']) (by decide) (by unfold maxLen; omega) (by omega) (by simp; omega) (w4.heap.size + 1) (by simp) ?_)
            intro g' cp' w5 own5 gr5 hat5 hlt5
            rw [← kcells_snoc, ← HE.out] at own5
            have bel5 : Below w.heap.size w w5 := (bel4.alloc hs4 _).grown gr5 (by simp; omega) (fun j hj => (I.own.lt j hj).1)
            have I5 : BkInv w.heap.size l 10 k (.slice (some ⟨g', 0, none⟩) (N + 1) cp') (N + 1) w w5 := ⟨own5, bel5, HO'.out⟩
            clear I own4 bel4 gr5 hat5 hlt5 HE HJ own5 bel5 HO'
            go_wp2
            go_roundw
            case rel => exact ⟨k, N + 1, cp', _, by omega, rfl, rfl, by omega, I5⟩
            case measure => simp [intOf]; omega
      · have he : i = n := by omega
        subst he
        have HT := hide (List.take_of_length_le (i := i) (l := l) (by rw [← HN.out]; omega))
        have own := I.own
        have bel := I.bel
        rw [HT.out] at own
        clear HT HN I
        go_wp2
        go_ret
        exact ⟨bo, N, c, rfl, own, bel⟩
  · go_enter Try.func24, Try.ntmps24
    go_wp2
    go_loopw [5, 6] (fun out i wr => ∃ (k N c : Nat) (bo : Option Addr), k ≤ n ∧ i = .int .i64 k ∧ out = .slice bo N c ∧ N ≤ k ∧ BkInv w.heap.size l 60 k (.slice bo N c) N w wr) (fun _ i _ => n - (intOf i).toNat)
    case atStart => exact ⟨0, 0, 0, none, Nat.zero_le _, rfl, rfl, Nat.le_refl _, ⟨World.ownsRow_nil _ _ _ _, Below.refl _ _, fun _ => Grain.off_nil _⟩⟩
    case round =>
      obtain ⟨i, N, c, bo, hi', rfl, rfl, hNi, I⟩ := hrel
      have hsz := I.bel.size
      by_cases hlt : i < n
      · have hil : i < l.length := by rw [← HN.out]; exact hlt
        obtain ⟨b, off, rfl, hcell⟩ := hs.sample hil
        have hb : b < w.heap.size := World.block_lt_of_cell? w ⟨b, off + i * 2, none⟩ (hcell i hil).1
        obtain ⟨a0, ha0⟩ : ∃ a0, a0 = Grain.tm l i := ⟨_, rfl⟩
        have c0 : wr.cell? ⟨b, off + i * 2, none⟩ = some (.int .i64 a0) := by rw [ha0]; exact (I.bel.cell (by exact hb)).trans (hcell i hil).1
        have hr0 := HR.out.rng i hil
        rw [← ha0] at hr0
        have ht0 : 0 ≤ a0 := hr0.1
        have ht1 : a0 ≤ 1000000 := hr0.2.1
        obtain ⟨A, hA⟩ : ∃ A, A = a0 / 60 * 60 := ⟨_, rfl⟩
        have hAb : A = Grain.beg a0 60 := by rw [hA]; unfold Grain.beg; omega
        have hA0 : 0 ≤ A := by omega
        have hA1 : A ≤ a0 := by omega
        have hA2 : a0 < A + 60 := by omega
        have HA := hide hAb
        have Ha0 := hide ha0
        have HC := hide hcell
        have Hil := hide hil
        have HSG := hide hs
        clear hr0 hAb ha0 hcell hil hs
        go_wp2
        rw [← hA]
        clear hA c0
        go_loopw [8] (fun q wq => ∃ (k : Nat), i ≤ k ∧ k ≤ n ∧ q = .int .i64 k ∧ BkInv w.heap.size l 60 i (.slice bo N c) N w wq ∧ Hid (k = i ∨ (i < k ∧ Grain.up (l.take k) 60 = Grain.up (l.take i) 60 ++ [⟨A, Grain.of ((l.take k).drop i)⟩]))) (fun q _ => n - (intOf q).toNat)
        case atStart => exact ⟨i, Nat.le_refl _, by omega, rfl, I, .inl rfl⟩
        case round =>
          clear I hsz
          obtain ⟨k, hik, hkn, rfl, I, RUN⟩ := hrel
          have hsz := I.bel.size
          by_cases hk : k < n
          · have hkl : k < l.length := by rw [← HN.out]; exact hk
            obtain ⟨t, ht⟩ : ∃ t, t = Grain.tm l k := ⟨_, rfl⟩
            have c0 : wr.cell? ⟨b, off + k * 2, none⟩ = some (.int .i64 t) := by rw [ht]; exact (I.bel.cell (by exact hb)).trans (HC.out k hkl).1
            have hr0 := HR.out.rng k hkl
            rw [← ht] at hr0
            have kt0 : 0 ≤ t := hr0.1
            have kt1 : t ≤ 1000000 := hr0.2.1
            have HKL := hide hkl
            have HK := hide ht
            have hle : a0 ≤ t := by rw [ht, Ha0.out]; exact Grain.right_le HR.out k hik hkl
            clear hr0 hkl ht
            by_cases hin : t < A + 60
            · have HR' : Hid (k + 1 = i ∨ (i < k + 1 ∧ Grain.up (l.take (k + 1)) 60 = Grain.up (l.take i) 60 ++ [⟨A, Grain.of ((l.take (k + 1)).drop i)⟩])) := by
                right
                have hAk : Grain.beg (Grain.tm l k) 60 = A := by
                  have h1 := HA.out
                  rw [← HK.out]
                  unfold Grain.beg at h1 ⊢
                  omega
                have ho := I.off Hil.out
                rw [← Ha0.out, ← HA.out] at ho
                exact ⟨by omega, Grain.up_run HKL.out hik (by rw [← HN.out]; omega) hAk ho RUN.out⟩
              clear RUN
              go_wp2
              go_roundw
              case rel => exact ⟨k + 1, by omega, by omega, by go_num, I, HR'⟩
              case measure => simp [intOf]; omega
            · have hik' : i < k := by
                rcases RUN.out with e | ⟨e, _⟩
                · exfalso
                  subst e
                  have h1 : t = a0 := by rw [HK.out, Ha0.out]
                  omega
                · exact e
              have HE : Hid (Grain.up (l.take k) 60 = Grain.up (l.take i) 60 ++ [⟨A, Grain.of ((l.take k).drop i)⟩]) := by
                rcases RUN.out with e | ⟨_, e⟩
                · omega
                · exact e
              have HO' : Hid (k < l.length → Grain.Off (Grain.up (l.take k) 60) (Grain.beg (Grain.tm l k) 60)) := by
                intro _
                rw [HE.out]
                refine Grain.off_snoc ?_
                have h1 := HA.out
                rw [← HK.out]
                unfold Grain.beg at h1 ⊢
                omega
              clear RUN
              have sgp := seg_part (HSG.out.below I.bel) i k
              have hlen : k - i = ((l.take k).drop i).length := by rw [List.length_drop, List.length_take, ← HN.out]; omega
              have Hlen := hide hlen
              have HV : Hid (∀ j, j < k - i → -9223372036854775808 ≤ Grain.vl ((l.take k).drop i) j ∧ Grain.vl ((l.take k).drop i) j ≤ 9223372036854775807) := by
                intro j hj
                rw [Grain.vl_sub (by omega)]
                have := HR.out.rng (i + j) (by rw [← HN.out]; omega)
                omega
              have SG := hide sgp
              clear hlen sgp
              go_wp2_with fail
              refine (rof_let ((l.take k).drop i) b (off + i * 2) (k - i) (cap - i) _ SG.out Hlen.out (by omega) (by omega) HV.out).mono ?_
              rintro e w4 ⟨J, HJ, rfl, hb4⟩
              have own4 := own_below I.own hb4
              have bel4 := I.bel.trans (hb4.mono hsz)
              have hs4 := bel4.size
              rw [← HJ.out] at HE
              clear hb4 SG HV Hlen
              go_wp2_with (at_builtin; refine wpList_append_lies _ rfl _ _ 39 rfl w.heap.size 57 i0 (.agg #[.int .i64 0, .int .i64 0, .int .i64 0, .int .i64 0, .int .i64 0, .int .i64 0, .int .i64 0, .int .i64 0]) 8 64 Try.underlying39 hi hz0 hz1 hz2 rfl (by decide) _ _ _ rfl (own4.alloc _) ⟨w4.heap.size, 0, none⟩ 1 1 (kc ⟨A, J⟩) rfl rfl (World.news_of_block (cs := #[.int .i64 A, .int .i64 J.c, .int .i64 J.t, .int .i64 J.mn, .int .i64 J.mx, .int .i64 J.f, .int .i64 J.l, .int .i64 J.r]) (t := 57) (fr := (0, 0)) (heap_alloc_new w4 _)) (by simp [kc, Value.oneCell']) (by decide) (by unfold maxLen; omega) (by omega) (by simp; omega) (w4.heap.size + 1) (by simp) ?_)
              intro g' cp' w5 own5 gr5 hat5 hlt5
              rw [← kcells_snoc, ← HE.out] at own5
              have bel5 : Below w.heap.size w w5 := (bel4.alloc hs4 _).grown gr5 (by simp; omega) (fun j hj => (I.own.lt j hj).1)
              have I5 : BkInv w.heap.size l 60 k (.slice (some ⟨g', 0, none⟩) (N + 1) cp') (N + 1) w w5 := ⟨own5, bel5, HO'.out⟩
              clear I own4 bel4 gr5 hat5 hlt5 HE HJ own5 bel5 HO'
              go_wp2
              go_roundw
              case rel => exact ⟨k, N + 1, cp', _, by omega, rfl, rfl, by omega, I5⟩
              case measure => simp [intOf]; omega
          · have hik' : i < k := by omega
            have HE : Hid (Grain.up (l.take k) 60 = Grain.up (l.take i) 60 ++ [⟨A, Grain.of ((l.take k).drop i)⟩]) := by
              rcases RUN.out with e | ⟨_, e⟩
              · omega
              · exact e
            have HO' : Hid (k < l.length → Grain.Off (Grain.up (l.take k) 60) (Grain.beg (Grain.tm l k) 60)) := fun h => absurd (by rw [HN.out]; exact h) hk
            clear RUN
            have sgp := seg_part (HSG.out.below I.bel) i k
            have hlen : k - i = ((l.take k).drop i).length := by rw [List.length_drop, List.length_take, ← HN.out]; omega
            have Hlen := hide hlen
            have HV : Hid (∀ j, j < k - i → -9223372036854775808 ≤ Grain.vl ((l.take k).drop i) j ∧ Grain.vl ((l.take k).drop i) j ≤ 9223372036854775807) := by
              intro j hj
              rw [Grain.vl_sub (by omega)]
              have := HR.out.rng (i + j) (by rw [← HN.out]; omega)
              omega
            have SG := hide sgp
            clear hlen sgp
            go_wp2_with fail
            refine (rof_let ((l.take k).drop i) b (off + i * 2) (k - i) (cap - i) _ SG.out Hlen.out (by omega) (by omega) HV.out).mono ?_
            rintro e w4 ⟨J, HJ, rfl, hb4⟩
            have own4 := own_below I.own hb4
            have bel4 := I.bel.trans (hb4.mono hsz)
            have hs4 := bel4.size
            rw [← HJ.out] at HE
            clear hb4 SG HV Hlen
            go_wp2_with (at_builtin; refine wpList_append_lies _ rfl _ _ 39 rfl w.heap.size 57 i0 (.agg #[.int .i64 0, .int .i64 0, .int .i64 0, .int .i64 0, .int .i64 0, .int .i64 0, .int .i64 0, .int .i64 0]) 8 64 Try.underlying39 hi hz0 hz1 hz2 rfl (by decide) _ _ _ rfl (own4.alloc _) ⟨w4.heap.size, 0, none⟩ 1 1 (kc ⟨A, J⟩) rfl rfl (World.news_of_block (cs := #[.int .i64 A, .int .i64 J.c, .int .i64 J.t, .int .i64 J.mn, .int .i64 J.mx, .int .i64 J.f, .int .i64 J.l, .int .i64 J.r]) (t := 57) (fr := (0, 0)) (heap_alloc_new w4 _)) (by simp [kc, Value.oneCell']) (by decide) (by unfold maxLen; omega) (by omega) (by simp; omega) (w4.heap.size + 1) (by simp) ?_)
            intro g' cp' w5 own5 gr5 hat5 hlt5
            rw [← kcells_snoc, ← HE.out] at own5
            have bel5 : Below w.heap.size w w5 := (bel4.alloc hs4 _).grown gr5 (by simp; omega) (fun j hj => (I.own.lt j hj).1)
            have I5 : BkInv w.heap.size l 60 k (.slice (some ⟨g', 0, none⟩) (N + 1) cp') (N + 1) w w5 := ⟨own5, bel5, HO'.out⟩
            clear I own4 bel4 gr5 hat5 hlt5 HE HJ own5 bel5 HO'
            go_wp2
            go_roundw
            case rel => exact ⟨k, N + 1, cp', _, by omega, rfl, rfl, by omega, I5⟩
            case measure => simp [intOf]; omega
      · have he : i = n := by omega
        subst he
        have HT := hide (List.take_of_length_le (i := i) (l := l) (by rw [← HN.out]; omega))
        have own := I.own
        have bel := I.bel
        rw [HT.out] at own
        clear HT HN I
        go_wp2
        go_ret
        exact ⟨bo, N, c, rfl, own, bel⟩

end Go.Proofs.Ytondeenhndkjbab
