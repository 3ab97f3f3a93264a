/-
  The walk of the document's Greater: coarse buckets of fine ones, run by run.
-/
import Derived.Test.YtondeenhndkjbabRollGr
import Derived.Test.YtondeenhndkjbabRollN
import Derived.Test.YtondeenhndkjbabRefIn
namespace Grain

/-- right fine buckets, from i on within one coarse one -/
theorem great_run {B : List Bk} {i k : Nat} {A : Int} {S : Sm} (hk : k < B.length)
    (hA : beg (bk B k).a 60 = A) (hoff : Off (great (B.take i)) A) (hrun : (k = i ∧ S = zero) ∨ (i < k ∧ great (B.take k) = great (B.take i) ++ [⟨A, S⟩])) :
    great (B.take (k + 1)) = great (B.take i) ++ [⟨A, join S (bk B k).s⟩] := by
  rw [great_take hk, hA]
  rcases hrun with ⟨rfl, rfl⟩ | ⟨_, e⟩
  · rw [put_off hoff, join_zero_left _ _ rfl]
  · rw [e, put_same]

theorem off_snoc {X : List Bk} {A A' : Int} {S : Sm} (h : A ≠ A') : Off (X ++ [⟨A, S⟩]) A' := by
  intro R b e
  have := (List.append_inj' e rfl).2
  simp at this
  subst this
  exact h

theorem off_nil (A : Int) : Off [] A := fun R b e => by simp at e

theorem rb_le {B : List Bk} {st : Int} (h : RB B st) {i : Nat} : ∀ k, i ≤ k → k < B.length → (bk B i).a ≤ (bk B k).a := by
  intro k
  induction k with
  | zero => intro h1 _; rw [show i = 0 from by omega]; exact Int.le_refl _
  | succ k ih =>
    intro h1 h2
    rcases (show i ≤ k ∨ i = k + 1 from by omega) with e | e
    · have := ih e (by omega)
      have := h.rise k h2
      omega
    · subst e; exact Int.le_refl _

end Grain
namespace Go.Proofs.Ytondeenhndkjbab
open Go.RowKit Go.GrainU

theorem eight_thaw {w : World} {B : Nat} {k : Grain.Bk} (h : w.heap[B]? = some (ko k)) : w.frozen? ⟨B, 1, none⟩ = false ∧ w.frozen? ⟨B, 2, none⟩ = false ∧ w.frozen? ⟨B, 3, none⟩ = false ∧ w.frozen? ⟨B, 4, none⟩ = false ∧ w.frozen? ⟨B, 5, none⟩ = false ∧ w.frozen? ⟨B, 6, none⟩ = false ∧ w.frozen? ⟨B, 7, none⟩ = false := by
  unfold ko at h
  simp [World.frozen?, h]

/-- a bucket's sum, written -/
def SetX (w : World) (X : Nat) (J : Grain.Sm) : World :=
  ((((((w.setCell ⟨X, 1, none⟩ (.int .i64 J.c)).setCell ⟨X, 2, none⟩ (.int .i64 J.t)).setCell ⟨X, 3, none⟩ (.int .i64 J.mn)).setCell ⟨X, 4, none⟩ (.int .i64 J.mx)).setCell ⟨X, 5, none⟩ (.int .i64 J.f)).setCell ⟨X, 6, none⟩ (.int .i64 J.l)).setCell ⟨X, 7, none⟩ (.int .i64 J.r)

theorem setX_block {w : World} {X : Nat} {A : Int} {S : Grain.Sm} (h : w.heap[X]? = some (ko ⟨A, S⟩)) (J : Grain.Sm) : (SetX w X J).heap[X]? = some (ko ⟨A, J⟩) := by
  unfold ko at h ⊢
  simp [SetX, World.setCell, Array.getElem?_modify, h]

theorem setX_grown (w : World) (X : Nat) (J : Grain.Sm) : w.grownBy (SetX w X J) (some X) :=
  grown_setCell (grown_setCell (grown_setCell (grown_setCell (grown_setCell (grown_setCell (grown_setCell (World.grownBy.refl _ _)))))))

theorem setX_below {w W : World} {A X : Nat} (bel : Below A w W) (hX : A ≤ X) (J : Grain.Sm) : Below A w (SetX W X J) :=
  ((((((bel.setCell hX _).setCell hX _).setCell hX _).setCell hX _).setCell hX _).setCell hX _).setCell hX _

/-- what the inner loop keeps -/
structure GrInv (base X : Nat) (B : List Grain.Bk) (i k : Nat) (A : Int) (S : Grain.Sm) (v : Value) (N : Nat) (w wr : World) : Prop where
  x : wr.heap[X]? = some (ko ⟨A, S⟩)
  own : wr.ownsRow base 57 8 v N (kcells (Grain.great (B.take i)))
  bel : Below base w wr
  run : (k = i ∧ S = Grain.zero) ∨ (i < k ∧ Grain.great (B.take k) = Grain.great (B.take i) ++ [⟨A, S⟩])

set_option maxHeartbeats 4000000 in
theorem rgreat_any (B : List Grain.Bk) (ao : Option Addr) (n cap : Nat) (w : World) (hs : Seg w ao (kcells B)) (hn : n = B.length) (hL : n ≤ 1000) (hB : Grain.RB B 10) :
    Calls Try.prog 21 #[.slice ao n cap] w fun e w' => ∃ bo N c, e = .returned (.slice bo N c) ∧ w'.ownsRow w.heap.size 57 8 (.slice bo N c) N (kcells (Grain.great B)) ∧ Below w.heap.size w w' := by
  obtain ⟨i0, hi, hz0, hz1, hz2⟩ := info_parts Try.infoBucket
  have HN := hide hn
  have HB := hide hB
  clear hn hB
  go_enter Try.func21, Try.ntmps21
  go_wp2
  go_loopw [3, 4] (fun out i wr => ∃ (k N c : Nat) (bo : Option Addr), k ≤ n ∧ i = .int .i64 k ∧ out = .slice bo N c ∧ N ≤ k ∧ Hid (k < n → Grain.Off (Grain.great (B.take k)) (Grain.beg (Grain.bk B k).a 60)) ∧ wr.ownsRow w.heap.size 57 8 (.slice bo N c) N (kcells (Grain.great (B.take k))) ∧ Below w.heap.size w wr) (fun _ i _ => n - (intOf i).toNat)
  case atStart => exact ⟨0, 0, 0, none, Nat.zero_le _, rfl, rfl, Nat.le_refl _, fun _ => Grain.off_nil _, World.ownsRow_nil _ _ _ _, Below.refl _ _⟩
  case round =>
    obtain ⟨i, N, c, bo, hi', rfl, rfl, hNi, HO, own, bel⟩ := hrel
    have hsz := bel.size
    by_cases hlt : i < n
    · have hil : i < B.length := by rw [← HN.out]; exact hlt
      obtain ⟨b, off, rfl, hb, hcell⟩ := seg_bucket hs hil
      obtain ⟨a0, ha0⟩ : ∃ a0, a0 = (Grain.bk B i).a := ⟨_, rfl⟩
      have c0 : wr.cell? ⟨b, off + i * 8, none⟩ = some (.int .i64 a0) := by rw [ha0]; exact ((hcell i hil).below bel hb).1
      have hr0 := Grain.inRB_get (HB.out.rng i hil)
      rw [← ha0] at hr0
      have ht0 : 0 ≤ a0 := hr0.1
      have ht1 : a0 ≤ 1000000 := hr0.2.1
      obtain ⟨A, hA⟩ : ∃ A, A = a0 / 60 * 60 := ⟨_, rfl⟩
      have hAb : A = Grain.beg a0 60 := by rw [hA]; unfold Grain.beg; omega
      have hA0 : 0 ≤ A := by omega
      have hA1 : A ≤ a0 := by omega
      have hA2 : a0 < A + 60 := by omega
      have HA := hide hAb
      have Ha0 := hide ha0
      have HC := hide hcell
      have Hil := hide hil
      clear hr0 hAb ha0 hcell hil
      go_wp2
      rw [← hA]
      obtain ⟨X, hX⟩ : ∃ X, X = wr.heap.size := ⟨_, rfl⟩
      have I0 : GrInv w.heap.size X B i i A Grain.zero (.slice bo N c) N w (wr.alloc (.cells #[.int .i64 A, .int .i64 0, .int .i64 0, .int .i64 0, .int .i64 0, .int .i64 0, .int .i64 0, .int .i64 0] 57)) :=
        ⟨by rw [hX]; exact heap_alloc_new wr _, own.alloc _, bel.alloc hsz _, .inl ⟨rfl, rfl⟩⟩
      have HX : Hid (∀ j, (Value.slice bo N c).ownBlock = some j → j ≠ X) := fun j hj => by have := (own.lt j hj).2; omega
      have hXw : w.heap.size ≤ X := by omega
      rw [← hX]
      clear hA own bel c0 hX hsz
      go_loopw [4] (fun q wq => ∃ (k : Nat) (S : Grain.Sm), i ≤ k ∧ k ≤ n ∧ q = .int .i64 k ∧ GrInv w.heap.size X B i k A S (.slice bo N c) N w wq) (fun q _ => n - (intOf q).toNat)
      case atStart => exact ⟨i, Grain.zero, Nat.le_refl _, by omega, rfl, I0⟩
      case round =>
        clear I0
        obtain ⟨k, S, hik, hkn, rfl, I⟩ := hrel
        have hsz := I.bel.size
        have hXr : X < wr.heap.size := lt_of_block I.x
        by_cases hk : k < n
        · have hkl : k < B.length := by rw [← HN.out]; exact hk
          obtain ⟨K, hK⟩ : ∃ K, K = Grain.bk B k := ⟨_, rfl⟩
          have q := (HC.out k hkl).below I.bel hb
          rw [← hK] at q
          obtain ⟨c0, c1, c2, c3, c4, c5, c6, c7⟩ := q
          have hr0 := Grain.inRB_get (HB.out.rng k hkl)
          rw [← hK] at hr0
          have kt0 : 0 ≤ K.a := hr0.1
          have kt1 : K.a ≤ 1000000 := hr0.2.1
          have HKL := hide hkl
          have HK := hide hK
          have hle : a0 ≤ K.a := by rw [hK, Ha0.out]; exact Grain.rb_le HB.out k hik hkl
          clear hr0 hkl hK
          by_cases hin : K.a < A + 60
          · obtain ⟨x0, x1, x2, x3, x4, x5, x6, x7⟩ := eight_cells I.x
            simp only at x0 x1 x2 x3 x4 x5 x6 x7
            have HR : Hid (∀ J, J = Grain.join S K.s → Grain.great (B.take (k + 1)) = Grain.great (B.take i) ++ [⟨A, J⟩]) := by
              intro J hJ
              have hAk : Grain.beg (Grain.bk B k).a 60 = A := by
                have h1 := HA.out
                rw [← HK.out]
                unfold Grain.beg at h1 ⊢
                omega
              have ho := HO.out hlt
              rw [← Ha0.out, ← HA.out] at ho
              rw [hJ, HK.out]
              exact Grain.great_run HKL.out hAk ho I.run
            go_wp2_with fail
            go_region_with
              (first
                | (go_at_call 31; refine (rjoin_let S K.s _).mono ?_; rintro e w2 ⟨J, HJ, rfl, hb2⟩; have hb2' : Below wr.heap.size wr w2 := (below_drewN (Below.refl _ wr) 1).trans hb2; have hx2 := below_block hb2' I.x; obtain ⟨p0, p1, p2, p3, p4, p5, p6, p7⟩ := eight_cells hx2; obtain ⟨t1, t2, t3, t4, t5, t6, t7⟩ := eight_thaw hx2; simp only at p0 p1 p2 p3 p4 p5 p6 p7))
            all_goals
              have F : GrInv w.heap.size X B i (k + 1) A J (.slice bo N c) N w (SetX w2 X J) :=
                ⟨setX_block hx2 J, (own_below I.own hb2').kept (setX_grown w2 X J) (by
                  cases hv : (Value.slice bo N c).ownBlock with
                  | none => exact .inl rfl
                  | some j => exact .inr (by intro e; simp at e; exact HX.out j hv e)), setX_below (I.bel.trans (hb2'.mono hsz)) hXw J, .inr ⟨by omega, HR.out J HJ.out⟩⟩
              obtain ⟨W3, hW3⟩ : ∃ W3, W3 = SetX w2 X J := ⟨_, rfl⟩
              rw [← hW3] at F
              rw [show (((((((w2.setCell ⟨X, 1, none⟩ (.int .i64 J.c)).setCell ⟨X, 2, none⟩ (.int .i64 J.t)).setCell ⟨X, 3, none⟩ (.int .i64 J.mn)).setCell ⟨X, 4, none⟩ (.int .i64 J.mx)).setCell ⟨X, 5, none⟩ (.int .i64 J.f)).setCell ⟨X, 6, none⟩ (.int .i64 J.l)).setCell ⟨X, 7, none⟩ (.int .i64 J.r)) = W3 from hW3.symm]
              clear I hx2 HR hb2 hb2' hW3 HJ c0 c1 c2 c3 c4 c5 c6 c7 x0 x1 x2 x3 x4 x5 x6 x7 p0 p1 p2 p3 p4 p5 p6 p7 t1 t2 t3 t4 t5 t6 t7
              go_wp2
              go_roundw
              case rel => exact ⟨k + 1, J, by omega, by omega, by go_num, F⟩
              case measure => simp [intOf]; omega
          · have hik' : i < k := by
              rcases I.run with ⟨e, _⟩ | ⟨e, _⟩
              · exfalso
                subst e
                have h1 : K.a = a0 := by rw [HK.out, Ha0.out]
                omega
              · exact e
            have HE : Hid (Grain.great (B.take k) = Grain.great (B.take i) ++ [⟨A, S⟩]) := by
              rcases I.run with ⟨e, _⟩ | ⟨_, e⟩
              · omega
              · exact e
            have HO' : Hid (k < n → Grain.Off (Grain.great (B.take k)) (Grain.beg (Grain.bk B k).a 60)) := by
              intro _
              rw [HE.out]
              refine Grain.off_snoc ?_
              have h1 := HA.out
              rw [← HK.out]
              unfold Grain.beg at h1 ⊢
              omega
            obtain ⟨x0, x1, x2, x3, x4, x5, x6, x7⟩ := eight_cells I.x
            simp only at x0 x1 x2 x3 x4 x5 x6 x7
            go_wp2_with (at_builtin; refine wpList_append_lies _ rfl _ _ 39 rfl w.heap.size 57 i0 (.agg #[.int .i64 0, .int .i64 0, .int .i64 0, .int .i64 0, .int .i64 0, .int .i64 0, .int .i64 0, .int .i64 0]) 8 64 Try.underlying39 hi hz0 hz1 hz2 rfl (by decide) _ _ _ rfl (I.own.alloc _) ⟨wr.heap.size, 0, none⟩ 1 1 (kc ⟨A, S⟩) rfl rfl (World.news_of_block (cs := #[.int .i64 A, .int .i64 S.c, .int .i64 S.t, .int .i64 S.mn, .int .i64 S.mx, .int .i64 S.f, .int .i64 S.l, .int .i64 S.r]) (t := 57) (fr := (0, 0)) (heap_alloc_new wr _)) (by simp [kc, Value.oneCell']) (by decide) (by unfold maxLen; omega) (by omega) (by simp; omega) (wr.heap.size + 1) (by simp) ?_)
            intro g' cp' w5 own5 gr5 hat5 hlt5
            rw [← kcells_snoc, ← HE.out] at own5
            have bel5 : Below w.heap.size w w5 := (I.bel.alloc hsz _).grown gr5 (by simp; omega) (fun j hj => (I.own.lt j hj).1)
            clear I gr5 hat5 hlt5 x0 x1 x2 x3 x4 x5 x6 x7 HE
            go_wp2
            go_roundw
            case rel => exact ⟨k, N + 1, cp', _, by omega, rfl, rfl, by omega, HO', own5, bel5⟩
            case measure => simp [intOf]; omega
        · have hik' : i < k := by omega
          have HE : Hid (Grain.great (B.take k) = Grain.great (B.take i) ++ [⟨A, S⟩]) := by
            rcases I.run with ⟨e, _⟩ | ⟨_, e⟩
            · omega
            · exact e
          have HO' : Hid (k < n → Grain.Off (Grain.great (B.take k)) (Grain.beg (Grain.bk B k).a 60)) := fun h => absurd h hk
          obtain ⟨x0, x1, x2, x3, x4, x5, x6, x7⟩ := eight_cells I.x
          simp only at x0 x1 x2 x3 x4 x5 x6 x7
          go_wp2_with (at_builtin; refine wpList_append_lies _ rfl _ _ 39 rfl w.heap.size 57 i0 (.agg #[.int .i64 0, .int .i64 0, .int .i64 0, .int .i64 0, .int .i64 0, .int .i64 0, .int .i64 0, .int .i64 0]) 8 64 Try.underlying39 hi hz0 hz1 hz2 rfl (by decide) _ _ _ rfl (I.own.alloc _) ⟨wr.heap.size, 0, none⟩ 1 1 (kc ⟨A, S⟩) rfl rfl (World.news_of_block (cs := #[.int .i64 A, .int .i64 S.c, .int .i64 S.t, .int .i64 S.mn, .int .i64 S.mx, .int .i64 S.f, .int .i64 S.l, .int .i64 S.r]) (t := 57) (fr := (0, 0)) (heap_alloc_new wr _)) (by simp [kc, Value.oneCell']) (by decide) (by unfold maxLen; omega) (by omega) (by simp; omega) (wr.heap.size + 1) (by simp) ?_)
          intro g' cp' w5 own5 gr5 hat5 hlt5
          rw [← kcells_snoc, ← HE.out] at own5
          have bel5 : Below w.heap.size w w5 := (I.bel.alloc hsz _).grown gr5 (by simp; omega) (fun j hj => (I.own.lt j hj).1)
          clear I gr5 hat5 hlt5 x0 x1 x2 x3 x4 x5 x6 x7 HE
          go_wp2
          go_roundw
          case rel => exact ⟨k, N + 1, cp', _, by omega, rfl, rfl, by omega, HO', own5, bel5⟩
          case measure => simp [intOf]; omega
    · have he : i = n := by omega
      subst he
      have HT := hide (List.take_of_length_le (i := i) (l := B) (by rw [← HN.out]; omega))
      rw [HT.out] at own
      clear HT HN HO
      go_wp2
      go_ret
      exact ⟨bo, N, c, rfl, own, bel⟩

end Go.Proofs.Ytondeenhndkjbab
