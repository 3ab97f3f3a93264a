/-
  For every input, PlanCovers returns true: what is chosen can be read: it covers the window, part by part, and no two that touch are of one tier. No condition.
-/
import Derived.Test.YtfgablhgjbjbkafPlA
import Derived.Test.YtfgablhgjbjbkafPlS
import Derived.Test.YtfgablhgjbjbkafShB
import Derived.Deep.RegionHeld3
import Derived.Test.YtfgablhgjbjbkafRollU
import Derived.Test.YtfgablhgjbjbkafShM
import Derived.Test.YtfgablhgjbjbkafJoin
import Derived.Test.YtfgablhgjbjbkafRollGr
import Derived.Test.YtfgablhgjbjbkafShD
import Derived.Test.YtfgablhgjbjbkafShCp
import Derived.Test.YtfgablhgjbjbkafPlB
import Derived.Test.YtfgablhgjbjbkafShE
import Derived.Test.YtfgablhgjbjbkafShNw
import Derived.Test.YtfgablhgjbjbkafPlE
import Derived.Test.YtfgablhgjbjbkafOpenShelf
/-
  The walks of plan's within and its closures, over samples.
-/
namespace Go.GrainU
open Go.RowKit

def cutP (pa : Option Addr) (pc p s : Nat) : Option Addr := if pc = p then pa else pa.map (·.add (p * s))

theorem seg_cutP {w : World} {pa : Option Addr} {xs : List Value} {n pc p1 p2 s : Nat} (h : Seg w pa xs) (hl : xs.length = n * s) (hc : n ≤ pc) (h12 : p1 ≤ p2) (h2 : p2 ≤ n) : Seg w (cutP pa pc p1 s) ((xs.take (p2 * s)).drop (p1 * s)) := by
  by_cases hp : p1 = p2
  · left
    subst hp
    rw [List.drop_eq_nil_of_le (by simp; omega)]
  · rcases h with h | ⟨b, off, rfl, h⟩
    · left; rw [h]; simp
    · have e : cutP (some ⟨b, off, none⟩) pc p1 s = some ⟨b, off + p1 * s, none⟩ := by
        unfold cutP
        rw [if_neg (by omega)]
        simp only [Option.map_some]
        rw [show (⟨b, off, none⟩ : Addr).add (p1 * s) = ⟨b, off + p1 * s, none⟩ from by unfold Addr.add; split <;> simp_all]
      rw [e]
      refine .inr ⟨b, off + p1 * s, rfl, fun j hj => ?_⟩
      simp at hj
      have := Nat.mul_le_mul_right s h2
      rw [Nat.add_assoc, h _ (by omega), List.getElem?_drop, List.getElem?_take, if_pos (by omega)]

theorem scells_td (l : List (Int × Int)) : ∀ p1 p2, ((scells l).take (p2 * 2)).drop (p1 * 2) = scells ((l.take p2).drop p1) := by
  have ht : ∀ (l : List (Int × Int)) p, (scells l).take (p * 2) = scells (l.take p) := by
    intro l
    induction l with
    | nil => intro p; simp [scells]
    | cons x r ih =>
      intro p
      cases p with
      | zero => simp [scells]
      | succ p => rw [show (p + 1) * 2 = p * 2 + 1 + 1 by omega]; simp [scells, ih]
  have hd : ∀ (l : List (Int × Int)) p, (scells l).drop (p * 2) = scells (l.drop p) := by
    intro l
    induction l with
    | nil => intro p; simp [scells]
    | cons x r ih =>
      intro p
      cases p with
      | zero => simp
      | succ p => rw [show (p + 1) * 2 = p * 2 + 1 + 1 by omega]; simp [scells, ih]
  intro p1 p2
  rw [ht, hd]

theorem kcells_td (l : List Grain.Bk) : ∀ p1 p2, ((kcells l).take (p2 * 8)).drop (p1 * 8) = kcells ((l.take p2).drop p1) := by
  have ht : ∀ (l : List Grain.Bk) p, (kcells l).take (p * 8) = kcells (l.take p) := by
    intro l
    induction l with
    | nil => intro p; simp [kcells]
    | cons x r ih =>
      intro p
      cases p with
      | zero => simp [kcells]
      | succ p => rw [show (p + 1) * 8 = p * 8 + 1 + 1 + 1 + 1 + 1 + 1 + 1 + 1 by omega]; simp [kcells, kc, ih]
  have hd : ∀ (l : List Grain.Bk) p, (kcells l).drop (p * 8) = kcells (l.drop p) := by
    intro l
    induction l with
    | nil => intro p; simp [kcells]
    | cons x r ih =>
      intro p
      cases p with
      | zero => simp
      | succ p => rw [show (p + 1) * 8 = p * 8 + 1 + 1 + 1 + 1 + 1 + 1 + 1 + 1 by omega]; simp [kcells, kc, ih]
  intro p1 p2
  rw [ht, hd]

end Go.GrainU
namespace Grain

/-- a window of what rises is a piece of it -/
theorem cut_filter {α : Type} (tm : α → Int) {l : List α} {f t : Int} {a b : Nat} (ha : a ≤ l.length) (hb : b ≤ l.length)
    (h1 : ∀ i (hi : i < l.length), tm l[i] < f ↔ i < a) (h2 : ∀ i (hi : i < l.length), tm l[i] < t ↔ i < b) (hft : f ≤ t) : a ≤ b ∧ (l.take b).drop a = l.filter fun x => decide (f ≤ tm x ∧ tm x < t) := by
  have hab : a ≤ b := by
    rcases Nat.lt_or_ge b a with hh | hh
    · have a1 := (h1 b (by omega)).2 hh
      have a2 := (h2 b (by omega)).1 (by omega)
      omega
    · exact hh
  refine ⟨hab, ?_⟩
  have hl : l = (l.take b).take a ++ ((l.take b).drop a ++ l.drop b) := by
    rw [← List.append_assoc, List.take_append_drop, List.take_append_drop]
  conv => rhs; rw [hl]
  rw [List.filter_append, List.filter_append]
  have f1 : ((l.take b).take a).filter (fun x => decide (f ≤ tm x ∧ tm x < t)) = [] := by
    rw [List.filter_eq_nil_iff]
    intro x hx
    obtain ⟨k, hk, rfl⟩ := List.mem_iff_getElem.1 hx
    simp at hk
    have := (h1 k (by omega)).2 (by omega)
    simp
    omega
  have f2 : ((l.take b).drop a).filter (fun x => decide (f ≤ tm x ∧ tm x < t)) = (l.take b).drop a := by
    rw [List.filter_eq_self]
    intro x hx
    obtain ⟨k, hk, rfl⟩ := List.mem_iff_getElem.1 hx
    simp at hk
    have a1 := (h2 (a + k) (by omega)).2 (by omega)
    have a2 : ¬ tm (l[a + k]'(by omega)) < f := fun hh => by have := (h1 (a + k) (by omega)).1 hh; omega
    simp
    omega
  have f3 : (l.drop b).filter (fun x => decide (f ≤ tm x ∧ tm x < t)) = [] := by
    rw [List.filter_eq_nil_iff]
    intro x hx
    obtain ⟨k, hk, rfl⟩ := List.mem_iff_getElem.1 hx
    simp at hk
    have : ¬ tm (l[b + k]'(by omega)) < t := fun hh => by have := (h2 (b + k) (by omega)).1 hh; omega
    simp
    omega
  rw [f1, f2, f3]; simp

end Grain
namespace Go.Proofs.Ytfgablhgjbjbkaf
open Go.RowKit Go.GrainU

theorem prt_any (t v : Int) (w : World) : Calls Try.prog 44 #[.agg #[.int .i64 t, .int .i64 v]] w fun e w' => e = .returned (.int .i64 t) ∧ Below w.heap.size w w' := by
  have bel : Below w.heap.size w (w.alloc (.cells #[.int .i64 t, .int .i64 v] 45)) := (Below.refl _ _).alloc (Nat.le_refl _) _
  go_enter Try.func44, Try.ntmps44
  go_wp2
  go_ret
  exact ⟨rfl, bel⟩

set_option maxHeartbeats 2000000 in
theorem wf1_any (l : List (Int × Int)) (ao : Option Addr) (n c Bt Bl Bp i : Nat) (f : Int) (w : World) (hs : Seg w ao (scells l)) (hn : n = l.length) (hi : i < n)
    (ht : w.cell? ⟨Bt, 0, none⟩ = some (.func (.func 44) #[] #[])) (hl : w.cell? ⟨Bl, 0, none⟩ = some (.slice ao n c)) (hf : w.cell? ⟨Bp, 1, none⟩ = some (.int .i64 f)) :
    Calls Try.prog 65 #[.int .i64 i, .pointer (some ⟨Bt, 0, none⟩), .pointer (some ⟨Bl, 0, none⟩), .pointer (some ⟨Bp, 0, none⟩)] w fun e w' => e = .returned (.bool (decide (f ≤ Grain.tm l i))) ∧ Below w.heap.size w w' := by
  have hil : i < l.length := by omega
  obtain ⟨b, off, rfl, hcell⟩ := hs.sample hil
  obtain ⟨T, hT⟩ : ∃ T, T = Grain.tm l i := ⟨_, rfl⟩
  obtain ⟨U, hU⟩ : ∃ U, U = Grain.vl l i := ⟨_, rfl⟩
  obtain ⟨c0, c1⟩ := hcell i hil
  rw [← hT] at c0 ⊢
  rw [← hU] at c1
  have R1 : Below w.heap.size w w.drew := below_drewN (Below.refl _ _) 1
  have HS : Hid (∀ w', Below w.heap.size w w' → w'.cell? ⟨Bt, 0, none⟩ = some (.func (.func 44) #[] #[]) ∧ w'.cell? ⟨Bl, 0, none⟩ = some (.slice (some ⟨b, off, none⟩) n c) ∧ w'.cell? ⟨Bp, 1, none⟩ = some (.int .i64 f) ∧ w'.cell? ⟨b, off + i * 2, none⟩ = some (.int .i64 T) ∧ w'.cell? ⟨b, off + i * 2 + 1, none⟩ = some (.int .i64 U)) :=
    fun w' hb => ⟨(hb.cell (by exact World.block_lt_of_cell? _ _ ht)).trans ht, (hb.cell (by exact World.block_lt_of_cell? _ _ hl)).trans hl, (hb.cell (by exact World.block_lt_of_cell? _ _ hf)).trans hf, (hb.cell (by exact World.block_lt_of_cell? _ _ c0)).trans c0, (hb.cell (by exact World.block_lt_of_cell? _ _ c1)).trans c1⟩
  clear hcell hT hU hs hn hil c0 c1 ht hl hf
  go_enter Try.func65, Try.ntmps65
  go_wp2
  go_region_held3 (fun w' => w'.cell? ⟨Bt, 0, none⟩ = some (.func (.func 44) #[] #[]) ∧ w'.cell? ⟨Bl, 0, none⟩ = some (.slice (some ⟨b, off, none⟩) n c) ∧ w'.cell? ⟨Bp, 1, none⟩ = some (.int .i64 f) ∧ w'.cell? ⟨b, off + i * 2, none⟩ = some (.int .i64 T) ∧ w'.cell? ⟨b, off + i * 2 + 1, none⟩ = some (.int .i64 U)) (exact HS.out _ (by assumption))
    (first | (go_at_call 44; refine (prt_any T U _).mono ?_; rintro e w1 ⟨rfl, hb1⟩; have R2 := below_pl hb1 (by assumption)))
  all_goals
    go_wp2
    go_ret
    exact ⟨rfl, R2⟩

set_option maxHeartbeats 2000000 in
theorem wf2_any (l : List (Int × Int)) (ao : Option Addr) (n c Bt Bl Bp i : Nat) (f : Int) (w : World) (hs : Seg w ao (scells l)) (hn : n = l.length) (hi : i < n)
    (ht : w.cell? ⟨Bt, 0, none⟩ = some (.func (.func 44) #[] #[])) (hl : w.cell? ⟨Bl, 0, none⟩ = some (.slice ao n c)) (hf : w.cell? ⟨Bp, 2, none⟩ = some (.int .i64 f)) :
    Calls Try.prog 66 #[.int .i64 i, .pointer (some ⟨Bt, 0, none⟩), .pointer (some ⟨Bl, 0, none⟩), .pointer (some ⟨Bp, 0, none⟩)] w fun e w' => e = .returned (.bool (decide (f ≤ Grain.tm l i))) ∧ Below w.heap.size w w' := by
  have hil : i < l.length := by omega
  obtain ⟨b, off, rfl, hcell⟩ := hs.sample hil
  obtain ⟨T, hT⟩ : ∃ T, T = Grain.tm l i := ⟨_, rfl⟩
  obtain ⟨U, hU⟩ : ∃ U, U = Grain.vl l i := ⟨_, rfl⟩
  obtain ⟨c0, c1⟩ := hcell i hil
  rw [← hT] at c0 ⊢
  rw [← hU] at c1
  have R1 : Below w.heap.size w w.drew := below_drewN (Below.refl _ _) 1
  have HS : Hid (∀ w', Below w.heap.size w w' → w'.cell? ⟨Bt, 0, none⟩ = some (.func (.func 44) #[] #[]) ∧ w'.cell? ⟨Bl, 0, none⟩ = some (.slice (some ⟨b, off, none⟩) n c) ∧ w'.cell? ⟨Bp, 2, none⟩ = some (.int .i64 f) ∧ w'.cell? ⟨b, off + i * 2, none⟩ = some (.int .i64 T) ∧ w'.cell? ⟨b, off + i * 2 + 1, none⟩ = some (.int .i64 U)) :=
    fun w' hb => ⟨(hb.cell (by exact World.block_lt_of_cell? _ _ ht)).trans ht, (hb.cell (by exact World.block_lt_of_cell? _ _ hl)).trans hl, (hb.cell (by exact World.block_lt_of_cell? _ _ hf)).trans hf, (hb.cell (by exact World.block_lt_of_cell? _ _ c0)).trans c0, (hb.cell (by exact World.block_lt_of_cell? _ _ c1)).trans c1⟩
  clear hcell hT hU hs hn hil c0 c1 ht hl hf
  go_enter Try.func66, Try.ntmps66
  go_wp2
  go_region_held3 (fun w' => w'.cell? ⟨Bt, 0, none⟩ = some (.func (.func 44) #[] #[]) ∧ w'.cell? ⟨Bl, 0, none⟩ = some (.slice (some ⟨b, off, none⟩) n c) ∧ w'.cell? ⟨Bp, 2, none⟩ = some (.int .i64 f) ∧ w'.cell? ⟨b, off + i * 2, none⟩ = some (.int .i64 T) ∧ w'.cell? ⟨b, off + i * 2 + 1, none⟩ = some (.int .i64 U)) (exact HS.out _ (by assumption))
    (first | (go_at_call 44; refine (prt_any T U _).mono ?_; rintro e w1 ⟨rfl, hb1⟩; have R2 := below_pl hb1 (by assumption)))
  all_goals
    go_wp2
    go_ret
    exact ⟨rfl, R2⟩

/-- where a time comes, among rising ones -/
theorem rise_mono {l : List (Int × Int)} (h : l.Pairwise (fun x y => x.1 < y.1)) (f : Int) : ∀ a b, a ≤ b → b < l.length → decide (f ≤ Grain.tm l a) = true → decide (f ≤ Grain.tm l b) = true := by
  intro a b hab hb ha
  rcases Nat.lt_or_ge a b with hl | hl
  · have := List.pairwise_iff_getElem.1 h a b (by omega) hb hl
    simp [Grain.tm, List.getD, List.getElem?_eq_getElem hb, List.getElem?_eq_getElem (show a < l.length by omega)] at ha ⊢
    omega
  · obtain rfl : a = b := by omega
    exact ha

set_option maxHeartbeats 2000000 in
theorem within_any (l : List (Int × Int)) (ao : Option Addr) (n c : Nat) (p : Grain.Pt) (w : World) (hs : Seg w ao (scells l)) (hn : n = l.length) (hc : n ≤ c) (hL : n ≤ 1000000) (hpw : l.Pairwise (fun x y => x.1 < y.1)) (hft : p.f ≤ p.t) :
    Calls Try.prog 43 #[.slice ao n c, .agg #[.int .i64 p.k, .int .i64 p.f, .int .i64 p.t], .func (.func 44) #[] #[]] w fun e w' => ∃ (bo : Option Addr) (m d : Nat), e = .returned (.slice bo m d) ∧ Seg w bo (scells (Grain.win l p.f p.t)) ∧ Hid (m = (Grain.win l p.f p.t).length) ∧ Below w.heap.size w w' := by
  obtain ⟨k, f, t⟩ := p
  simp only at hft
  obtain ⟨X, hX⟩ : ∃ X, X = w.heap.size := ⟨_, rfl⟩
  obtain ⟨V, hV⟩ : ∃ V, V = ((w.alloc (.cells #[.slice ao n c] 24)).alloc (.cells #[.int .i64 k, .int .i64 f, .int .i64 t] 34)).alloc (.cells #[.func (.func 44) #[] #[]] 89) := ⟨_, rfl⟩
  have bel : Below w.heap.size w V := by rw [hV]; exact (((Below.refl _ _).alloc (Nat.le_refl _) _).alloc (by simp) _).alloc (by simp; omega) _
  have B0 : V.heap[X]? = some (.cells #[.slice ao n c] 24 (0, 0)) := by
    rw [hV, hX, Below.heap_alloc _ _ _ (by simp; omega), Below.heap_alloc _ _ _ (by simp)]; exact heap_alloc_new w _
  have B1 : V.heap[X + 1]? = some (.cells #[.int .i64 k, .int .i64 f, .int .i64 t] 34 (0, 0)) := by
    rw [hV, hX, Below.heap_alloc _ _ _ (by simp)]; have := heap_alloc_new (w.alloc (.cells #[.slice ao n c] 24)) (.cells #[.int .i64 k, .int .i64 f, .int .i64 t] 34); rwa [World.size_alloc] at this
  have B2 : V.heap[X + 2]? = some (.cells #[.func (.func 44) #[] #[]] 89 (0, 0)) := by
    rw [hV, hX]; have := heap_alloc_new ((w.alloc (.cells #[.slice ao n c] 24)).alloc (.cells #[.int .i64 k, .int .i64 f, .int .i64 t] 34)) (.cells #[.func (.func 44) #[] #[]] 89); rwa [World.size_alloc, World.size_alloc] at this
  have cL : V.cell? ⟨X, 0, none⟩ = some (.slice ao n c) := by rw [cell_of_row V X _ _ _ (0, 0) B0]; rfl
  have cT : V.cell? ⟨X + 2, 0, none⟩ = some (.func (.func 44) #[] #[]) := by rw [cell_of_row V (X + 2) _ _ _ (0, 0) B2]; rfl
  obtain ⟨p0, p1, p2⟩ := three3 B1
  have lX := lt_of_block B0
  have lX1 := lt_of_block B1
  have lX2 := lt_of_block B2
  have hsV := hs.below bel
  have hE1 := hide (enters (P := Try.prog) (f := 65) Try.func65 (by kernel_rfl) (by kernel_rfl))
  have hE2 := hide (enters (P := Try.prog) (f := 66) Try.func66 (by kernel_rfl) (by kernel_rfl))
  have HA : Hid (∀ W, Below V.heap.size V W → Calls Try.prog 64 #[.int .i64 n, .func (.func 65) #[] #[.pointer (some ⟨X + 2, 0, none⟩), .pointer (some ⟨X, 0, none⟩), .pointer (some ⟨X + 1, 0, none⟩)]] W fun e w' => ∃ r : Nat, r ≤ n ∧ Hid ((∀ t, t < r → decide (f ≤ Grain.tm l t) = false) ∧ ∀ t, r ≤ t → t < n → decide (f ≤ Grain.tm l t) = true) ∧ e = .returned (.int .i64 r) ∧ Below W.heap.size W w') := by
    intro W hb
    refine search_any (fun i => decide (f ≤ Grain.tm l i)) _ _ n W hL hE1 (fun W' i hi hb' => ?_) (fun a b h1 h2 => rise_mono hpw f a b h1 (by omega))
    have hbb := below_pl hb' hb
    exact wf1_any l ao n c (X + 2) X (X + 1) i f W' (hsV.below hbb) hn hi ((hbb.cell (by exact lX2)).trans cT) ((hbb.cell (by exact lX)).trans cL) ((hbb.cell (by exact lX1)).trans p1)
  have HB : Hid (∀ W, Below V.heap.size V W → Calls Try.prog 64 #[.int .i64 n, .func (.func 66) #[] #[.pointer (some ⟨X + 2, 0, none⟩), .pointer (some ⟨X, 0, none⟩), .pointer (some ⟨X + 1, 0, none⟩)]] W fun e w' => ∃ r : Nat, r ≤ n ∧ Hid ((∀ i, i < r → decide (t ≤ Grain.tm l i) = false) ∧ ∀ i, r ≤ i → i < n → decide (t ≤ Grain.tm l i) = true) ∧ e = .returned (.int .i64 r) ∧ Below W.heap.size W w') := by
    intro W hb
    refine search_any (fun i => decide (t ≤ Grain.tm l i)) _ _ n W hL hE2 (fun W' i hi hb' => ?_) (fun a b h1 h2 => rise_mono hpw t a b h1 (by omega))
    have hbb := below_pl hb' hb
    exact wf2_any l ao n c (X + 2) X (X + 1) i t W' (hsV.below hbb) hn hi ((hbb.cell (by exact lX2)).trans cT) ((hbb.cell (by exact lX)).trans cL) ((hbb.cell (by exact lX1)).trans p2)
  have HN := hide hn
  have HV := hide hV
  have HX := hide hX
  have HS := hide hs
  have HPW := hide hpw
  have HFT := hide hft
  have hXV : X ≤ V.heap.size := by omega
  clear hn hV hX hs hsV hE1 hE2 B0 B1 B2 hpw p0 p1 p2 lX1 lX2 hft
  go_enter Try.func43, Try.ntmps43
  go_wp2_with fail
  rw [← HV.out, ← HX.out]
  refine (HA.out V (Below.refl _ _)).mono ?_
  rintro e w1 ⟨r1, hr1, I1, rfl, hb1⟩
  have cL1 := (hb1.cell (p := ⟨X, 0, none⟩) (by exact lX)).trans cL
  clear HA
  go_wp2_with fail
  refine (HB.out w1 hb1).mono ?_
  rintro e w2 ⟨r2, hr2, I2, rfl, hb2⟩
  have bel2 : Below V.heap.size V w2 := below_pl hb2 hb1
  have cL2 := (bel2.cell (p := ⟨X, 0, none⟩) (by exact lX)).trans cL
  have C := Grain.cut_filter (fun x : Int × Int => x.1) (l := l) (f := f) (t := t) (a := r1) (b := r2) (by rw [← HN.out]; exact hr1) (by rw [← HN.out]; exact hr2) (fun i hi => ?c1) (fun i hi => ?c2) HFT.out
  case c1 =>
    have e : Grain.tm l i = l[i].1 := by simp [Grain.tm, List.getD, List.getElem?_eq_getElem hi]
    rw [← e]
    constructor
    · intro h
      rcases Nat.lt_or_ge i r1 with h' | h'
      · exact h'
      · have := I1.out.2 i h' (by rw [HN.out]; exact hi)
        simp at this; omega
    · intro h
      have := I1.out.1 i h
      simp at this; omega
  case c2 =>
    have e : Grain.tm l i = l[i].1 := by simp [Grain.tm, List.getD, List.getElem?_eq_getElem hi]
    rw [← e]
    constructor
    · intro h
      rcases Nat.lt_or_ge i r2 with h' | h'
      · exact h'
      · have := I2.out.2 i h' (by rw [HN.out]; exact hi)
        simp at this; omega
    · intro h
      have := I2.out.1 i h
      simp at this; omega
  obtain ⟨h12, hcut⟩ := C
  obtain ⟨so, hso⟩ : ∃ so, so = cutP ao c r1 2 := ⟨_, rfl⟩
  obtain ⟨sl, hsl⟩ : ∃ sl, sl = r2 - r1 := ⟨_, rfl⟩
  obtain ⟨sd, hsd⟩ : ∃ sd, sd = c - r1 := ⟨_, rfl⟩
  have hseg : Seg w so (scells (Grain.win l f t)) := by
    rw [hso, show Grain.win l f t = (l.take r2).drop r1 from hcut.symm, ← scells_td]
    exact seg_cutP (n := n) HS.out (by rw [scells_length, HN.out]) hc h12 (by omega)
  have hlen : sl = (Grain.win l f t).length := by
    rw [hsl, show Grain.win l f t = (l.take r2).drop r1 from hcut.symm, List.length_drop, List.length_take, ← HN.out]; omega
  have hsl1 : ∀ w, Sem.run Try.prog (Instr.slice 24 (.slice ao n c) (some (.int .i64 r1)) (some (.int .i64 r2)) none) w = .ok (.slice so sl sd) w := by
    intro w
    rw [run_slice_lh (P := Try.prog) (t := 24) (ht := by kernel_rfl) (a := ao) (len := n) (cap := c) (kl := .i64) (kh := .i64) (l := (r1 : Int)) (h := (r2 : Int)) (h0 := by omega) (h1 := by omega) (h2 := by omega)]
    rw [hso, hsl, hsd]
    simp [sliced, cutP, go_sem]
  have hsl2 : ∀ w, Sem.run Try.prog (Instr.sliceAt 24 (.slice ao n c) (some (.int .i64 r1)) (some (.int .i64 r2)) none) w = .ok (.slice so sl sd) w := by
    intro w
    rw [run_sliceAt_slice (P := Try.prog) (t := 24) (h := by kernel_rfl)]
    exact hsl1 w
  have HG := hide hseg
  have HLn := hide hlen
  clear hso hsl hsd hcut hseg hlen I1 I2 HS HPW
  go_wp2
  go_ret
  exact ⟨so, sl, sd, rfl, HG.out, HLn, by first | exact bel.trans (bel2.mono bel.size) | (rw [← HX.out]; exact bel.trans (bel2.mono hXV))⟩

end Go.Proofs.Ytfgablhgjbjbkaf

/-
  The walks of plan's within and its closures, over buckets.
-/
namespace Go.Proofs.Ytfgablhgjbjbkaf
open Go.RowKit Go.GrainU

theorem krt_any (T : Grain.Bk) (w : World) : Calls Try.prog 62 #[.agg #[.int .i64 T.a, .int .i64 T.s.c, .int .i64 T.s.t, .int .i64 T.s.mn, .int .i64 T.s.mx, .int .i64 T.s.f, .int .i64 T.s.l, .int .i64 T.s.r]] w fun e w' => e = .returned (.int .i64 T.a) ∧ Below w.heap.size w w' := by
  have bel : Below w.heap.size w (w.alloc (.cells #[.int .i64 T.a, .int .i64 T.s.c, .int .i64 T.s.t, .int .i64 T.s.mn, .int .i64 T.s.mx, .int .i64 T.s.f, .int .i64 T.s.l, .int .i64 T.s.r] 78)) := (Below.refl _ _).alloc (Nat.le_refl _) _
  go_enter Try.func62, Try.ntmps62
  go_wp2
  go_ret
  exact ⟨rfl, bel⟩

set_option maxHeartbeats 2000000 in
theorem kf1_any (l : List Grain.Bk) (ao : Option Addr) (n c Bt Bl Bp i : Nat) (f : Int) (w : World) (hs : Seg w ao (kcells l)) (hn : n = l.length) (hi : i < n)
    (ht : w.cell? ⟨Bt, 0, none⟩ = some (.func (.func 62) #[] #[])) (hl : w.cell? ⟨Bl, 0, none⟩ = some (.slice ao n c)) (hf : w.cell? ⟨Bp, 1, none⟩ = some (.int .i64 f)) :
    Calls Try.prog 72 #[.int .i64 i, .pointer (some ⟨Bt, 0, none⟩), .pointer (some ⟨Bl, 0, none⟩), .pointer (some ⟨Bp, 0, none⟩)] w fun e w' => e = .returned (.bool (decide (f ≤ (Grain.bk l i).a))) ∧ Below w.heap.size w w' := by
  have hil : i < l.length := by omega
  obtain ⟨b, off, rfl, _, hcell⟩ := seg_bucket hs hil
  obtain ⟨T, hT⟩ : ∃ T, T = Grain.bk l i := ⟨_, rfl⟩
  have q := hcell i hil
  rw [← hT] at q ⊢
  obtain ⟨c0, c1, c2, c3, c4, c5, c6, c7⟩ := q
  have R1 : Below w.heap.size w w.drew := below_drewN (Below.refl _ _) 1
  have HS : Hid (∀ w', Below w.heap.size w w' → w'.cell? ⟨Bt, 0, none⟩ = some (.func (.func 62) #[] #[]) ∧ w'.cell? ⟨Bl, 0, none⟩ = some (.slice (some ⟨b, off, none⟩) n c) ∧ w'.cell? ⟨Bp, 1, none⟩ = some (.int .i64 f) ∧ w'.cell? ⟨b, off + i * 8, none⟩ = some (.int .i64 T.a) ∧ w'.cell? ⟨b, off + i * 8 + 1, none⟩ = some (.int .i64 T.s.c) ∧ w'.cell? ⟨b, off + i * 8 + 2, none⟩ = some (.int .i64 T.s.t) ∧ w'.cell? ⟨b, off + i * 8 + 3, none⟩ = some (.int .i64 T.s.mn) ∧ w'.cell? ⟨b, off + i * 8 + 4, none⟩ = some (.int .i64 T.s.mx) ∧ w'.cell? ⟨b, off + i * 8 + 5, none⟩ = some (.int .i64 T.s.f) ∧ w'.cell? ⟨b, off + i * 8 + 6, none⟩ = some (.int .i64 T.s.l) ∧ w'.cell? ⟨b, off + i * 8 + 7, none⟩ = some (.int .i64 T.s.r)) :=
    fun w' hb => ⟨(hb.cell (by exact World.block_lt_of_cell? _ _ ht)).trans ht, (hb.cell (by exact World.block_lt_of_cell? _ _ hl)).trans hl, (hb.cell (by exact World.block_lt_of_cell? _ _ hf)).trans hf, (hb.cell (by exact World.block_lt_of_cell? _ _ c0)).trans c0, (hb.cell (by exact World.block_lt_of_cell? _ _ c1)).trans c1, (hb.cell (by exact World.block_lt_of_cell? _ _ c2)).trans c2, (hb.cell (by exact World.block_lt_of_cell? _ _ c3)).trans c3, (hb.cell (by exact World.block_lt_of_cell? _ _ c4)).trans c4, (hb.cell (by exact World.block_lt_of_cell? _ _ c5)).trans c5, (hb.cell (by exact World.block_lt_of_cell? _ _ c6)).trans c6, (hb.cell (by exact World.block_lt_of_cell? _ _ c7)).trans c7⟩
  clear hcell hT hs hn hil c0 c1 c2 c3 c4 c5 c6 c7 ht hl hf
  go_enter Try.func72, Try.ntmps72
  go_wp2
  go_region_held3 (fun w' => w'.cell? ⟨Bt, 0, none⟩ = some (.func (.func 62) #[] #[]) ∧ w'.cell? ⟨Bl, 0, none⟩ = some (.slice (some ⟨b, off, none⟩) n c) ∧ w'.cell? ⟨Bp, 1, none⟩ = some (.int .i64 f) ∧ w'.cell? ⟨b, off + i * 8, none⟩ = some (.int .i64 T.a) ∧ w'.cell? ⟨b, off + i * 8 + 1, none⟩ = some (.int .i64 T.s.c) ∧ w'.cell? ⟨b, off + i * 8 + 2, none⟩ = some (.int .i64 T.s.t) ∧ w'.cell? ⟨b, off + i * 8 + 3, none⟩ = some (.int .i64 T.s.mn) ∧ w'.cell? ⟨b, off + i * 8 + 4, none⟩ = some (.int .i64 T.s.mx) ∧ w'.cell? ⟨b, off + i * 8 + 5, none⟩ = some (.int .i64 T.s.f) ∧ w'.cell? ⟨b, off + i * 8 + 6, none⟩ = some (.int .i64 T.s.l) ∧ w'.cell? ⟨b, off + i * 8 + 7, none⟩ = some (.int .i64 T.s.r)) (exact HS.out _ (by assumption))
    (first | (go_at_call 62; refine (krt_any T _).mono ?_; rintro e w1 ⟨rfl, hb1⟩; have R2 := below_pl hb1 (by assumption)))
  all_goals
    go_wp2
    go_ret
    exact ⟨rfl, R2⟩

set_option maxHeartbeats 2000000 in
theorem kf2_any (l : List Grain.Bk) (ao : Option Addr) (n c Bt Bl Bp i : Nat) (f : Int) (w : World) (hs : Seg w ao (kcells l)) (hn : n = l.length) (hi : i < n)
    (ht : w.cell? ⟨Bt, 0, none⟩ = some (.func (.func 62) #[] #[])) (hl : w.cell? ⟨Bl, 0, none⟩ = some (.slice ao n c)) (hf : w.cell? ⟨Bp, 2, none⟩ = some (.int .i64 f)) :
    Calls Try.prog 73 #[.int .i64 i, .pointer (some ⟨Bt, 0, none⟩), .pointer (some ⟨Bl, 0, none⟩), .pointer (some ⟨Bp, 0, none⟩)] w fun e w' => e = .returned (.bool (decide (f ≤ (Grain.bk l i).a))) ∧ Below w.heap.size w w' := by
  have hil : i < l.length := by omega
  obtain ⟨b, off, rfl, _, hcell⟩ := seg_bucket hs hil
  obtain ⟨T, hT⟩ : ∃ T, T = Grain.bk l i := ⟨_, rfl⟩
  have q := hcell i hil
  rw [← hT] at q ⊢
  obtain ⟨c0, c1, c2, c3, c4, c5, c6, c7⟩ := q
  have R1 : Below w.heap.size w w.drew := below_drewN (Below.refl _ _) 1
  have HS : Hid (∀ w', Below w.heap.size w w' → w'.cell? ⟨Bt, 0, none⟩ = some (.func (.func 62) #[] #[]) ∧ w'.cell? ⟨Bl, 0, none⟩ = some (.slice (some ⟨b, off, none⟩) n c) ∧ w'.cell? ⟨Bp, 2, none⟩ = some (.int .i64 f) ∧ w'.cell? ⟨b, off + i * 8, none⟩ = some (.int .i64 T.a) ∧ w'.cell? ⟨b, off + i * 8 + 1, none⟩ = some (.int .i64 T.s.c) ∧ w'.cell? ⟨b, off + i * 8 + 2, none⟩ = some (.int .i64 T.s.t) ∧ w'.cell? ⟨b, off + i * 8 + 3, none⟩ = some (.int .i64 T.s.mn) ∧ w'.cell? ⟨b, off + i * 8 + 4, none⟩ = some (.int .i64 T.s.mx) ∧ w'.cell? ⟨b, off + i * 8 + 5, none⟩ = some (.int .i64 T.s.f) ∧ w'.cell? ⟨b, off + i * 8 + 6, none⟩ = some (.int .i64 T.s.l) ∧ w'.cell? ⟨b, off + i * 8 + 7, none⟩ = some (.int .i64 T.s.r)) :=
    fun w' hb => ⟨(hb.cell (by exact World.block_lt_of_cell? _ _ ht)).trans ht, (hb.cell (by exact World.block_lt_of_cell? _ _ hl)).trans hl, (hb.cell (by exact World.block_lt_of_cell? _ _ hf)).trans hf, (hb.cell (by exact World.block_lt_of_cell? _ _ c0)).trans c0, (hb.cell (by exact World.block_lt_of_cell? _ _ c1)).trans c1, (hb.cell (by exact World.block_lt_of_cell? _ _ c2)).trans c2, (hb.cell (by exact World.block_lt_of_cell? _ _ c3)).trans c3, (hb.cell (by exact World.block_lt_of_cell? _ _ c4)).trans c4, (hb.cell (by exact World.block_lt_of_cell? _ _ c5)).trans c5, (hb.cell (by exact World.block_lt_of_cell? _ _ c6)).trans c6, (hb.cell (by exact World.block_lt_of_cell? _ _ c7)).trans c7⟩
  clear hcell hT hs hn hil c0 c1 c2 c3 c4 c5 c6 c7 ht hl hf
  go_enter Try.func73, Try.ntmps73
  go_wp2
  go_region_held3 (fun w' => w'.cell? ⟨Bt, 0, none⟩ = some (.func (.func 62) #[] #[]) ∧ w'.cell? ⟨Bl, 0, none⟩ = some (.slice (some ⟨b, off, none⟩) n c) ∧ w'.cell? ⟨Bp, 2, none⟩ = some (.int .i64 f) ∧ w'.cell? ⟨b, off + i * 8, none⟩ = some (.int .i64 T.a) ∧ w'.cell? ⟨b, off + i * 8 + 1, none⟩ = some (.int .i64 T.s.c) ∧ w'.cell? ⟨b, off + i * 8 + 2, none⟩ = some (.int .i64 T.s.t) ∧ w'.cell? ⟨b, off + i * 8 + 3, none⟩ = some (.int .i64 T.s.mn) ∧ w'.cell? ⟨b, off + i * 8 + 4, none⟩ = some (.int .i64 T.s.mx) ∧ w'.cell? ⟨b, off + i * 8 + 5, none⟩ = some (.int .i64 T.s.f) ∧ w'.cell? ⟨b, off + i * 8 + 6, none⟩ = some (.int .i64 T.s.l) ∧ w'.cell? ⟨b, off + i * 8 + 7, none⟩ = some (.int .i64 T.s.r)) (exact HS.out _ (by assumption))
    (first | (go_at_call 62; refine (krt_any T _).mono ?_; rintro e w1 ⟨rfl, hb1⟩; have R2 := below_pl hb1 (by assumption)))
  all_goals
    go_wp2
    go_ret
    exact ⟨rfl, R2⟩

/-- where a time comes, among rising ones -/
theorem krise_mono {l : List Grain.Bk} (h : l.Pairwise (fun x y => x.a < y.a)) (f : Int) : ∀ a b, a ≤ b → b < l.length → decide (f ≤ (Grain.bk l a).a) = true → decide (f ≤ (Grain.bk l b).a) = true := by
  intro a b hab hb ha
  rcases Nat.lt_or_ge a b with hl | hl
  · have := List.pairwise_iff_getElem.1 h a b (by omega) hb hl
    simp [Grain.bk, List.getD, List.getElem?_eq_getElem hb, List.getElem?_eq_getElem (show a < l.length by omega)] at ha ⊢
    omega
  · obtain rfl : a = b := by omega
    exact ha

set_option maxHeartbeats 2000000 in
theorem kwithin_any (l : List Grain.Bk) (ao : Option Addr) (n c : Nat) (p : Grain.Pt) (w : World) (hs : Seg w ao (kcells l)) (hn : n = l.length) (hc : n ≤ c) (hL : n ≤ 1000000) (hpw : l.Pairwise (fun x y => x.a < y.a)) (hft : p.f ≤ p.t) :
    Calls Try.prog 61 #[.slice ao n c, .agg #[.int .i64 p.k, .int .i64 p.f, .int .i64 p.t], .func (.func 62) #[] #[]] w fun e w' => ∃ (bo : Option Addr) (m d : Nat), e = .returned (.slice bo m d) ∧ Seg w bo (kcells (Grain.winB l p.f p.t)) ∧ Hid (m = (Grain.winB l p.f p.t).length) ∧ Below w.heap.size w w' := by
  obtain ⟨k, f, t⟩ := p
  simp only at hft
  obtain ⟨X, hX⟩ : ∃ X, X = w.heap.size := ⟨_, rfl⟩
  obtain ⟨V, hV⟩ : ∃ V, V = ((w.alloc (.cells #[.slice ao n c] 25)).alloc (.cells #[.int .i64 k, .int .i64 f, .int .i64 t] 34)).alloc (.cells #[.func (.func 62) #[] #[]] 99) := ⟨_, rfl⟩
  have bel : Below w.heap.size w V := by rw [hV]; exact (((Below.refl _ _).alloc (Nat.le_refl _) _).alloc (by simp) _).alloc (by simp; omega) _
  have B0 : V.heap[X]? = some (.cells #[.slice ao n c] 25 (0, 0)) := by
    rw [hV, hX, Below.heap_alloc _ _ _ (by simp; omega), Below.heap_alloc _ _ _ (by simp)]; exact heap_alloc_new w _
  have B1 : V.heap[X + 1]? = some (.cells #[.int .i64 k, .int .i64 f, .int .i64 t] 34 (0, 0)) := by
    rw [hV, hX, Below.heap_alloc _ _ _ (by simp)]; have := heap_alloc_new (w.alloc (.cells #[.slice ao n c] 25)) (.cells #[.int .i64 k, .int .i64 f, .int .i64 t] 34); rwa [World.size_alloc] at this
  have B2 : V.heap[X + 2]? = some (.cells #[.func (.func 62) #[] #[]] 99 (0, 0)) := by
    rw [hV, hX]; have := heap_alloc_new ((w.alloc (.cells #[.slice ao n c] 25)).alloc (.cells #[.int .i64 k, .int .i64 f, .int .i64 t] 34)) (.cells #[.func (.func 62) #[] #[]] 99); rwa [World.size_alloc, World.size_alloc] at this
  have cL : V.cell? ⟨X, 0, none⟩ = some (.slice ao n c) := by rw [cell_of_row V X _ _ _ (0, 0) B0]; rfl
  have cT : V.cell? ⟨X + 2, 0, none⟩ = some (.func (.func 62) #[] #[]) := by rw [cell_of_row V (X + 2) _ _ _ (0, 0) B2]; rfl
  obtain ⟨p0, p1, p2⟩ := three3 B1
  have lX := lt_of_block B0
  have lX1 := lt_of_block B1
  have lX2 := lt_of_block B2
  have hsV := hs.below bel
  have hE1 := hide (enters (P := Try.prog) (f := 72) Try.func72 (by kernel_rfl) (by kernel_rfl))
  have hE2 := hide (enters (P := Try.prog) (f := 73) Try.func73 (by kernel_rfl) (by kernel_rfl))
  have HA : Hid (∀ W, Below V.heap.size V W → Calls Try.prog 64 #[.int .i64 n, .func (.func 72) #[] #[.pointer (some ⟨X + 2, 0, none⟩), .pointer (some ⟨X, 0, none⟩), .pointer (some ⟨X + 1, 0, none⟩)]] W fun e w' => ∃ r : Nat, r ≤ n ∧ Hid ((∀ t, t < r → decide (f ≤ (Grain.bk l t).a) = false) ∧ ∀ t, r ≤ t → t < n → decide (f ≤ (Grain.bk l t).a) = true) ∧ e = .returned (.int .i64 r) ∧ Below W.heap.size W w') := by
    intro W hb
    refine search_any (fun i => decide (f ≤ (Grain.bk l i).a)) _ _ n W hL hE1 (fun W' i hi hb' => ?_) (fun a b h1 h2 => krise_mono hpw f a b h1 (by omega))
    have hbb := below_pl hb' hb
    exact kf1_any l ao n c (X + 2) X (X + 1) i f W' (hsV.below hbb) hn hi ((hbb.cell (by exact lX2)).trans cT) ((hbb.cell (by exact lX)).trans cL) ((hbb.cell (by exact lX1)).trans p1)
  have HB : Hid (∀ W, Below V.heap.size V W → Calls Try.prog 64 #[.int .i64 n, .func (.func 73) #[] #[.pointer (some ⟨X + 2, 0, none⟩), .pointer (some ⟨X, 0, none⟩), .pointer (some ⟨X + 1, 0, none⟩)]] W fun e w' => ∃ r : Nat, r ≤ n ∧ Hid ((∀ i, i < r → decide (t ≤ (Grain.bk l i).a) = false) ∧ ∀ i, r ≤ i → i < n → decide (t ≤ (Grain.bk l i).a) = true) ∧ e = .returned (.int .i64 r) ∧ Below W.heap.size W w') := by
    intro W hb
    refine search_any (fun i => decide (t ≤ (Grain.bk l i).a)) _ _ n W hL hE2 (fun W' i hi hb' => ?_) (fun a b h1 h2 => krise_mono hpw t a b h1 (by omega))
    have hbb := below_pl hb' hb
    exact kf2_any l ao n c (X + 2) X (X + 1) i t W' (hsV.below hbb) hn hi ((hbb.cell (by exact lX2)).trans cT) ((hbb.cell (by exact lX)).trans cL) ((hbb.cell (by exact lX1)).trans p2)
  have HN := hide hn
  have HV := hide hV
  have HX := hide hX
  have HS := hide hs
  have HPW := hide hpw
  have HFT := hide hft
  have hXV : X ≤ V.heap.size := by omega
  clear hn hV hX hs hsV hE1 hE2 B0 B1 B2 hpw p0 p1 p2 lX1 lX2 hft
  go_enter Try.func61, Try.ntmps61
  go_wp2_with fail
  rw [← HV.out, ← HX.out]
  refine (HA.out V (Below.refl _ _)).mono ?_
  rintro e w1 ⟨r1, hr1, I1, rfl, hb1⟩
  have cL1 := (hb1.cell (p := ⟨X, 0, none⟩) (by exact lX)).trans cL
  clear HA
  go_wp2_with fail
  refine (HB.out w1 hb1).mono ?_
  rintro e w2 ⟨r2, hr2, I2, rfl, hb2⟩
  have bel2 : Below V.heap.size V w2 := below_pl hb2 hb1
  have cL2 := (bel2.cell (p := ⟨X, 0, none⟩) (by exact lX)).trans cL
  have C := Grain.cut_filter (fun x : Grain.Bk => x.a) (l := l) (f := f) (t := t) (a := r1) (b := r2) (by rw [← HN.out]; exact hr1) (by rw [← HN.out]; exact hr2) (fun i hi => ?c1) (fun i hi => ?c2) HFT.out
  case c1 =>
    have e : (Grain.bk l i).a = l[i].a := by simp [Grain.bk, List.getD, List.getElem?_eq_getElem hi]
    rw [← e]
    constructor
    · intro h
      rcases Nat.lt_or_ge i r1 with h' | h'
      · exact h'
      · have := I1.out.2 i h' (by rw [HN.out]; exact hi)
        simp at this; omega
    · intro h
      have := I1.out.1 i h
      simp at this; omega
  case c2 =>
    have e : (Grain.bk l i).a = l[i].a := by simp [Grain.bk, List.getD, List.getElem?_eq_getElem hi]
    rw [← e]
    constructor
    · intro h
      rcases Nat.lt_or_ge i r2 with h' | h'
      · exact h'
      · have := I2.out.2 i h' (by rw [HN.out]; exact hi)
        simp at this; omega
    · intro h
      have := I2.out.1 i h
      simp at this; omega
  obtain ⟨h12, hcut⟩ := C
  obtain ⟨so, hso⟩ : ∃ so, so = cutP ao c r1 8 := ⟨_, rfl⟩
  obtain ⟨sl, hsl⟩ : ∃ sl, sl = r2 - r1 := ⟨_, rfl⟩
  obtain ⟨sd, hsd⟩ : ∃ sd, sd = c - r1 := ⟨_, rfl⟩
  have hseg : Seg w so (kcells (Grain.winB l f t)) := by
    rw [hso, show Grain.winB l f t = (l.take r2).drop r1 from hcut.symm, ← kcells_td]
    exact seg_cutP (n := n) HS.out (by rw [kcells_length, HN.out]) hc h12 (by omega)
  have hlen : sl = (Grain.winB l f t).length := by
    rw [hsl, show Grain.winB l f t = (l.take r2).drop r1 from hcut.symm, List.length_drop, List.length_take, ← HN.out]; omega
  have hsl1 : ∀ w, Sem.run Try.prog (Instr.slice 25 (.slice ao n c) (some (.int .i64 r1)) (some (.int .i64 r2)) none) w = .ok (.slice so sl sd) w := by
    intro w
    rw [run_slice_lh (P := Try.prog) (t := 25) (ht := by kernel_rfl) (a := ao) (len := n) (cap := c) (kl := .i64) (kh := .i64) (l := (r1 : Int)) (h := (r2 : Int)) (h0 := by omega) (h1 := by omega) (h2 := by omega)]
    rw [hso, hsl, hsd]
    simp [sliced, cutP, go_sem]
  have hsl2 : ∀ w, Sem.run Try.prog (Instr.sliceAt 25 (.slice ao n c) (some (.int .i64 r1)) (some (.int .i64 r2)) none) w = .ok (.slice so sl sd) w := by
    intro w
    rw [run_sliceAt_slice (P := Try.prog) (t := 25) (h := by kernel_rfl)]
    exact hsl1 w
  have HG := hide hseg
  have HLn := hide hlen
  clear hso hsl hsd hcut hseg hlen I1 I2 HS HPW
  go_wp2
  go_ret
  exact ⟨so, sl, sd, rfl, HG.out, HLn, by first | exact bel.trans (bel2.mono bel.size) | (rw [← HX.out]; exact bel.trans (bel2.mono hXV))⟩

end Go.Proofs.Ytfgablhgjbjbkaf

/-
  The walk of Of: what samples come to, one by one.
-/
namespace Go.Proofs.Ytfgablhgjbjbkaf
open Go.RowKit Go.GrainU

theorem join_let (a b : Grain.Sm) (w : World) :
    Calls Try.prog 21 #[sv a, sv b] w fun e w' => ∃ J : Grain.Sm, Hid (J = Grain.join a b) ∧ e = .returned (.agg #[.int .i64 J.c, .int .i64 J.t, .int .i64 J.mn, .int .i64 J.mx, .int .i64 J.f, .int .i64 J.l, .int .i64 J.r]) ∧ Below w.heap.size w w' :=
  (join_any a b w).mono fun _ _ h => ⟨_, rfl, h.1, h.2⟩

/-- a block that holds a sum -/
def SumAt (w : World) (B : Nat) (s : Grain.Sm) : Prop :=
  w.heap[B]? = some (.cells #[.int .i64 s.c, .int .i64 s.t, .int .i64 s.mn, .int .i64 s.mx, .int .i64 s.f, .int .i64 s.l, .int .i64 s.r] 36 (0, 0))

theorem SumAt.below {w w' : World} {B : Nat} {s : Grain.Sm} (h : SumAt w B s) (hb : Below w.heap.size w w') : SumAt w' B s := below_block hb h

/-- what the cells of a sum hold -/
def SumCells (w : World) (B : Nat) (s : Grain.Sm) : Prop :=
  w.cell? ⟨B, 0, none⟩ = some (.int .i64 s.c) ∧ w.cell? ⟨B, 1, none⟩ = some (.int .i64 s.t) ∧ w.cell? ⟨B, 2, none⟩ = some (.int .i64 s.mn) ∧ w.cell? ⟨B, 3, none⟩ = some (.int .i64 s.mx) ∧ w.cell? ⟨B, 4, none⟩ = some (.int .i64 s.f) ∧ w.cell? ⟨B, 5, none⟩ = some (.int .i64 s.l) ∧ w.cell? ⟨B, 6, none⟩ = some (.int .i64 s.r)

theorem SumAt.cells {w : World} {B : Nat} {s : Grain.Sm} (h : SumAt w B s) : SumCells w B s := seven_cells h

theorem SumAt.set {w : World} {B : Nat} {s : Grain.Sm} (h : SumAt w B s) (J : Grain.Sm) :
    SumAt (((((((w.setCell ⟨B, 0, none⟩ (.int .i64 J.c)).setCell ⟨B, 1, none⟩ (.int .i64 J.t)).setCell ⟨B, 2, none⟩ (.int .i64 J.mn)).setCell ⟨B, 3, none⟩ (.int .i64 J.mx)).setCell ⟨B, 4, none⟩ (.int .i64 J.f)).setCell ⟨B, 5, none⟩ (.int .i64 J.l)).setCell ⟨B, 6, none⟩ (.int .i64 J.r)) B J := by
  unfold SumAt at h ⊢
  simp [World.setCell, Array.getElem?_modify, h]

theorem SumAt.far {w : World} {B C : Nat} {s : Grain.Sm} (h : SumAt w C s) (hn : C ≠ B) (v0 v1 v2 v3 v4 v5 v6 : Value) :
    SumAt (((((((w.setCell ⟨B, 0, none⟩ v0).setCell ⟨B, 1, none⟩ v1).setCell ⟨B, 2, none⟩ v2).setCell ⟨B, 3, none⟩ v3).setCell ⟨B, 4, none⟩ v4).setCell ⟨B, 5, none⟩ v5).setCell ⟨B, 6, none⟩ v6) C s := by
  unfold SumAt at h ⊢
  rw [setCell_far hn, setCell_far hn, setCell_far hn, setCell_far hn, setCell_far hn, setCell_far hn, setCell_far hn]
  exact h

theorem below_set7 {w W : World} {A C : Nat} (bel : Below A w W) (hC : A ≤ C) (v0 v1 v2 v3 v4 v5 v6 : Value) :
    Below A w (((((((W.setCell ⟨C, 0, none⟩ v0).setCell ⟨C, 1, none⟩ v1).setCell ⟨C, 2, none⟩ v2).setCell ⟨C, 3, none⟩ v3).setCell ⟨C, 4, none⟩ v4).setCell ⟨C, 5, none⟩ v5).setCell ⟨C, 6, none⟩ v6) :=
  ((((((bel.setCell hC _).setCell hC _).setCell hC _).setCell hC _).setCell hC _).setCell hC _).setCell hC _

/-- what the loop of Of keeps -/
structure OfInv (w wr : World) (s : Grain.Sm) : Prop where
  res : SumAt wr w.heap.size Grain.zero
  cur : SumAt wr (w.heap.size + 1) s
  bel : Below w.heap.size w wr

theorem OfInv.start (w : World) : OfInv w ((w.alloc (.cells #[.int .i64 0, .int .i64 0, .int .i64 0, .int .i64 0, .int .i64 0, .int .i64 0, .int .i64 0] 36)).alloc (.cells #[.int .i64 0, .int .i64 0, .int .i64 0, .int .i64 0, .int .i64 0, .int .i64 0, .int .i64 0] 36)) Grain.zero := by
  refine ⟨?_, ?_, ?_⟩
  · show ((w.alloc _).alloc _).heap[w.heap.size]? = _
    rw [Below.heap_alloc _ _ _ (by simp)]; exact heap_alloc_new w _
  · have := heap_alloc_new (w.alloc (.cells #[.int .i64 0, .int .i64 0, .int .i64 0, .int .i64 0, .int .i64 0, .int .i64 0, .int .i64 0] 36)) (.cells #[.int .i64 0, .int .i64 0, .int .i64 0, .int .i64 0, .int .i64 0, .int .i64 0, .int .i64 0] 36)
    have e : (w.alloc (.cells #[.int .i64 0, .int .i64 0, .int .i64 0, .int .i64 0, .int .i64 0, .int .i64 0, .int .i64 0] 36)).heap.size = w.heap.size + 1 := by simp
    rw [e] at this
    exact this
  · exact ((Below.refl _ _).alloc (Nat.le_refl _) _).alloc (by simp) _

theorem OfInv.next {w wr : World} {s : Grain.Sm} (I : OfInv w wr s) (t v : Value) : ∃ V, V = wr.alloc (.cells #[t, v] 45) ∧ OfInv w V s ∧ V.heap[wr.heap.size]? = some (.cells #[t, v] 45 (0, 0)) ∧ w.heap.size + 2 ≤ wr.heap.size ∧ V.heap.size = wr.heap.size + 1 := by
  have h2 := lt_of_block I.cur
  have h1 := lt_of_block I.res
  refine ⟨_, rfl, ⟨?_, ?_, I.bel.alloc (by omega) _⟩, heap_alloc_new wr _, by omega, by simp⟩
  · show (wr.alloc _).heap[_]? = _
    rw [Below.heap_alloc _ _ _ h1]; exact I.res
  · show (wr.alloc _).heap[_]? = _
    rw [Below.heap_alloc _ _ _ h2]; exact I.cur

theorem OfInv.call {w V w' : World} {s : Grain.Sm} (I : OfInv w V s) (hb : Below V.heap.size V w') : OfInv w w' s :=
  ⟨I.res.below hb, I.cur.below hb, I.bel.trans (hb.mono I.bel.size)⟩

theorem OfInv.drew {w V : World} {s : Grain.Sm} (I : OfInv w V s) : OfInv w V.drew s := ⟨I.res, I.cur, below_drewN I.bel 1⟩

theorem OfInv.store {w V : World} {s : Grain.Sm} (I : OfInv w V s) (J : Grain.Sm) : OfInv w (((((((V.setCell ⟨w.heap.size + 1, 0, none⟩ (.int .i64 J.c)).setCell ⟨w.heap.size + 1, 1, none⟩ (.int .i64 J.t)).setCell ⟨w.heap.size + 1, 2, none⟩ (.int .i64 J.mn)).setCell ⟨w.heap.size + 1, 3, none⟩ (.int .i64 J.mx)).setCell ⟨w.heap.size + 1, 4, none⟩ (.int .i64 J.f)).setCell ⟨w.heap.size + 1, 5, none⟩ (.int .i64 J.l)).setCell ⟨w.heap.size + 1, 6, none⟩ (.int .i64 J.r)) J :=
  ⟨I.res.far (by omega) _ _ _ _ _ _ _, I.cur.set J, below_set7 I.bel (by omega) _ _ _ _ _ _ _⟩

/-- the sample's value is as it was, behind the store -/
theorem ofx {w wr V w2 : World} {s : Grain.Sm} {v : Value} (hb : Below V.heap.size V w2) (_ : OfInv w w2 s) (hV : V.heap.size = wr.heap.size + 1) (hsz : w.heap.size + 2 ≤ wr.heap.size) (x1 : V.cell? ⟨wr.heap.size, 1, none⟩ = some v) (v0 v1 v2 v3 v4 v5 v6 : Value) :
    (((((((w2.setCell ⟨w.heap.size + 1, 0, none⟩ v0).setCell ⟨w.heap.size + 1, 1, none⟩ v1).setCell ⟨w.heap.size + 1, 2, none⟩ v2).setCell ⟨w.heap.size + 1, 3, none⟩ v3).setCell ⟨w.heap.size + 1, 4, none⟩ v4).setCell ⟨w.heap.size + 1, 5, none⟩ v5).setCell ⟨w.heap.size + 1, 6, none⟩ v6).cell? ⟨wr.heap.size, 1, none⟩ = some v := by
  have hn : wr.heap.size ≠ w.heap.size + 1 := by omega
  have h2 : w2.cell? ⟨wr.heap.size, 1, none⟩ = some v := (hb.cell (p := ⟨wr.heap.size, 1, none⟩) (by simp; omega)).trans x1
  rw [← h2]
  simp only [World.cell?]
  rw [setCell_far hn, setCell_far hn, setCell_far hn, setCell_far hn, setCell_far hn, setCell_far hn, setCell_far hn]

set_option maxHeartbeats 2000000 in
theorem of_any (l : List (Int × Int)) (ao : Option Addr) (cap : Nat) (w : World) (hs : Seg w ao (scells l)) (hL : l.length ≤ 1152921504606846975) :
    Calls Try.prog 12 #[.slice ao l.length cap] w fun e w' => e = .returned (sv (Grain.of l)) ∧ Below w.heap.size w w' := by
  go_enter Try.func12, Try.ntmps12
  go_wp2
  go_loopw [8] (fun i wr => ∃ (k : Nat) (s : Grain.Sm), k ≤ l.length ∧ i = .int .i64 k ∧ Hid (s = Grain.ofN l k) ∧ OfInv w wr s) (fun i _ => l.length - (intOf i).toNat)
  case atStart => exact ⟨0, _, Nat.zero_le _, rfl, rfl, OfInv.start w⟩
  case round =>
    obtain ⟨k, s, hk, rfl, HS, I⟩ := hrel
    by_cases hlt : k < l.length
    · obtain ⟨b, off, rfl, hcell⟩ := hs.sample hlt
      have hb : b < w.heap.size := World.block_lt_of_cell? w ⟨b, off + k * 2, none⟩ (hcell k hlt).1
      have c0 : wr.cell? ⟨b, off + k * 2, none⟩ = some (.int .i64 (Grain.tm l k)) := (I.bel.cell (by exact hb)).trans (hcell k hlt).1
      have c1 : wr.cell? ⟨b, off + k * 2 + 1, none⟩ = some (.int .i64 (Grain.vl l k)) := (I.bel.cell (by exact hb)).trans (hcell k hlt).2
      obtain ⟨V, hV, I1, G, hsz, hVs⟩ := I.next (.int .i64 (Grain.tm l k)) (.int .i64 (Grain.vl l k))
      have HV := hide hV
      have HVs := hide hVs
      have HG := hide G
      clear hV I hVs G
      go_wp2_with fail
      rw [← HV.out]
      obtain ⟨v, hv⟩ : ∃ v : Int, v = Grain.vl l k := ⟨_, rfl⟩
      have Hv := hide hv
      have x1 : V.cell? ⟨wr.heap.size, 1, none⟩ = some (.int .i64 v) := by rw [hv]; exact (two_cells HG.out).2.1
      obtain ⟨s0, s1, s2, s3, s4, s5, s6⟩ := I1.cur.cells
      clear hv c0 c1
      have hX : Hid (∀ w' : World, Below V.heap.size V w' → w'.cell? ⟨wr.heap.size, 1, none⟩ = some (.int .i64 v)) := by
        intro w' hb'
        have := HVs.out
        exact (hb'.cell (p := ⟨wr.heap.size, 1, none⟩) (by simp; omega)).trans x1
      go_region_with
        (first
          | (go_at_call 23; refine (one_any _ _).mono ?_; rintro e w1 ⟨rfl, hb1⟩; have hb1' : Below V.heap.size V w1 := (below_drewN (Below.refl _ V) 1).trans hb1; have I2 := I1.call hb1'; obtain ⟨p0, p1, p2, p3, p4, p5, p6⟩ := I2.cur.cells)
          | (go_at_call 21; refine (join_let s (Grain.one v) _).mono ?_; rintro e w2 ⟨J, HJ, rfl, hb2⟩; have hb2' : Below V.heap.size V w2 := hb1'.trans (hb2.mono hb1'.size); have I3 := I1.call hb2'; obtain ⟨q0, q1, q2, q3, q4, q5, q6⟩ := I3.cur.cells; obtain ⟨r0, r1, r2, r3, r4, r5, r6⟩ := seven_thaw I3.cur)) 
      all_goals
        have I4 := I3.store J
        have HK : Hid (J = Grain.ofN l (k + 1)) := by
          show J = Grain.ofN l (k + 1)
          rw [HJ.out, HS.out, Hv.out]; rfl
        clear HJ HS Hv hX s0 s1 s2 s3 s4 s5 s6 p0 p1 p2 p3 p4 p5 p6 q0 q1 q2 q3 q4 q5 q6 r0 r1 r2 r3 r4 r5 r6 x1 hb1 hb1' hb2 hb2' I1 I2 I3
        go_wp2
        go_roundw
        case rel => exact ⟨k + 1, J, by omega, by go_num, HK, I4⟩
        case measure => simp [intOf]; omega
    · have he : k = l.length := by omega
      subst he
      obtain ⟨s0, s1, s2, s3, s4, s5, s6⟩ := I.cur.cells
      obtain ⟨z0, z1, z2, z3, z4, z5, z6⟩ := seven_cells I.res
      obtain ⟨r0, r1, r2, r3, r4, r5, r6⟩ := seven_thaw I.res
      go_wp2
      exact bodyPost_ret (v := sv s) (by simp [results, Try.results12, go_sem, sv, z0, z1, z2, z3, z4, z5, z6]) rfl ⟨by rw [HS.out]; rfl, below_set7 I.bel (Nat.le_refl _) _ _ _ _ _ _ _⟩

theorem of_len (l : List (Int × Int)) (ao : Option Addr) (N cap : Nat) (w : World) (hs : Seg w ao (scells l)) (hN : N = l.length) (hL : N ≤ 1152921504606846975) :
    Calls Try.prog 12 #[.slice ao N cap] w fun e w' => ∃ J : Grain.Sm, Hid (J = Grain.of l) ∧ e = .returned (.agg #[.int .i64 J.c, .int .i64 J.t, .int .i64 J.mn, .int .i64 J.mx, .int .i64 J.f, .int .i64 J.l, .int .i64 J.r]) ∧ Below w.heap.size w w' := by
  subst hN
  exact (of_any l ao cap w hs hL).mono fun _ _ h => ⟨_, rfl, h.1, h.2⟩

end Go.Proofs.Ytfgablhgjbjbkaf

/-
  The walk of roll.Of: what the buckets of a window come to.
-/
namespace Go.Proofs.Ytfgablhgjbjbkaf
open Go.RowKit Go.GrainU

theorem kof_more {w wr : World} {s : Grain.Sm} (I : OfInv w wr s) (o : Obj) : OfInv w (wr.alloc o) s := by
  have h2 := lt_of_block I.cur
  have h1 := lt_of_block I.res
  refine ⟨?_, ?_, I.bel.alloc (by omega) _⟩
  · show (wr.alloc _).heap[_]? = _
    rw [Below.heap_alloc _ _ _ h1]; exact I.res
  · show (wr.alloc _).heap[_]? = _
    rw [Below.heap_alloc _ _ _ h2]; exact I.cur

set_option maxHeartbeats 2000000 in
theorem kof_any (B : List Grain.Bk) (ao : Option Addr) (n cap : Nat) (f t : Int) (w : World) (hs : Seg w ao (kcells B)) (hn : n = B.length) (hL : n ≤ 1000000) :
    Calls Try.prog 63 #[.slice ao n cap, .int .i64 f, .int .i64 t] w fun e w' => ∃ J : Grain.Sm, Hid (J = Grain.inB B f t) ∧ e = .returned (.agg #[.int .i64 J.c, .int .i64 J.t, .int .i64 J.mn, .int .i64 J.mx, .int .i64 J.f, .int .i64 J.l, .int .i64 J.r]) ∧ Below w.heap.size w w' := by
  have HN := hide hn
  clear hn
  go_enter Try.func63, Try.ntmps63
  go_wp2
  go_loopw [12] (fun i wr => ∃ (k : Nat) (s : Grain.Sm), k ≤ n ∧ i = .int .i64 k ∧ Hid (s = Grain.inB (B.take k) f t) ∧ OfInv w wr s) (fun i _ => n - (intOf i).toNat)
  case atStart => exact ⟨0, _, Nat.zero_le _, rfl, rfl, OfInv.start w⟩
  case round =>
    obtain ⟨k, s, hk, rfl, HS, I⟩ := hrel
    by_cases hlt : k < n
    · have hkl : k < B.length := by rw [← HN.out]; exact hlt
      obtain ⟨b, off, rfl, hb, hcell⟩ := seg_bucket hs hkl
      obtain ⟨K, hK⟩ : ∃ K, K = Grain.bk B k := ⟨_, rfl⟩
      have q := (hcell k hkl).below I.bel hb
      rw [← hK] at q
      obtain ⟨c0, c1, c2, c3, c4, c5, c6, c7⟩ := q
      have HT : Hid (Grain.inB (B.take (k + 1)) f t = if f ≤ K.a ∧ K.a < t then Grain.join s K.s else s) := by
        show _ = _
        rw [Grain.inB_take f t hkl, ← hK, ← HS.out]
      have I1 := kof_more I (ko K)
      have hw1 : w.heap.size + 1 < wr.heap.size := lt_of_block I.cur
      obtain ⟨s0, s1, s2, s3, s4, s5, s6⟩ := I.cur.cells
      clear hcell hK hkl HS I
      by_cases h1 : f ≤ K.a
      · by_cases h2 : K.a < t
        · go_wp2_with fail
          refine (join_let s K.s _).mono ?_
          rintro e w2 ⟨J, HJ, rfl, hb2⟩
          have I3 := I1.call hb2
          obtain ⟨q0, q1, q2, q3, q4, q5, q6⟩ := I3.cur.cells
          obtain ⟨r0, r1, r2, r3, r4, r5, r6⟩ := seven_thaw I3.cur
          have I4 := I3.store J
          have HK : Hid (J = Grain.inB (B.take (k + 1)) f t) := by
            show J = _
            rw [HT.out, if_pos ⟨h1, h2⟩]; exact HJ.out
          clear HJ HT I1 I3 hb2 s0 s1 s2 s3 s4 s5 s6 c0 c1 c2 c3 c4 c5 c6 c7 h1 h2 hw1
          go_wp2
          go_roundw
          case rel => exact ⟨k + 1, J, by omega, by go_num, HK, I4⟩
          case measure => simp [intOf]; omega
        · have HK : Hid (s = Grain.inB (B.take (k + 1)) f t) := by
            show s = _
            rw [HT.out, if_neg (by omega)]
          clear HT s0 s1 s2 s3 s4 s5 s6
          go_wp2
          go_roundw
          case rel => exact ⟨k + 1, s, by omega, by go_num, HK, I1⟩
          case measure => simp [intOf]; omega
      · have HK : Hid (s = Grain.inB (B.take (k + 1)) f t) := by
          show s = _
          rw [HT.out, if_neg (by omega)]
        clear HT s0 s1 s2 s3 s4 s5 s6
        go_wp2
        go_roundw
        case rel => exact ⟨k + 1, s, by omega, by go_num, HK, I1⟩
        case measure => simp [intOf]; omega
    · have he : k = n := by omega
      subst he
      have HT := hide (List.take_of_length_le (i := k) (l := B) (by rw [← HN.out]; omega))
      have HJ : Hid (s = Grain.inB B f t) := by
        show s = _
        rw [HS.out, HT.out]
      obtain ⟨s0, s1, s2, s3, s4, s5, s6⟩ := I.cur.cells
      obtain ⟨z0, z1, z2, z3, z4, z5, z6⟩ := seven_cells I.res
      obtain ⟨r0, r1, r2, r3, r4, r5, r6⟩ := seven_thaw I.res
      clear HT HN HS
      go_wp2
      exact bodyPost_ret (v := sv s) (by simp [results, Try.results63, go_sem, sv, z0, z1, z2, z3, z4, z5, z6]) rfl ⟨s, HJ, rfl, below_set7 I.bel (Nat.le_refl _) _ _ _ _ _ _ _⟩

end Go.Proofs.Ytfgablhgjbjbkaf

/-
  The walks of plan's readBuckets and readPart.
-/
namespace Grain

theorem inB_filter (f t : Int) : ∀ (B : List Bk) (s : Sm), (winB B f t).foldl (fun acc b => if f ≤ b.a ∧ b.a < t then join acc b.s else acc) s = B.foldl (fun acc b => if f ≤ b.a ∧ b.a < t then join acc b.s else acc) s := by
  intro B
  induction B with
  | nil => intro s; rfl
  | cons b r ih =>
    intro s
    by_cases h : f ≤ b.a ∧ b.a < t
    · unfold winB at ih ⊢
      rw [List.filter_cons_of_pos (by simpa using h), List.foldl_cons, List.foldl_cons, ih]
    · unfold winB at ih ⊢
      rw [List.filter_cons_of_neg (by simpa using h), List.foldl_cons, if_neg h, ih]

theorem inB_winB (B : List Bk) (f t : Int) : inB (winB B f t) f t = inB B f t := inB_filter f t B zero

end Grain
namespace Go.Proofs.Ytfgablhgjbjbkaf
open Go.RowKit Go.GrainU

/-- no sum yet -/
def sbz : Obj := .cells #[.int .i64 0, .int .i64 0, .int .i64 0, .int .i64 0, .int .i64 0, .int .i64 0, .int .i64 0] 36

set_option maxRecDepth 20000 in
set_option maxHeartbeats 2000000 in
theorem rbk_any (l : List Grain.Bk) (ao : Option Addr) (n c : Nat) (p : Grain.Pt) (w : World) (hs : Seg w ao (kcells l)) (hn : n = l.length) (hc : n ≤ c) (hL : n ≤ 1000000) (hpw : l.Pairwise (fun x y => x.a < y.a)) (hft : p.f ≤ p.t) :
    Calls Try.prog 42 #[.slice ao n c, .agg #[.int .i64 p.k, .int .i64 p.f, .int .i64 p.t]] w fun e w' => ∃ (J : Grain.Sm) (m : Nat), e = .returned (.tuple #[.agg #[.int .i64 J.c, .int .i64 J.t, .int .i64 J.mn, .int .i64 J.mx, .int .i64 J.f, .int .i64 J.l, .int .i64 J.r], .int .i64 m]) ∧ Hid (J = Grain.inB l p.f p.t) ∧ Hid (m = (Grain.winB l p.f p.t).length) ∧ Below w.heap.size w w' := by
  obtain ⟨X, hX⟩ : ∃ X, X = w.heap.size := ⟨_, rfl⟩
  obtain ⟨V, hV⟩ : ∃ V, V = (w.alloc (.cells #[.int .i64 p.k, .int .i64 p.f, .int .i64 p.t] 34)).alloc (.cells #[.int .i64 0, .int .i64 0, .int .i64 0, .int .i64 0, .int .i64 0, .int .i64 0, .int .i64 0] 36) := ⟨_, rfl⟩
  have bel : Below w.heap.size w V := by rw [hV]; exact ((Below.refl _ _).alloc (Nat.le_refl _) _).alloc (by simp) _
  have P0 : V.heap[X]? = some (.cells #[.int .i64 p.k, .int .i64 p.f, .int .i64 p.t] 34 (0, 0)) := by
    rw [hV, hX, Below.heap_alloc _ _ _ (by simp)]; exact heap_alloc_new w _
  have Z0 : SumAt V (X + 1) Grain.zero := by
    show V.heap[X + 1]? = _
    rw [hV, hX]; have := heap_alloc_new (w.alloc (.cells #[.int .i64 p.k, .int .i64 p.f, .int .i64 p.t] 34)) (.cells #[.int .i64 0, .int .i64 0, .int .i64 0, .int .i64 0, .int .i64 0, .int .i64 0, .int .i64 0] 36); rwa [World.size_alloc] at this
  have hsV := hs.below bel
  have hXV : X + 1 < V.heap.size := lt_of_block Z0
  have HV := hide hV
  have HX := hide hX
  have HPW := hide hpw
  have HFT := hide hft
  have HN := hide hn
  clear hV hX hs hpw hft hn
  go_enter Try.func42, Try.ntmps42
  go_wp2_with fail
  rw [← HV.out, ← HX.out]
  refine (kwithin_any l ao n c p V hsV HN.out hc hL HPW.out HFT.out).mono ?_
  rintro e w1 ⟨bo, m, d, rfl, seg1, HM, hb1⟩
  have hm : m ≤ 1000000 := by
    have : (Grain.winB l p.f p.t).length ≤ l.length := List.length_filter_le _ _
    have := HM.out
    have := HN.out
    omega
  have P1 := below_block hb1 P0
  have Z1 := Z0.below hb1
  have seg2 := seg1.below hb1
  have bel1 : Below w.heap.size w w1 := below_pl hb1 bel
  obtain ⟨p0, p1, p2⟩ := three3 P1
  clear hb1 seg1 Z0 P0 hsV
  go_wp2_with fail
  refine (kof_any (Grain.winB l p.f p.t) bo m d p.f p.t w1 seg2 HM.out hm).mono ?_
  rintro e w2 ⟨J, HJ, rfl, hb2⟩
  have Z2 := Z1.below hb2
  have bel2 : Below w.heap.size w w2 := below_pl hb2 bel1
  obtain ⟨z0, z1, z2, z3, z4, z5, z6⟩ := Z2.cells
  obtain ⟨y0, y1, y2, y3, y4, y5, y6⟩ := seven_thaw Z2
  go_wp2
  exact bodyPost_ret (v := .tuple #[.agg #[.int .i64 J.c, .int .i64 J.t, .int .i64 J.mn, .int .i64 J.mx, .int .i64 J.f, .int .i64 J.l, .int .i64 J.r], .int .i64 m]) (by simp [results, Try.results42, go_sem, z0, z1, z2, z3, z4, z5, z6]) rfl ⟨J, m, rfl, by rw [HJ.out, Grain.inB_winB]; exact (rfl : Hid _), HM, below_set7 bel2 (by have := HX.out; omega) _ _ _ _ _ _ _⟩

set_option maxRecDepth 20000 in
set_option maxHeartbeats 2000000 in
theorem rpart_any (x : ShT) (p : Grain.Pt) (w : World) (hx : ShIn w x) (hcap : ShCap x) (h1 : x.s.ra.length ≤ 500) (h2 : x.s.fi.length ≤ 500) (h3 : x.s.co.length ≤ 500) (q1 : x.s.ra.Pairwise (fun a b => a.1 < b.1)) (q2 : x.s.fi.Pairwise (fun a b => a.a < b.a)) (q3 : x.s.co.Pairwise (fun a b => a.a < b.a)) (hft : p.f ≤ p.t) :
    Calls Try.prog 20 #[.agg #[.slice x.a0 x.s.se.length x.c0, .slice x.a1 x.s.ra.length x.c1, .slice x.a2 x.s.fi.length x.c2, .slice x.a3 x.s.co.length x.c3, .int .i64 x.s.rf, .int .i64 x.s.ff, .int .i64 x.s.ft, .int .i64 x.s.cf, .int .i64 x.s.ct], .agg #[.int .i64 p.k, .int .i64 p.f, .int .i64 p.t]] w fun e w' => ∃ (J : Grain.Sm) (m : Nat), e = .returned (.tuple #[.agg #[.int .i64 J.c, .int .i64 J.t, .int .i64 J.mn, .int .i64 J.mx, .int .i64 J.f, .int .i64 J.l, .int .i64 J.r], .int .i64 m]) ∧ Hid (J = Grain.psum x.s p) ∧ Hid (m = Grain.pcost x.s p) ∧ Below w.heap.size w w' := by
  obtain ⟨k, f, t⟩ := p
  obtain ⟨X, hX⟩ : ∃ X, X = w.heap.size := ⟨_, rfl⟩
  obtain ⟨V, hV⟩ : ∃ V, V = ((w.alloc (.cells #[.slice x.a0 x.s.se.length x.c0, .slice x.a1 x.s.ra.length x.c1, .slice x.a2 x.s.fi.length x.c2, .slice x.a3 x.s.co.length x.c3, .int .i64 x.s.rf, .int .i64 x.s.ff, .int .i64 x.s.ft, .int .i64 x.s.cf, .int .i64 x.s.ct] 27)).alloc (.cells #[.int .i64 k, .int .i64 f, .int .i64 t] 34)).alloc (.cells #[.int .i64 0, .int .i64 0, .int .i64 0, .int .i64 0, .int .i64 0, .int .i64 0, .int .i64 0] 36) := ⟨_, rfl⟩
  have bel : Below w.heap.size w V := by rw [hV]; exact (((Below.refl _ _).alloc (Nat.le_refl _) _).alloc (by simp) _).alloc (by simp; omega) _
  have Z0 : SumAt V (X + 2) Grain.zero := by
    show V.heap[X + 2]? = _
    rw [hV, hX]; have := heap_alloc_new ((w.alloc (.cells #[.slice x.a0 x.s.se.length x.c0, .slice x.a1 x.s.ra.length x.c1, .slice x.a2 x.s.fi.length x.c2, .slice x.a3 x.s.co.length x.c3, .int .i64 x.s.rf, .int .i64 x.s.ff, .int .i64 x.s.ft, .int .i64 x.s.cf, .int .i64 x.s.ct] 27)).alloc (.cells #[.int .i64 k, .int .i64 f, .int .i64 t] 34)) (.cells #[.int .i64 0, .int .i64 0, .int .i64 0, .int .i64 0, .int .i64 0, .int .i64 0, .int .i64 0] 36); rwa [World.size_alloc, World.size_alloc] at this
  have hxV := hx.below bel
  have HV := hide hV
  have HX := hide hX
  have HP1 := hide q1
  have HP2 := hide q2
  have HP3 := hide q3
  have HL1 : Hid (x.s.ra.length ≤ 1000000) := by show _ ≤ _; omega
  have HL2 : Hid (x.s.fi.length ≤ 1000000) := by show _ ≤ _; omega
  have HL3 : Hid (x.s.co.length ≤ 1000000) := by show _ ≤ _; omega
  have HFT := hide hft
  simp only [Grain.psum, Grain.pcost]
  clear hV hX q1 q2 q3 hft hx h1 h2 h3
  by_cases k1 : k = 1
  · subst k1
    go_enter Try.func20, Try.ntmps20
    go_wp2_with fail
    rw [← HV.out, ← HX.out]
    refine (rbk_any x.s.fi x.a2 _ x.c2 ⟨1, f, t⟩ V hxV.g2 rfl hcap.k2 HL2.out HP2.out HFT.out).mono ?_
    rintro e w1 ⟨J, m, rfl, HJ, HM, hb1⟩
    have Z1 := Z0.below hb1
    have bel1 : Below w.heap.size w w1 := below_pl hb1 bel
    obtain ⟨z0, z1, z2, z3, z4, z5, z6⟩ := Z1.cells
    obtain ⟨y0, y1, y2, y3, y4, y5, y6⟩ := seven_thaw Z1
    go_wp2
    exact bodyPost_ret (v := .tuple #[.agg #[.int .i64 J.c, .int .i64 J.t, .int .i64 J.mn, .int .i64 J.mx, .int .i64 J.f, .int .i64 J.l, .int .i64 J.r], .int .i64 m]) (by simp [results, Try.results20, go_sem, z0, z1, z2, z3, z4, z5, z6]) rfl ⟨J, m, rfl, HJ, HM, below_set7 bel1 (by have := HX.out; omega) _ _ _ _ _ _ _⟩
  · by_cases k2 : k = 2
    · subst k2
      go_enter Try.func20, Try.ntmps20
      go_wp2_with fail
      rw [← HV.out, ← HX.out]
      refine (rbk_any x.s.co x.a3 _ x.c3 ⟨2, f, t⟩ V hxV.g3 rfl hcap.k3 HL3.out HP3.out HFT.out).mono ?_
      rintro e w1 ⟨J, m, rfl, HJ, HM, hb1⟩
      have Z1 := Z0.below hb1
      have bel1 : Below w.heap.size w w1 := below_pl hb1 bel
      obtain ⟨z0, z1, z2, z3, z4, z5, z6⟩ := Z1.cells
      obtain ⟨y0, y1, y2, y3, y4, y5, y6⟩ := seven_thaw Z1
      go_wp2
      exact bodyPost_ret (v := .tuple #[.agg #[.int .i64 J.c, .int .i64 J.t, .int .i64 J.mn, .int .i64 J.mx, .int .i64 J.f, .int .i64 J.l, .int .i64 J.r], .int .i64 m]) (by simp [results, Try.results20, go_sem, z0, z1, z2, z3, z4, z5, z6]) rfl ⟨J, m, rfl, HJ, HM, below_set7 bel1 (by have := HX.out; omega) _ _ _ _ _ _ _⟩
    · have e1 : (k == 1) = false := by simpa using k1
      have e2 : (k == 2) = false := by simpa using k2
      simp only [k1, k2, if_false]
      go_enter Try.func20, Try.ntmps20
      go_wp2_with fail
      rw [← HV.out, ← HX.out]
      refine (within_any x.s.ra x.a1 _ x.c1 ⟨k, f, t⟩ V hxV.g1 rfl hcap.k1 HL1.out HP1.out HFT.out).mono ?_
      rintro e w1 ⟨bo, m, d, rfl, seg1, HM, hb1⟩
      have hm : m ≤ 1152921504606846975 := by
        have : (Grain.win x.s.ra f t).length ≤ x.s.ra.length := List.length_filter_le _ _
        have h1 : m = (Grain.win x.s.ra f t).length := HM.out
        have := HL1.out
        omega
      have Z1 := Z0.below hb1
      have seg2 := seg1.below hb1
      have bel1 : Below w.heap.size w w1 := below_pl hb1 bel
      clear hb1 seg1 Z0
      go_wp2_with fail
      refine (of_len _ bo m d w1 seg2 HM.out hm).mono ?_
      rintro e w2 ⟨J, HJ, rfl, hb2⟩
      have Z2 := Z1.below hb2
      have bel2 : Below w.heap.size w w2 := below_pl hb2 bel1
      obtain ⟨z0, z1, z2, z3, z4, z5, z6⟩ := Z2.cells
      obtain ⟨y0, y1, y2, y3, y4, y5, y6⟩ := seven_thaw Z2
      go_wp2
      exact bodyPost_ret (v := .tuple #[.agg #[.int .i64 J.c, .int .i64 J.t, .int .i64 J.mn, .int .i64 J.mx, .int .i64 J.f, .int .i64 J.l, .int .i64 J.r], .int .i64 m]) (by simp [results, Try.results20, go_sem, z0, z1, z2, z3, z4, z5, z6]) rfl ⟨J, m, rfl, HJ, HM, below_set7 bel2 (by have := HX.out; omega) _ _ _ _ _ _ _⟩

end Go.Proofs.Ytfgablhgjbjbkaf

/-
  The walk of plan's Read.
-/
namespace Grain
theorem pcost_le {s : Shf} (h1 : s.ra.length ≤ 500) (h2 : s.fi.length ≤ 500) (h3 : s.co.length ≤ 500) (p : Pt) : pcost s p ≤ 500 := by
  unfold pcost
  split
  · exact Nat.le_trans (List.length_filter_le _ _) h2
  · split
    · exact Nat.le_trans (List.length_filter_le _ _) h3
    · exact Nat.le_trans (List.length_filter_le _ _) h1
end Grain
namespace Go.Proofs.Ytfgablhgjbjbkaf
open Go.RowKit Go.GrainU

set_option maxRecDepth 20000 in
set_option maxHeartbeats 4000000 in
theorem read_any (x : ShT) (l : List Grain.Pt) (ao : Option Addr) (n c : Nat) (w : World) (hx : ShIn w x) (hcap : ShCap x) (hs : Seg w ao (pcells l)) (hn : n = l.length) (hL : n ≤ 1000000000000000) :
    Calls Try.prog 9 #[x.v, .slice ao n c] w fun e w' => ∃ (J : Grain.Sm) (N E : Int), e = .returned (.tuple #[.agg #[.int .i64 J.c, .int .i64 J.t, .int .i64 J.mn, .int .i64 J.mx, .int .i64 J.f, .int .i64 J.l, .int .i64 J.r], .int .i64 N, .int .i64 E]) ∧ Hid (Grain.read x.s l = (J, N, E)) ∧ Below w.heap.size w w' := by
  have HN := hide hn
  clear hn
  obtain ⟨X, hX⟩ : ∃ X, X = w.heap.size := ⟨_, rfl⟩
  obtain ⟨V, hV⟩ : ∃ V, V = (w.alloc (so x)).alloc (.cells #[.int .i64 0, .int .i64 0, .int .i64 0, .int .i64 0, .int .i64 0, .int .i64 0, .int .i64 0] 36) := ⟨_, rfl⟩
  have bel : Below w.heap.size w V := by rw [hV]; exact ((Below.refl _ _).alloc (Nat.le_refl _) _).alloc (by simp) _
  have S0 : V.heap[X]? = some (so x) := by rw [hV, hX, Below.heap_alloc _ _ _ (by simp)]; exact heap_alloc_new w _
  have Z0 : SumAt V (X + 1) Grain.zero := by
    show V.heap[X + 1]? = _
    rw [hV, hX]; have := heap_alloc_new (w.alloc (so x)) (.cells #[.int .i64 0, .int .i64 0, .int .i64 0, .int .i64 0, .int .i64 0, .int .i64 0, .int .i64 0] 36); rwa [World.size_alloc] at this
  have hxV := hx.below bel
  have hsV := hs.below bel
  have HV : Hid (V = (w.alloc (.cells #[.slice x.a0 x.s.se.length x.c0, .slice x.a1 x.s.ra.length x.c1, .slice x.a2 x.s.fi.length x.c2, .slice x.a3 x.s.co.length x.c3, .int .i64 x.s.rf, .int .i64 x.s.ff, .int .i64 x.s.ft, .int .i64 x.s.cf, .int .i64 x.s.ct] 27)).alloc (.cells #[.int .i64 0, .int .i64 0, .int .i64 0, .int .i64 0, .int .i64 0, .int .i64 0, .int .i64 0] 36)) := hV
  have HX := hide hX
  have Hv : Hid (x.v = .agg #[.slice x.a0 x.s.se.length x.c0, .slice x.a1 x.s.ra.length x.c1, .slice x.a2 x.s.fi.length x.c2, .slice x.a3 x.s.co.length x.c3, .int .i64 x.s.rf, .int .i64 x.s.ff, .int .i64 x.s.ft, .int .i64 x.s.cf, .int .i64 x.s.ct]) := rfl
  obtain ⟨E, hE⟩ : ∃ E, E = Grain.swrong x.s := ⟨_, rfl⟩
  have HE := hide hE
  clear hV hX hE hx hs
  rw [Hv.out]
  go_enter Try.func9, Try.ntmps9
  go_wp2_with fail
  rw [← HV.out, ← Hv.out]
  refine (swrong_any x V hxV).mono ?_
  rintro e w1 ⟨rfl, hb1⟩
  rw [← HE.out, ← HX.out]
  have bel1 : Below w.heap.size w w1 := below_pl hb1 bel
  have S1 := below_block hb1 S0
  have Z1 := Z0.below hb1
  have hx1 := hxV.below hb1
  have hs1 := hsV.below hb1
  clear hb1 S0 Z0 hxV hsV
  by_cases hw : E = 0
  · subst hw
    have sr := (Grain.sr_iff x.s).1 HE.out.symm
    obtain ⟨b, hb⟩ : ∃ b, b = Grain.fol x.s l := ⟨_, rfl⟩
    have HB := hide hb
    clear hb
    obtain ⟨x0, x1, x2, x3, x4, x5, x6, x7, x8⟩ := nine_cells S1
    go_wp2_with fail
    refine (follow_any x.s _ _ _ _ l ao n c b w1 hs1 HN.out hL HB.out).mono ?_
    rintro e w2 ⟨rfl, hb2⟩
    have bel2 : Below w.heap.size w w2 := below_pl hb2 bel1
    have S2 := below_block hb2 S1
    have Z2 := Z1.below hb2
    have hx2 := hx1.below hb2
    have hs2 := hs1.below hb2
    clear hb2 S1 Z1 hx1 hs1 x0 x1 x2 x3 x4 x5 x6 x7 x8 bel1
    cases b
    · obtain ⟨z0, z1, z2, z3, z4, z5, z6⟩ := Z2.cells
      obtain ⟨y0, y1, y2, y3, y4, y5, y6⟩ := seven_thaw Z2
      have HR : Hid (Grain.read x.s l = (Grain.zero, 0, 8)) := by
        show _ = _
        rw [Grain.read, if_neg (by simp [← HE.out]), if_pos HB.out.symm]
      go_wp2
      exact bodyPost_ret (v := .tuple #[.agg #[.int .i64 0, .int .i64 0, .int .i64 0, .int .i64 0, .int .i64 0, .int .i64 0, .int .i64 0], .int .i64 0, .int .i64 8]) (by simp [results, Try.results9, go_sem, z0, z1, z2, z3, z4, z5, z6]) rfl ⟨Grain.zero, 0, 8, rfl, HR, below_set7 bel2 (by have := HX.out; omega) _ _ _ _ _ _ _⟩
    · have HR : Hid (Grain.read x.s l = (Grain.rdS x.s l, (Grain.rdN x.s l : Int), 0)) := by
        show _ = _
        rw [Grain.read, if_neg (by simp [← HE.out]), if_neg (by rw [← HB.out]; decide)]
      have HO := hide ((Grain.fol_iff x.s l).1 HB.out.symm)
      obtain ⟨B, hB⟩ : ∃ B, B = w2.heap.size := ⟨_, rfl⟩
      obtain ⟨U, hU⟩ : ∃ U, U = w2.alloc (.cells #[.int .i64 0, .int .i64 0, .int .i64 0, .int .i64 0, .int .i64 0, .int .i64 0, .int .i64 0] 36) := ⟨_, rfl⟩
      have A0 : SumAt U B Grain.zero := by show U.heap[B]? = _; rw [hU, hB]; exact heap_alloc_new w2 _
      have belU : Below w2.heap.size w2 U := by rw [hU]; exact (Below.refl _ _).alloc (Nat.le_refl _) _
      have HU := hide hU
      have HBB := hide hB
      clear hU hB
      go_wp2
      rw [← HU.out, ← HBB.out]
      go_loopw [9, 27] (fun s9 s27 wr => ∃ (k N : Nat) (s : Grain.Sm), k ≤ n ∧ s9 = .int .i64 N ∧ s27 = .int .i64 k ∧ N ≤ 500 * k ∧ SumAt wr B s ∧ Below w2.heap.size w2 wr ∧ Hid (s = Grain.rdS x.s (l.take k)) ∧ Hid (N = Grain.rdN x.s (l.take k))) (fun _ s27 _ => n - (intOf s27).toNat)
      case atStart => exact ⟨0, 0, Grain.zero, Nat.zero_le _, rfl, rfl, by omega, A0, belU, rfl, rfl⟩
      case round =>
        obtain ⟨k, N, s, hk, rfl, rfl, hNk, A1, belr, H1, H2⟩ := hrel
        have S3 := below_block belr S2
        have hsz := belr.size
        by_cases hlt : k < n
        · have hkl : k < l.length := by rw [← HN.out]; exact hlt
          obtain ⟨bb, off, rfl, hbl, hcell⟩ := seg_part hs2 hkl
          obtain ⟨P, hP⟩ : ∃ P, P = Grain.pt l k := ⟨_, rfl⟩
          have q := (hcell k hkl).below belr hbl
          rw [← hP] at q
          obtain ⟨c0, c1, c2⟩ := q
          have hpft : P.f ≤ P.t := by
            have := HO.out k hkl
            unfold Grain.okp at this
            simp only [Bool.and_eq_true] at this
            have := Grain.may_lt this.1
            rw [hP]; omega
          have T1 : Hid (Grain.rdS x.s (l.take (k + 1)) = Grain.join s (Grain.psum x.s P)) := by
            show _ = _
            rw [Grain.take_pt hkl, Grain.rdS_snoc, ← hP, ← H1.out]
          have T2 : Hid (Grain.rdN x.s (l.take (k + 1)) = N + Grain.pcost x.s P) := by
            show _ = _
            rw [Grain.take_pt hkl, Grain.rdN_snoc, ← hP, ← H2.out]
          have hpc := Grain.pcost_le sr.rlen sr.flen sr.clen P
          obtain ⟨W, hW⟩ : ∃ W, W = wr.alloc (.cells #[.int .i64 P.k, .int .i64 P.f, .int .i64 P.t] 34) := ⟨_, rfl⟩
          have hbW : Below wr.heap.size wr W := by rw [hW]; exact (Below.refl _ _).alloc (Nat.le_refl _) _
          have belW : Below w2.heap.size w2 W := below_pl hbW belr
          have A2 := A1.below hbW
          have HW := hide hW
          obtain ⟨x0, x1, x2, x3, x4, x5, x6, x7, x8⟩ := nine_cells S3
          have Xl : X < wr.heap.size := lt_of_block S3
          have Bl : B < wr.heap.size := lt_of_block A1
          have hxW := hx2.below belW
          clear hW hP hcell hkl H1 H2
          go_wp2_with fail
          rw [← HW.out]
          refine (rpart_any x P W hxW hcap sr.rlen sr.flen sr.clen sr.rpw sr.fpw sr.cpw hpft).mono ?_
          rintro e w3 ⟨J, m, rfl, HJ, HM, hb3⟩
          have bel3 : Below w2.heap.size w2 w3 := below_pl hb3 belW
          have A3 := A2.below hb3
          obtain ⟨W4, hW4⟩ : ∃ W4, W4 = w3.alloc (.cells #[.int .i64 J.c, .int .i64 J.t, .int .i64 J.mn, .int .i64 J.mx, .int .i64 J.f, .int .i64 J.l, .int .i64 J.r] 36) := ⟨_, rfl⟩
          have hb4 : Below w3.heap.size w3 W4 := by rw [hW4]; exact (Below.refl _ _).alloc (Nat.le_refl _) _
          have A4 := A3.below hb4
          have bel4 : Below w2.heap.size w2 W4 := below_pl hb4 bel3
          have HW4 := hide hW4
          obtain ⟨a0, a1, a2, a3, a4, a5, a6⟩ := A3.cells
          have Bl3 : B < w3.heap.size := lt_of_block A3
          clear hW4 x0 x1 x2 x3 x4 x5 x6 x7 x8 c0 c1 c2 hb3 hbW belW A2 A1 belr Xl Bl hxW S3
          go_wp2_with fail
          rw [← HW4.out]
          refine (join_let s J W4).mono ?_
          rintro e w5 ⟨Q, HQ, rfl, hb5⟩
          have A5 := A4.below hb5
          have bel5 : Below w2.heap.size w2 w5 := below_pl hb5 bel4
          obtain ⟨g0, g1, g2, g3, g4, g5, g6⟩ := A5.cells
          obtain ⟨y0, y1, y2, y3, y4, y5, y6⟩ := seven_thaw A5
          have hmm : m ≤ 500 := by rw [HM.out]; exact hpc
          have hw1 : IntKind.i64.wrap ((N : Int) + (m : Int)) = ((N + m : Nat) : Int) := by rw [IntKind.wrap_i64]; omega
          have hw2 : IntKind.i64.wrap (((N + m : Nat) : Int)) = ((N + m : Nat) : Int) := by rw [IntKind.wrap_i64]; omega
          have T3 : Hid (Q = Grain.rdS x.s (l.take (k + 1))) := by show _ = _; rw [T1.out, HQ.out, HJ.out]
          have T4 : Hid (N + m = Grain.rdN x.s (l.take (k + 1))) := by show _ = _; rw [T2.out, HM.out]
          clear T1 T2 HJ HQ a0 a1 a2 a3 a4 a5 a6 A3 A4 bel3 bel4 hb4 hb5 HW4 HW
          go_wp2
          go_roundw
          case rel => exact ⟨k + 1, N + m, Q, by omega, by go_num, by go_num, by omega, A5.set Q, below_set7 bel5 (by have := HBB.out; omega) _ _ _ _ _ _ _, T3, T4⟩
          case measure => simp [intOf]; omega
        · obtain ⟨g0, g1, g2, g3, g4, g5, g6⟩ := A1.cells
          have Z3 := Z2.below belr
          obtain ⟨z0, z1, z2, z3, z4, z5, z6⟩ := Z3.cells
          obtain ⟨y0, y1, y2, y3, y4, y5, y6⟩ := seven_thaw Z3
          have ek : l.take k = l := List.take_of_length_le (by have := HN.out; omega)
          have HR2 : Hid (Grain.read x.s l = (s, (N : Int), 0)) := by
            show _ = _
            rw [HR.out, H1.out, H2.out, ek]
          clear HR H1 H2 ek
          go_wp2
          exact bodyPost_ret (v := .tuple #[.agg #[.int .i64 s.c, .int .i64 s.t, .int .i64 s.mn, .int .i64 s.mx, .int .i64 s.f, .int .i64 s.l, .int .i64 s.r], .int .i64 N, .int .i64 0]) (by simp [results, Try.results9, go_sem, z0, z1, z2, z3, z4, z5, z6]) rfl ⟨s, N, 0, rfl, HR2, below_set7 (below_pl belr bel2) (by have := HX.out; omega) _ _ _ _ _ _ _⟩
  · have HR : Hid (Grain.read x.s l = (Grain.zero, 0, E)) := by
      show _ = _
      rw [Grain.read, ← HE.out, if_pos hw]
    have hne : (E != 0) = true := by simpa using hw
    obtain ⟨z0, z1, z2, z3, z4, z5, z6⟩ := Z1.cells
    obtain ⟨y0, y1, y2, y3, y4, y5, y6⟩ := seven_thaw Z1
    go_wp2
    exact bodyPost_ret (v := .tuple #[.agg #[.int .i64 0, .int .i64 0, .int .i64 0, .int .i64 0, .int .i64 0, .int .i64 0, .int .i64 0], .int .i64 0, .int .i64 E]) (by simp [results, Try.results9, go_sem, z0, z1, z2, z3, z4, z5, z6]) rfl ⟨Grain.zero, 0, E, rfl, HR, below_set7 bel1 (by have := HX.out; omega) _ _ _ _ _ _ _⟩

end Go.Proofs.Ytfgablhgjbjbkaf

/-
  The walk of plan's Covers.
-/
namespace Go.Proofs.Ytfgablhgjbjbkaf
open Go.RowKit Go.GrainU

set_option maxRecDepth 20000 in
set_option maxHeartbeats 2000000 in
theorem covers_any (s : Grain.Shf) (v0 v1 v2 v3 : Value) (l : List Grain.Pt) (ao : Option Addr) (n c : Nat) (f t : Int) (b : Bool) (w : World) (hs : Seg w ao (pcells l)) (hn : n = l.length) (hL : n ≤ 1000000000000000) (hb : b = Grain.cvr s l f t) :
    Calls Try.prog 10 #[.agg #[v0, v1, v2, v3, .int .i64 s.rf, .int .i64 s.ff, .int .i64 s.ft, .int .i64 s.cf, .int .i64 s.ct], .slice ao n c, .int .i64 f, .int .i64 t] w fun e w' => e = .returned (.bool b) ∧ Below w.heap.size w w' := by
  have HB := hide (hb.trans (Grain.cvr_iff s l f t))
  have HN := hide hn
  clear hb hn
  obtain ⟨V, hV⟩ : ∃ V, V = w.alloc (.cells #[v0, v1, v2, v3, .int .i64 s.rf, .int .i64 s.ff, .int .i64 s.ft, .int .i64 s.cf, .int .i64 s.ct] 27) := ⟨_, rfl⟩
  have bel : Below w.heap.size w V := by rw [hV]; exact (Below.refl _ _).alloc (Nat.le_refl _) _
  have hsV := hs.below bel
  have HV := hide hV
  clear hV
  rcases Nat.eq_zero_or_pos n with h0 | h0
  · subst h0
    have e : b = decide (f = t) := by rw [HB.out, if_pos HN.out.symm]
    subst e
    clear HB
    go_enter Try.func10, Try.ntmps10
    go_wp2
    go_ret
    rw [← HV.out]
    exact ⟨ret_bool (by rw [Bool.eq_iff_iff]; simp), bel⟩
  · obtain ⟨m, rfl⟩ : ∃ m, n = m + 1 := ⟨n - 1, by omega⟩
    have hm : m < l.length := by have := HN.out; omega
    obtain ⟨bb, off, rfl, hbl, hcell⟩ := seg_part hs hm
    obtain ⟨A, hA⟩ : ∃ A, A = (Grain.pt l 0).f := ⟨_, rfl⟩
    obtain ⟨B, hB⟩ : ∃ B, B = (Grain.pt l m).t := ⟨_, rfl⟩
    have e : b = (decide (A = f) && (decide (B = t) && Grain.fol s l)) := by
      rw [HB.out, if_neg (by have := HN.out; omega), hA, hB, show l.length - 1 = m by have := HN.out; omega]
    obtain ⟨b', hb'⟩ : ∃ b', b' = Grain.fol s l := ⟨_, rfl⟩
    have z1 : w.cell? ⟨bb, off + 1, none⟩ = some (.int .i64 A) := by
      rw [hA]
      have := (hcell 0 (by omega)).2.1
      simpa using this
    have z2 : w.cell? ⟨bb, off + m * 3 + 2, none⟩ = some (.int .i64 B) := by rw [hB]; exact (hcell m hm).2.2
    have hw1 : IntKind.i64.wrap ((m : Int) + 1 - 1) = (m : Int) := by rw [IntKind.wrap_i64]; omega
    have hw2 : IntKind.i64.wrap (m : Int) = (m : Int) := by rw [IntKind.wrap_i64]; omega
    have h3 : (((m + 1 : Nat) : Int) == 0) = false := by simp; omega
    have h4 : (((m : Int) + 1) == 0) = false := by simp; omega
    rw [← hb'] at e
    have HB' := hide hb'
    have HE := hide e
    clear hA hB hb' e HB hcell hm h0
    by_cases e1 : A = f
    · by_cases e2 : B = t
      · have e : b = b' := by rw [HE.out]; simp [e1, e2]
        subst e
        have g1 : (A == f) = true := by simp [e1]
        have g2 : (B == t) = true := by simp [e2]
        clear HE
        subst e1 e2
        go_enter Try.func10, Try.ntmps10
        go_wp2_with fail
        rw [← HV.out]
        refine (follow_any s v0 v1 v2 v3 l _ (m + 1) c b V hsV HN.out hL HB'.out).mono ?_
        rintro e w1 ⟨rfl, hb1⟩
        go_wp2
        go_ret
        exact ⟨rfl, below_pl hb1 bel⟩
      · have e : b = false := by rw [HE.out]; simp [e2]
        subst e
        have g1 : (A == f) = true := by simp [e1]
        have g2 : (B == t) = false := by simp [e2]
        clear HE
        subst e1
        go_enter Try.func10, Try.ntmps10
        go_wp2
        go_ret
        rw [← HV.out]
        exact ⟨rfl, bel⟩
    · have e : b = false := by rw [HE.out]; simp [e1]
      subst e
      have g1 : (A == f) = false := by simp [e1]
      clear HE
      go_enter Try.func10, Try.ntmps10
      go_wp2
      go_ret
      rw [← HV.out]
      exact ⟨rfl, bel⟩

end Go.Proofs.Ytfgablhgjbjbkaf

/-
  The walk of the law's alive.
-/
namespace Go.Proofs.Ytfgablhgjbjbkaf
open Go.RowKit Go.GrainU

theorem set9_far_p {w : World} {B k : Nat} (h : k ≠ B) (v0 v1 v2 v3 v4 v5 v6 v7 v8 : Value) : (Set9 w B v0 v1 v2 v3 v4 v5 v6 v7 v8).heap[k]? = w.heap[k]? := by
  unfold Set9
  rw [setCell_far h, setCell_far h, setCell_far h, setCell_far h, setCell_far h, setCell_far h, setCell_far h, setCell_far h, setCell_far h]

theorem set9_size_p (w : World) (B : Nat) (v0 v1 v2 v3 v4 v5 v6 v7 v8 : Value) : (Set9 w B v0 v1 v2 v3 v4 v5 v6 v7 v8).heap.size = w.heap.size := by
  unfold Set9; simp

theorem set9_sob_p {w : World} {B : Nat} {a0 a1 a2 a3 a4 a5 a6 a7 a8 : Value} (h : w.heap[B]? = some (sob a0 a1 a2 a3 a4 a5 a6 a7 a8)) (v0 v1 v2 v3 v4 v5 v6 v7 v8 : Value) : (Set9 w B v0 v1 v2 v3 v4 v5 v6 v7 v8).heap[B]? = some (sob v0 v1 v2 v3 v4 v5 v6 v7 v8) := by
  have h0 : (w.setCell ⟨B, 0, none⟩ v0).heap[B]? = some (sob v0 a1 a2 a3 a4 a5 a6 a7 a8) := set_block h _
  have h1 : ((w.setCell ⟨B, 0, none⟩ v0).setCell ⟨B, 1, none⟩ v1).heap[B]? = some (sob v0 v1 a2 a3 a4 a5 a6 a7 a8) := set_block h0 _
  have h2 : (((w.setCell ⟨B, 0, none⟩ v0).setCell ⟨B, 1, none⟩ v1).setCell ⟨B, 2, none⟩ v2).heap[B]? = some (sob v0 v1 v2 a3 a4 a5 a6 a7 a8) := set_block h1 _
  have h3 : ((((w.setCell ⟨B, 0, none⟩ v0).setCell ⟨B, 1, none⟩ v1).setCell ⟨B, 2, none⟩ v2).setCell ⟨B, 3, none⟩ v3).heap[B]? = some (sob v0 v1 v2 v3 a4 a5 a6 a7 a8) := set_block h2 _
  have h4 : (((((w.setCell ⟨B, 0, none⟩ v0).setCell ⟨B, 1, none⟩ v1).setCell ⟨B, 2, none⟩ v2).setCell ⟨B, 3, none⟩ v3).setCell ⟨B, 4, none⟩ v4).heap[B]? = some (sob v0 v1 v2 v3 v4 a5 a6 a7 a8) := set_block h3 _
  have h5 : ((((((w.setCell ⟨B, 0, none⟩ v0).setCell ⟨B, 1, none⟩ v1).setCell ⟨B, 2, none⟩ v2).setCell ⟨B, 3, none⟩ v3).setCell ⟨B, 4, none⟩ v4).setCell ⟨B, 5, none⟩ v5).heap[B]? = some (sob v0 v1 v2 v3 v4 v5 a6 a7 a8) := set_block h4 _
  have h6 : (((((((w.setCell ⟨B, 0, none⟩ v0).setCell ⟨B, 1, none⟩ v1).setCell ⟨B, 2, none⟩ v2).setCell ⟨B, 3, none⟩ v3).setCell ⟨B, 4, none⟩ v4).setCell ⟨B, 5, none⟩ v5).setCell ⟨B, 6, none⟩ v6).heap[B]? = some (sob v0 v1 v2 v3 v4 v5 v6 a7 a8) := set_block h5 _
  have h7 : ((((((((w.setCell ⟨B, 0, none⟩ v0).setCell ⟨B, 1, none⟩ v1).setCell ⟨B, 2, none⟩ v2).setCell ⟨B, 3, none⟩ v3).setCell ⟨B, 4, none⟩ v4).setCell ⟨B, 5, none⟩ v5).setCell ⟨B, 6, none⟩ v6).setCell ⟨B, 7, none⟩ v7).heap[B]? = some (sob v0 v1 v2 v3 v4 v5 v6 v7 a8) := set_block h6 _
  have h8 : (((((((((w.setCell ⟨B, 0, none⟩ v0).setCell ⟨B, 1, none⟩ v1).setCell ⟨B, 2, none⟩ v2).setCell ⟨B, 3, none⟩ v3).setCell ⟨B, 4, none⟩ v4).setCell ⟨B, 5, none⟩ v5).setCell ⟨B, 6, none⟩ v6).setCell ⟨B, 7, none⟩ v7).setCell ⟨B, 8, none⟩ v8).heap[B]? = some (sob v0 v1 v2 v3 v4 v5 v6 v7 v8) := set_block h7 _
  exact h8

theorem set9_here_p {w : World} {B : Nat} {z : ShT} (h : w.heap[B]? = some (so z)) (y : ShT) :
    (Set9 w B (.slice y.a0 y.s.se.length y.c0) (.slice y.a1 y.s.ra.length y.c1) (.slice y.a2 y.s.fi.length y.c2) (.slice y.a3 y.s.co.length y.c3) (.int .i64 y.s.rf) (.int .i64 y.s.ff) (.int .i64 y.s.ft) (.int .i64 y.s.cf) (.int .i64 y.s.ct)).heap[B]? = some (so y) := by
  have h' : w.heap[B]? = some (sob (.slice z.a0 z.s.se.length z.c0) (.slice z.a1 z.s.ra.length z.c1) (.slice z.a2 z.s.fi.length z.c2) (.slice z.a3 z.s.co.length z.c3) (.int .i64 z.s.rf) (.int .i64 z.s.ff) (.int .i64 z.s.ft) (.int .i64 z.s.cf) (.int .i64 z.s.ct)) := h
  exact set9_sob_p h' _ _ _ _ _ _ _ _ _

theorem own_at_p {w : World} {base e size n c : Nat} {ao : Option Addr} {xs : List Value} (h : w.ownsRow base e size (.slice ao n c) n xs) {b off : Nat} (ha : ao = some ⟨b, off, none⟩) : base ≤ b := by
  subst ha
  rcases h.2 with ⟨h2, _⟩ | ⟨g, cap, cur, hv, hg, _⟩
  · simp at h2
  · simp at hv
    obtain ⟨⟨rfl, _⟩, _⟩ := hv
    exact hg

theorem ShO.set9_p {base : Nat} {w : World} {y : ShT} (h : ShO base w y) {B : Nat} (hB : B < base) (v0 v1 v2 v3 v4 v5 v6 v7 v8 : Value) : ShO base (Set9 w B v0 v1 v2 v3 v4 v5 v6 v7 v8) y :=
  ⟨own_set9 h.o0 hB _ _ _ _ _ _ _ _ _, own_set9 h.o1 hB _ _ _ _ _ _ _ _ _, own_set9 h.o2 hB _ _ _ _ _ _ _ _ _, own_set9 h.o3 hB _ _ _ _ _ _ _ _ _, h.ne, h.fits, h.n0, h.n1, h.n2, h.n3⟩

theorem ShO.cap {base : Nat} {w : World} {y : ShT} (h : ShO base w y) : ShCap y := by
  refine ⟨?_, ?_, ?_⟩
  · obtain ⟨a, c, e, _, hc⟩ := own_open h.o1
    simp at e
    rw [e.2]; exact hc
  · obtain ⟨a, c, e, _, hc⟩ := own_open h.o2
    simp at e
    rw [e.2]; exact hc
  · obtain ⟨a, c, e, _, hc⟩ := own_open h.o3
    simp at e
    rw [e.2]; exact hc

/-- the shelf that alive asks, with a sample; rolled; what is chosen of it -/
def al1 : Grain.Shf := { Grain.szero with ra := [(5, 7)] }
def al2 : Grain.Shf := (Grain.sroll al1 70).1
def al3 : List Grain.Pt := [⟨2, 0, 60⟩, ⟨1, 60, 70⟩, ⟨0, 70, 75⟩]

theorem al1_eq : Grain.sapp { Grain.szero with se := [] } 5 7 = (al1, 0) := rfl
theorem al2_eq : (Grain.sroll al1 70).2 = 0 := by kernel_rfl
theorem al3_eq : Grain.choose al2 0 75 = (al3, 0) := by kernel_rfl
theorem al4_eq : Grain.read al2 al3 = (⟨1, 7, 7, 7, 7, 7, 0⟩, 1, 0) := by kernel_rfl
theorem al5_eq : Grain.cvr al2 al3 0 75 = true := by kernel_rfl

set_option maxRecDepth 20000 in
set_option maxHeartbeats 4000000 in
theorem palive_any (w : World) : Calls Try.prog 7 #[] w fun e w' => e = .returned (.bool true) ∧ Below w.heap.size w w' := by
  go_enter Try.func7, Try.ntmps7
  go_wp2_with fail
  refine (snew_any [] none 0 0 w (.inl rfl) rfl (fun k hk => by simp at hk) (by decide) (fun _ => ⟨rfl, rfl⟩)).mono ?_
  rintro e w1 ⟨y, rfl, hy, iny, hb1⟩
  have HY := hide hy
  clear hy
  go_wp2_with fail
  refine (sapp_any y 5 7 w1 iny.shIn).mono ?_
  rintro e w2 ⟨y1, rfl, hy1, in1o, hb2⟩
  have in1 := in1o.shIn
  have bel2 : Below w.heap.size w w2 := below_pl hb2 hb1
  rw [HY.out, al1_eq] at hy1 ⊢
  have HY1 : Hid (y1.s = al1) := hy1
  obtain ⟨B, hB⟩ : ∃ B, B = w2.heap.size := ⟨_, rfl⟩
  obtain ⟨W2, hW2⟩ : ∃ W, W = w2.alloc (so y1) := ⟨_, rfl⟩
  have hbW : Below w2.heap.size w2 W2 := by rw [hW2]; exact (Below.refl _ _).alloc (Nat.le_refl _) _
  have bel3 : Below w.heap.size w W2 := below_pl hbW bel2
  have in2 := in1.below hbW
  have Y2 : W2.heap[B]? = some (so y1) := by rw [hW2, hB]; exact heap_alloc_new w2 _
  have HW2 : Hid (W2 = w2.alloc (.cells #[.slice y1.a0 y1.s.se.length y1.c0, .slice y1.a1 y1.s.ra.length y1.c1, .slice y1.a2 y1.s.fi.length y1.c2, .slice y1.a3 y1.s.co.length y1.c3, .int .i64 y1.s.rf, .int .i64 y1.s.ff, .int .i64 y1.s.ft, .int .i64 y1.s.cf, .int .i64 y1.s.ct] 27)) := hW2
  have Hv : Hid (y1.v = .agg #[.slice y1.a0 y1.s.se.length y1.c0, .slice y1.a1 y1.s.ra.length y1.c1, .slice y1.a2 y1.s.fi.length y1.c2, .slice y1.a3 y1.s.co.length y1.c3, .int .i64 y1.s.rf, .int .i64 y1.s.ff, .int .i64 y1.s.ft, .int .i64 y1.s.cf, .int .i64 y1.s.ct]) := rfl
  have HB := hide hB
  have wB : w.heap.size ≤ B := by rw [hB]; exact bel2.size
  have lB : B < W2.heap.size := lt_of_block Y2
  rw [Hv.out]
  clear hW2 hy1 hb1 hb2 iny HY hB hbW in1 in1o bel2
  go_upto_region 2 with fail
  rw [← HW2.out, ← HB.out]
  obtain ⟨b0, b1, b2, b3, b4, b5, b6, b7, b8⟩ := nine_cells Y2
  go_wp2_with fail
  rw [← Hv.out]
  refine (sroll_any y1 70 W2 in2).mono ?_
  rintro e w3 ⟨y2, rfl, hy2, in3o, hb3⟩
  rw [HY1.out, al2_eq] at *
  have HY2 : Hid (y2.s = al2) := hy2
  have Y3 := below_block hb3 Y2
  have cap2 := in3o.cap
  obtain ⟨W3, hW3⟩ : ∃ W, W = Set9 w3 B (.slice y2.a0 y2.s.se.length y2.c0) (.slice y2.a1 y2.s.ra.length y2.c1) (.slice y2.a2 y2.s.fi.length y2.c2) (.slice y2.a3 y2.s.co.length y2.c3) (.int .i64 y2.s.rf) (.int .i64 y2.s.ff) (.int .i64 y2.s.ft) (.int .i64 y2.s.cf) (.int .i64 y2.s.ct) := ⟨_, rfl⟩
  have Y4 : W3.heap[B]? = some (so y2) := by rw [hW3]; exact set9_here_p Y3 y2
  have in4 : ShIn W3 y2 := by rw [hW3]; exact (in3o.set9_p lB _ _ _ _ _ _ _ _ _).shIn
  have bel4 : Below w.heap.size w W3 := by rw [hW3]; exact below_set9 (below_pl hb3 bel3) wB _ _ _ _ _ _ _ _ _
  have HW3 : Hid (W3 = Set9 w3 B (.slice y2.a0 y2.s.se.length y2.c0) (.slice y2.a1 y2.s.ra.length y2.c1) (.slice y2.a2 y2.s.fi.length y2.c2) (.slice y2.a3 y2.s.co.length y2.c3) (.int .i64 y2.s.rf) (.int .i64 y2.s.ff) (.int .i64 y2.s.ft) (.int .i64 y2.s.cf) (.int .i64 y2.s.ct)) := hW3
  have Hv2 : Hid (y2.v = .agg #[.slice y2.a0 y2.s.se.length y2.c0, .slice y2.a1 y2.s.ra.length y2.c1, .slice y2.a2 y2.s.fi.length y2.c2, .slice y2.a3 y2.s.co.length y2.c3, .int .i64 y2.s.rf, .int .i64 y2.s.ff, .int .i64 y2.s.ft, .int .i64 y2.s.cf, .int .i64 y2.s.ct]) := rfl
  obtain ⟨f0, f1, f2, f3, f4, f5, f6, f7, f8⟩ := so_free Y3
  obtain ⟨a0, a1, a2, a3, a4, a5, a6, a7, a8⟩ := nine_cells Y3
  rw [Hv2.out]
  clear hW3 hy2 hb3 b0 b1 b2 b3 b4 b5 b6 b7 b8 in3o Y3 in2 Y2 HW2 HB
  go_upto_region 3 with fail
  rw [show (((((((((w3.setCell ⟨B, 0, none⟩ (.slice y2.a0 y2.s.se.length y2.c0)).setCell ⟨B, 1, none⟩ (.slice y2.a1 y2.s.ra.length y2.c1)).setCell ⟨B, 2, none⟩ (.slice y2.a2 y2.s.fi.length y2.c2)).setCell ⟨B, 3, none⟩ (.slice y2.a3 y2.s.co.length y2.c3)).setCell ⟨B, 4, none⟩ (.int .i64 y2.s.rf)).setCell ⟨B, 5, none⟩ (.int .i64 y2.s.ff)).setCell ⟨B, 6, none⟩ (.int .i64 y2.s.ft)).setCell ⟨B, 7, none⟩ (.int .i64 y2.s.cf)).setCell ⟨B, 8, none⟩ (.int .i64 y2.s.ct)) = W3 from HW3.out.symm]
  clear HW3 f0 f1 f2 f3 f4 f5 f6 f7 f8 a0 a1 a2 a3 a4 a5 a6 a7 a8
  obtain ⟨b0, b1, b2, b3, b4, b5, b6, b7, b8⟩ := nine_cells Y4
  go_wp2_with fail
  rw [← Hv2.out]
  refine (choose_any y2 0 75 (al3, 0) W3 in4 (by rw [HY2.out, al3_eq])).mono ?_
  rintro e w4 ⟨co, m, d, rfl, own4, hm4, hb4⟩
  have hm : m = 3 := own_plen own4
  subst hm
  have bel5 : Below w.heap.size w w4 := below_pl hb4 bel4
  have Y5 := below_block hb4 Y4
  have in5 := in4.below hb4
  have seg5 := own_seg' own4
  clear b0 b1 b2 b3 b4 b5 b6 b7 b8 hb4 Y4 in4 own4
  obtain ⟨b0, b1, b2, b3, b4, b5, b6, b7, b8⟩ := nine_cells Y5
  go_wp2_with fail
  rw [← Hv2.out]
  refine (read_any y2 al3 co 3 d w4 in5 cap2 seg5 rfl (by decide)).mono ?_
  rintro e w5 ⟨J, N, E, rfl, HR, hb5⟩
  have hr := HR.out
  rw [HY2.out, al4_eq] at hr
  simp only [Prod.mk.injEq] at hr
  obtain ⟨rfl, rfl, rfl⟩ := hr
  have bel6 : Below w.heap.size w w5 := below_pl hb5 bel5
  have Y6 := below_block hb5 Y5
  have seg6 := seg5.below hb5
  obtain ⟨W6, hW6⟩ : ∃ W, W = w5.alloc (.cells #[.int .i64 1, .int .i64 7, .int .i64 7, .int .i64 7, .int .i64 7, .int .i64 7, .int .i64 0] 36) := ⟨_, rfl⟩
  have hb6 : Below w5.heap.size w5 W6 := by rw [hW6]; exact (Below.refl _ _).alloc (Nat.le_refl _) _
  have bel7 : Below w.heap.size w W6 := below_pl hb6 bel6
  have seg7 := seg6.below hb6
  have HW6 := hide hW6
  have lB6 : B < w5.heap.size := lt_of_block Y6
  clear b0 b1 b2 b3 b4 b5 b6 b7 b8 hb5 Y5 in5 HR hW6
  obtain ⟨b0, b1, b2, b3, b4, b5, b6, b7, b8⟩ := nine_cells Y6
  go_wp2_with fail
  rw [← HW6.out]
  refine (covers_any y2.s _ _ _ _ al3 co 3 d 0 75 true W6 seg7 rfl (by decide) (by rw [HY2.out, al5_eq])).mono ?_
  rintro e w7 ⟨rfl, hb7⟩
  go_wp2
  go_ret
  exact ⟨rfl, below_pl hb7 bel7⟩

end Go.Proofs.Ytfgablhgjbjbkaf

/-
  The walk of PlanCovers.
-/
namespace Go.Proofs.Ytfgablhgjbjbkaf
open Go.RowKit Go.GrainU

set_option maxRecDepth 20000 in
set_option maxHeartbeats 4000000 in
theorem pcov_any (x : ShT) (f t : Int) (w : World) (hx : ShIn w x) (hcap : ShCap x) :
    Calls Try.prog 3 #[x.v, .int .i64 f, .int .i64 t] w fun e w' => e = .returned (.bool true) ∧ Below w.heap.size w w' := by
  obtain ⟨X, hX⟩ : ∃ X, X = w.heap.size := ⟨_, rfl⟩
  obtain ⟨V, hV⟩ : ∃ V, V = w.alloc (so x) := ⟨_, rfl⟩
  have bel : Below w.heap.size w V := by rw [hV]; exact (Below.refl _ _).alloc (Nat.le_refl _) _
  have B0 : V.heap[X]? = some (so x) := by rw [hV, hX]; exact heap_alloc_new w _
  have inx := hx.below bel
  have HV : Hid (V = w.alloc (.cells #[.slice x.a0 x.s.se.length x.c0, .slice x.a1 x.s.ra.length x.c1, .slice x.a2 x.s.fi.length x.c2, .slice x.a3 x.s.co.length x.c3, .int .i64 x.s.rf, .int .i64 x.s.ff, .int .i64 x.s.ft, .int .i64 x.s.cf, .int .i64 x.s.ct] 27)) := hV
  have Hv : Hid (x.v = .agg #[.slice x.a0 x.s.se.length x.c0, .slice x.a1 x.s.ra.length x.c1, .slice x.a2 x.s.fi.length x.c2, .slice x.a3 x.s.co.length x.c3, .int .i64 x.s.rf, .int .i64 x.s.ff, .int .i64 x.s.ft, .int .i64 x.s.cf, .int .i64 x.s.ct]) := rfl
  have HX := hide hX
  rw [Hv.out]
  clear hV hX hx
  go_enter Try.func3, Try.ntmps3
  go_wp2_with fail
  rw [← HV.out, ← HX.out]
  refine (palive_any V).mono ?_
  rintro e w1 ⟨rfl, hb1⟩
  have bel1 : Below w.heap.size w w1 := below_pl hb1 bel
  have F1 := below_block hb1 B0
  have in1 := inx.below hb1
  obtain ⟨b0, b1, b2, b3, b4, b5, b6, b7, b8⟩ := nine_cells F1
  obtain ⟨r, hr⟩ : ∃ r, r = Grain.choose x.s f t := ⟨_, rfl⟩
  have HR := hide hr
  clear HV hb1 B0 inx bel hr
  go_wp2_with fail
  rw [← Hv.out]
  refine (choose_any x f t r w1 in1 HR.out).mono ?_
  rintro e w2 ⟨co, m, d, rfl, own2, hm2, hb2⟩
  obtain ⟨L, E⟩ := r
  simp only at own2 ⊢
  have bel2 : Below w.heap.size w w2 := below_pl hb2 bel1
  have F2 := below_block hb2 F1
  have in2 := in1.below hb2
  have seg2 := own_seg' own2
  have hmL := own_plen own2
  have HL := hide hmL
  clear b0 b1 b2 b3 b4 b5 b6 b7 b8 hb2 F1 in1 own2 bel1
  by_cases hE : E = 0
  · subst hE
    have hok := Grain.choose_ok (s := x.s) (f := f) (t := t) (by rw [← HR.out])
    rw [← HR.out] at hok
    have HO := hide hok
    clear hok hmL
    go_wp2
    go_loopw [29] (fun i wr => ∃ k : Nat, k ≤ m ∧ i = .int .i64 k ∧ Below w2.heap.size w2 wr) (fun i _ => m - (intOf i).toNat)
    case atStart => exact ⟨0, Nat.zero_le _, rfl, Below.refl _ _⟩
    case round =>
      obtain ⟨k, hk, rfl, belr⟩ := hrel
      by_cases hlt : k < m
      · rcases Nat.eq_zero_or_pos k with hk0 | hk0
        · subst hk0
          have hg : decide ((0 : Int) < ((0 : Nat) : Int)) = false := by decide
          have hg' : decide ((0 : Int) < 0) = false := by decide
          go_wp2
          go_quiet (fail)
          go_wp2
          go_roundw
          case rel => exact ⟨0 + 1, by omega, by go_num, below_drewN belr _⟩
          case measure => simp [intOf]; omega
        · obtain ⟨j, rfl⟩ : ∃ j, k = j + 1 := ⟨k - 1, by omega⟩
          have hkl : j + 1 < L.length := by rw [← HL.out]; exact hlt
          obtain ⟨bb, off, rfl, hbl, hcell⟩ := seg_part seg2 hkl
          obtain ⟨p, hp⟩ : ∃ p, p = (Grain.pt L (j + 1)).k := ⟨_, rfl⟩
          obtain ⟨q, hq⟩ : ∃ q, q = (Grain.pt L j).k := ⟨_, rfl⟩
          have c0 : wr.cell? ⟨bb, off + (j + 1) * 3, none⟩ = some (.int .i64 p) := by rw [hp]; exact ((hcell (j + 1) hkl).below belr hbl).1
          have c1 : wr.cell? ⟨bb, off + j * 3, none⟩ = some (.int .i64 q) := by rw [hq]; exact ((hcell j (by omega)).below belr hbl).1
          have ne : (p == q) = false := by
            have := HO.out.2.1 (j + 1) (by omega) hkl
            rw [hp, hq]; simpa using this
          have hg : decide ((0 : Int) < ((j + 1 : Nat) : Int)) = true := by simp
          have hg' : decide ((0 : Int) < (j : Int) + 1) = true := by simp
          have hj : (j : Int) < (m : Int) := by omega
          have hj1 : ((j : Int) + 1) < (m : Int) := by omega
          have hw1 : IntKind.i64.wrap ((j : Int) + 1 - 1) = (j : Int) := by rw [IntKind.wrap_i64]; omega
          have hw2 : IntKind.i64.wrap (j : Int) = (j : Int) := by rw [IntKind.wrap_i64]; omega
          clear hp hq hcell
          go_wp2
          go_quiet (fail)
          go_wp2
          go_roundw
          case rel => exact ⟨j + 1 + 1, by omega, by go_num, below_drewN belr _⟩
          case measure => simp [intOf]; omega
      · have F3 := below_block belr F2
        have in3 := in2.below belr
        have seg3 := seg2.below belr
        have bel3 : Below w.heap.size w wr := below_pl belr bel2
        obtain ⟨b0, b1, b2, b3, b4, b5, b6, b7, b8⟩ := nine_cells F3
        clear belr
        go_wp2_with fail
        rw [← Hv.out]
        refine (read_any x L co m d wr in3 hcap seg3 HL.out (by omega)).mono ?_
        rintro e w4 ⟨J, N, E, rfl, HRd, hb4⟩
        have hE0 : E = 0 := by
          have h := HRd.out
          rw [Grain.read, if_neg (by simp [HO.out.2.2]), if_neg (by rw [Grain.cvr_fol HO.out.1]; decide)] at h
          simp only [Prod.mk.injEq] at h
          exact h.2.2.symm
        subst hE0
        have F4 := below_block hb4 F3
        have seg4 := seg3.below hb4
        have bel4 : Below w.heap.size w w4 := below_pl hb4 bel3
        obtain ⟨W5, hW5⟩ : ∃ W, W = w4.alloc (.cells #[.int .i64 J.c, .int .i64 J.t, .int .i64 J.mn, .int .i64 J.mx, .int .i64 J.f, .int .i64 J.l, .int .i64 J.r] 36) := ⟨_, rfl⟩
        have hb5 : Below w4.heap.size w4 W5 := by rw [hW5]; exact (Below.refl _ _).alloc (Nat.le_refl _) _
        have seg5 := seg4.below hb5
        have bel5 : Below w.heap.size w W5 := below_pl hb5 bel4
        have HW5 := hide hW5
        have Xl : X < w4.heap.size := lt_of_block F4
        clear b0 b1 b2 b3 b4 b5 b6 b7 b8 hb4 hW5 F3 in3
        obtain ⟨b0, b1, b2, b3, b4, b5, b6, b7, b8⟩ := nine_cells F4
        go_wp2_with fail
        rw [← HW5.out]
        refine (covers_any x.s _ _ _ _ L co m d f t true W5 seg5 HL.out (by omega) HO.out.1.symm).mono ?_
        rintro e w6 ⟨rfl, hb6⟩
        go_wp2
        go_ret
        exact ⟨rfl, below_pl hb6 bel5⟩
  · have hno := Grain.choose_no (s := x.s) (f := f) (t := t) (by rw [← HR.out]; exact hE)
    rw [← HR.out] at hno
    have hm0 : m = 0 := by rw [hmL]; simp only at hno; rw [hno]; rfl
    subst hm0
    have hne : (E != 0) = true := by simpa using hE
    clear hmL hno
    go_wp2
    go_ret
    exact ⟨rfl, bel2⟩

end Go.Proofs.Ytfgablhgjbjbkaf

/-
  For every input, PlanCovers returns true: what is chosen can be read: it covers the window, part by part, and no two that touch are of one tier. No condition.
-/
namespace Go.Proofs.Ytfgablhgjbjbkaf
open Go.ChangeShapes Go.WideShapes Go.ChangeAt Go.RowKit Go.GrainU

theorem shtrodAll_three {H : Type} {enc : TypeId × Value → H} {P : Program} {w : World} {base : Nat} {sp : Nat → Bool} {held : Bool} {t0 t1 t2 : TypeId} {args : Array Value} {ds : List (DataW H)} {p : List MemPlace} (h : DataW.TrodAll enc P w base sp held [t0, t1, t2] args.toList ds p) :
    ∃ v0 v1 v2 d0 d1 d2 p0 p1 p2, args = #[v0, v1, v2] ∧ ds = [d0, d1, d2] ∧ p = p0 ++ (p1 ++ (p2 ++ [])) ∧ DataW.Trod enc P w base sp held t0 v0 d0 p0 ∧ DataW.Trod enc P w base sp held t1 v1 d1 p1 ∧ DataW.Trod enc P w base sp held t2 v2 d2 p2 := by
  obtain ⟨v0, vs0, d0, ds0, p0, q0, e0, rfl, rfl, h0, r0⟩ := trodAll_cons h
  obtain ⟨v1, vs1, d1, ds1, p1, q1, e1, rfl, rfl, h1, r1⟩ := trodAll_cons r0
  obtain ⟨v2, vs2, d2, ds2, p2, q2, e2, rfl, rfl, h2, r2⟩ := trodAll_cons r1
  obtain ⟨rfl, rfl, rfl⟩ := trodAll_nil r2
  refine ⟨v0, v1, v2, d0, d1, d2, p0, p1, p2, ?_, rfl, rfl, h0, h1, h2⟩
  cases args
  simp_all

theorem sh_array {cs : Array Value} {l : List Value} (h : cs.toList = l) : cs = l.toArray := by rw [← h]

set_option maxRecDepth 100000 in
theorem pcov_lifted (os : Os) (started : os.Started) (H : Type) (enc : TypeId × Value → H) :
    ReturnsInHanded {} Try.checked os 3 .any (Rows.planCoversSpec.pre6 enc Try.prog Try.f3 Rows.planCoversRow.domain false) (Rows.planCoversSpec.post enc Try.prog Try.f3 false true false false) := by
  refine returnsInHanded_of_change_sized (C := Try.checked) Try.own started (by kernel_rfl) Try.func3
    (ChangeSpec.witness6 (enc := enc) (C := Try.checked) false ⟨#[], #[.agg #[.slice none 0 0, .slice none 0 0, .slice none 0 0, .slice none 0 0, .int .i64 0, .int .i64 0, .int .i64 0, .int .i64 0, .int .i64 0], .int .i64 0, .int .i64 0], []⟩ 8 (by kernel_rfl) (by kernel_rfl) (by kernel_rfl) (by kernel_rfl)) ?_
  intro W base args ds gs before hval0 hW hcnd hsz0 _
  have hval : ∀ (j : Nat) t v, Try.f3.params[j]? = some t → args[j]? = some v → Value.okWide Try.prog W .any base t v := hval0
  have hsz : (DataW.weightsEach Try.prog (Try.f3.params.toList ++ Rows.planCoversSpec.plain.varTypes Try.prog) (ds ++ gs)).all (· ≤ reachBytes) = true := hsz0
  have hW' := hW
  obtain ⟨p, q, hA0, hV, rfl, hfz, hnd⟩ := hW
  have hA : DataW.TrodAll enc Try.prog W 0 (fun _ => true) true Try.f3.params.toList args.toList ds p := hA0
  rw [Try.params3] at hA hval hsz
  obtain ⟨v0, v1, v2, d0, d1, d2, p0, p1, p2, rfl, rfl, rfl, h0, h1, h2⟩ := shtrodAll_three hA
  obtain ⟨rfl, rfl⟩ := trodVars_none hV
  have lt0 : ∀ x ∈ p0, x.block < W.heap.size := by obtain ⟨m, hm⟩ := h0; exact DataW.trod_lt m _ _ _ hm
  obtain ⟨cs, rfl, hcs⟩ := okWide_struct Try.underlying27 (hval 0 27 v0 rfl rfl)
  obtain ⟨z1, rfl, rfl, rfl, w1⟩ := open_int Try.underlying3 (hval 1 3 v1 rfl rfl) h1
  obtain ⟨z2, rfl, rfl, rfl, w2⟩ := open_int Try.underlying3 (hval 2 3 v2 rfl rfl) h2
  have k0 := h0
  obtain ⟨f0, hf0⟩ := h0
  obtain ⟨x, ht, hin, hcp⟩ := open_shelf_cap hf0 (fun k hk => of_decide_eq_true (List.all_eq_true.1 hsz k (DataW.weights_mem_each (j := 0) rfl rfl k hk)))
  have hv : Value.agg cs = x.v := by
    simp only [Value.cells] at ht
    rw [sh_array ht]
    rfl
  clear hA0 hval0 hsz0 hsz
  rw [hv] at hW' k0 ⊢
  refine (pcov_any x z1 z2 W hin hcp).mono fun e W' ⟨he, bel⟩ => ?_
  subst he
  exact ⟨_, rfl, _, _, _, [], _, [], hW', trodAll_mk1 (shut_bool Try.underlying4 _), (trodAll_cons_mk (Below.trod Try.laidOut (by kernel_rfl) (of_decide_eq_true (by kernel_rfl)) k0 bel lt0) (trodAll_cons_mk (shut_int Try.underlying3 w1) (trodAll_cons_mk (shut_int Try.underlying3 w2) trodAll_mk0))), rfl, bel.frame _, fun h => by cases h⟩

theorem pcov_holds : Rows.PlanCoversSaid :=
  OpenClaim.holds_of_wide 3 Try.f3 rfl rfl rfl rfl rfl rfl rfl ⟨rfl, rfl, rfl, rfl, rfl⟩ rfl rfl rfl rfl rfl (by kernel_rfl) Try.func3 (by kernel_rfl)
    (of_decide_eq_true (by kernel_rfl)) (by unfold Func.isWrapper; first | (rw [if_pos (by decide +kernel)]; kernel_rfl) | (rw [if_neg (by decide +kernel)]; exact ⟨rfl, rfl⟩))
    (fun os started H enc _ => pcov_lifted os started H enc)

end Go.Proofs.Ytfgablhgjbjbkaf
