/-
  For every input, PlanGone returns true: a window that begins with a coarse bucket, and does not end within one, or within a fine one, can be read, whatever raw samples and fine buckets were forgotten. No condition.
-/
import Derived.Test.YtfgablhgjbjbkafPlA
import Derived.Test.YtfgablhgjbjbkafPlS
import Derived.Test.YtfgablhgjbjbkafShB
import Derived.Deep.RegionHeld3
import Derived.Test.YtfgablhgjbjbkafRollU
import Derived.Test.YtfgablhgjbjbkafShM
import Derived.Test.YtfgablhgjbjbkafJoin
import Derived.Test.YtfgablhgjbjbkafRollGr
import Derived.Test.YtfgablhgjbjbkafShD
import Derived.Test.YtfgablhgjbjbkafShCp
import Derived.Test.YtfgablhgjbjbkafPlB
import Derived.Test.YtfgablhgjbjbkafShE
import Derived.Test.YtfgablhgjbjbkafShNw
import Derived.Test.YtfgablhgjbjbkafPlE
import Derived.Test.YtfgablhgjbjbkafUtilE
import Derived.Test.YtfgablhgjbjbkafPlM
import Derived.Test.YtfgablhgjbjbkafOpenPlan
/-
  The walks of plan's within and its closures, over samples.
-/
namespace Go.GrainU
open Go.RowKit

def cutP (pa : Option Addr) (pc p s : Nat) : Option Addr := if pc = p then pa else pa.map (·.add (p * s))

theorem seg_cutP {w : World} {pa : Option Addr} {xs : List Value} {n pc p1 p2 s : Nat} (h : Seg w pa xs) (hl : xs.length = n * s) (hc : n ≤ pc) (h12 : p1 ≤ p2) (h2 : p2 ≤ n) : Seg w (cutP pa pc p1 s) ((xs.take (p2 * s)).drop (p1 * s)) := by
  by_cases hp : p1 = p2
  · left
    subst hp
    rw [List.drop_eq_nil_of_le (by simp; omega)]
  · rcases h with h | ⟨b, off, rfl, h⟩
    · left; rw [h]; simp
    · have e : cutP (some ⟨b, off, none⟩) pc p1 s = some ⟨b, off + p1 * s, none⟩ := by
        unfold cutP
        rw [if_neg (by omega)]
        simp only [Option.map_some]
        rw [show (⟨b, off, none⟩ : Addr).add (p1 * s) = ⟨b, off + p1 * s, none⟩ from by unfold Addr.add; split <;> simp_all]
      rw [e]
      refine .inr ⟨b, off + p1 * s, rfl, fun j hj => ?_⟩
      simp at hj
      have := Nat.mul_le_mul_right s h2
      rw [Nat.add_assoc, h _ (by omega), List.getElem?_drop, List.getElem?_take, if_pos (by omega)]

theorem scells_td (l : List (Int × Int)) : ∀ p1 p2, ((scells l).take (p2 * 2)).drop (p1 * 2) = scells ((l.take p2).drop p1) := by
  have ht : ∀ (l : List (Int × Int)) p, (scells l).take (p * 2) = scells (l.take p) := by
    intro l
    induction l with
    | nil => intro p; simp [scells]
    | cons x r ih =>
      intro p
      cases p with
      | zero => simp [scells]
      | succ p => rw [show (p + 1) * 2 = p * 2 + 1 + 1 by omega]; simp [scells, ih]
  have hd : ∀ (l : List (Int × Int)) p, (scells l).drop (p * 2) = scells (l.drop p) := by
    intro l
    induction l with
    | nil => intro p; simp [scells]
    | cons x r ih =>
      intro p
      cases p with
      | zero => simp
      | succ p => rw [show (p + 1) * 2 = p * 2 + 1 + 1 by omega]; simp [scells, ih]
  intro p1 p2
  rw [ht, hd]

theorem kcells_td (l : List Grain.Bk) : ∀ p1 p2, ((kcells l).take (p2 * 8)).drop (p1 * 8) = kcells ((l.take p2).drop p1) := by
  have ht : ∀ (l : List Grain.Bk) p, (kcells l).take (p * 8) = kcells (l.take p) := by
    intro l
    induction l with
    | nil => intro p; simp [kcells]
    | cons x r ih =>
      intro p
      cases p with
      | zero => simp [kcells]
      | succ p => rw [show (p + 1) * 8 = p * 8 + 1 + 1 + 1 + 1 + 1 + 1 + 1 + 1 by omega]; simp [kcells, kc, ih]
  have hd : ∀ (l : List Grain.Bk) p, (kcells l).drop (p * 8) = kcells (l.drop p) := by
    intro l
    induction l with
    | nil => intro p; simp [kcells]
    | cons x r ih =>
      intro p
      cases p with
      | zero => simp
      | succ p => rw [show (p + 1) * 8 = p * 8 + 1 + 1 + 1 + 1 + 1 + 1 + 1 + 1 by omega]; simp [kcells, kc, ih]
  intro p1 p2
  rw [ht, hd]

end Go.GrainU
namespace Grain

/-- a window of what rises is a piece of it -/
theorem cut_filter {α : Type} (tm : α → Int) {l : List α} {f t : Int} {a b : Nat} (ha : a ≤ l.length) (hb : b ≤ l.length)
    (h1 : ∀ i (hi : i < l.length), tm l[i] < f ↔ i < a) (h2 : ∀ i (hi : i < l.length), tm l[i] < t ↔ i < b) (hft : f ≤ t) : a ≤ b ∧ (l.take b).drop a = l.filter fun x => decide (f ≤ tm x ∧ tm x < t) := by
  have hab : a ≤ b := by
    rcases Nat.lt_or_ge b a with hh | hh
    · have a1 := (h1 b (by omega)).2 hh
      have a2 := (h2 b (by omega)).1 (by omega)
      omega
    · exact hh
  refine ⟨hab, ?_⟩
  have hl : l = (l.take b).take a ++ ((l.take b).drop a ++ l.drop b) := by
    rw [← List.append_assoc, List.take_append_drop, List.take_append_drop]
  conv => rhs; rw [hl]
  rw [List.filter_append, List.filter_append]
  have f1 : ((l.take b).take a).filter (fun x => decide (f ≤ tm x ∧ tm x < t)) = [] := by
    rw [List.filter_eq_nil_iff]
    intro x hx
    obtain ⟨k, hk, rfl⟩ := List.mem_iff_getElem.1 hx
    simp at hk
    have := (h1 k (by omega)).2 (by omega)
    simp
    omega
  have f2 : ((l.take b).drop a).filter (fun x => decide (f ≤ tm x ∧ tm x < t)) = (l.take b).drop a := by
    rw [List.filter_eq_self]
    intro x hx
    obtain ⟨k, hk, rfl⟩ := List.mem_iff_getElem.1 hx
    simp at hk
    have a1 := (h2 (a + k) (by omega)).2 (by omega)
    have a2 : ¬ tm (l[a + k]'(by omega)) < f := fun hh => by have := (h1 (a + k) (by omega)).1 hh; omega
    simp
    omega
  have f3 : (l.drop b).filter (fun x => decide (f ≤ tm x ∧ tm x < t)) = [] := by
    rw [List.filter_eq_nil_iff]
    intro x hx
    obtain ⟨k, hk, rfl⟩ := List.mem_iff_getElem.1 hx
    simp at hk
    have : ¬ tm (l[b + k]'(by omega)) < t := fun hh => by have := (h2 (b + k) (by omega)).1 hh; omega
    simp
    omega
  rw [f1, f2, f3]; simp

end Grain
namespace Go.Proofs.Ytfgablhgjbjbkaf
open Go.RowKit Go.GrainU

theorem prt_any (t v : Int) (w : World) : Calls Try.prog 44 #[.agg #[.int .i64 t, .int .i64 v]] w fun e w' => e = .returned (.int .i64 t) ∧ Below w.heap.size w w' := by
  have bel : Below w.heap.size w (w.alloc (.cells #[.int .i64 t, .int .i64 v] 45)) := (Below.refl _ _).alloc (Nat.le_refl _) _
  go_enter Try.func44, Try.ntmps44
  go_wp2
  go_ret
  exact ⟨rfl, bel⟩

set_option maxHeartbeats 2000000 in
theorem wf1_any (l : List (Int × Int)) (ao : Option Addr) (n c Bt Bl Bp i : Nat) (f : Int) (w : World) (hs : Seg w ao (scells l)) (hn : n = l.length) (hi : i < n)
    (ht : w.cell? ⟨Bt, 0, none⟩ = some (.func (.func 44) #[] #[])) (hl : w.cell? ⟨Bl, 0, none⟩ = some (.slice ao n c)) (hf : w.cell? ⟨Bp, 1, none⟩ = some (.int .i64 f)) :
    Calls Try.prog 65 #[.int .i64 i, .pointer (some ⟨Bt, 0, none⟩), .pointer (some ⟨Bl, 0, none⟩), .pointer (some ⟨Bp, 0, none⟩)] w fun e w' => e = .returned (.bool (decide (f ≤ Grain.tm l i))) ∧ Below w.heap.size w w' := by
  have hil : i < l.length := by omega
  obtain ⟨b, off, rfl, hcell⟩ := hs.sample hil
  obtain ⟨T, hT⟩ : ∃ T, T = Grain.tm l i := ⟨_, rfl⟩
  obtain ⟨U, hU⟩ : ∃ U, U = Grain.vl l i := ⟨_, rfl⟩
  obtain ⟨c0, c1⟩ := hcell i hil
  rw [← hT] at c0 ⊢
  rw [← hU] at c1
  have R1 : Below w.heap.size w w.drew := below_drewN (Below.refl _ _) 1
  have HS : Hid (∀ w', Below w.heap.size w w' → w'.cell? ⟨Bt, 0, none⟩ = some (.func (.func 44) #[] #[]) ∧ w'.cell? ⟨Bl, 0, none⟩ = some (.slice (some ⟨b, off, none⟩) n c) ∧ w'.cell? ⟨Bp, 1, none⟩ = some (.int .i64 f) ∧ w'.cell? ⟨b, off + i * 2, none⟩ = some (.int .i64 T) ∧ w'.cell? ⟨b, off + i * 2 + 1, none⟩ = some (.int .i64 U)) :=
    fun w' hb => ⟨(hb.cell (by exact World.block_lt_of_cell? _ _ ht)).trans ht, (hb.cell (by exact World.block_lt_of_cell? _ _ hl)).trans hl, (hb.cell (by exact World.block_lt_of_cell? _ _ hf)).trans hf, (hb.cell (by exact World.block_lt_of_cell? _ _ c0)).trans c0, (hb.cell (by exact World.block_lt_of_cell? _ _ c1)).trans c1⟩
  clear hcell hT hU hs hn hil c0 c1 ht hl hf
  go_enter Try.func65, Try.ntmps65
  go_wp2
  go_region_held3 (fun w' => w'.cell? ⟨Bt, 0, none⟩ = some (.func (.func 44) #[] #[]) ∧ w'.cell? ⟨Bl, 0, none⟩ = some (.slice (some ⟨b, off, none⟩) n c) ∧ w'.cell? ⟨Bp, 1, none⟩ = some (.int .i64 f) ∧ w'.cell? ⟨b, off + i * 2, none⟩ = some (.int .i64 T) ∧ w'.cell? ⟨b, off + i * 2 + 1, none⟩ = some (.int .i64 U)) (exact HS.out _ (by assumption))
    (first | (go_at_call 44; refine (prt_any T U _).mono ?_; rintro e w1 ⟨rfl, hb1⟩; have R2 := below_pl hb1 (by assumption)))
  all_goals
    go_wp2
    go_ret
    exact ⟨rfl, R2⟩

set_option maxHeartbeats 2000000 in
theorem wf2_any (l : List (Int × Int)) (ao : Option Addr) (n c Bt Bl Bp i : Nat) (f : Int) (w : World) (hs : Seg w ao (scells l)) (hn : n = l.length) (hi : i < n)
    (ht : w.cell? ⟨Bt, 0, none⟩ = some (.func (.func 44) #[] #[])) (hl : w.cell? ⟨Bl, 0, none⟩ = some (.slice ao n c)) (hf : w.cell? ⟨Bp, 2, none⟩ = some (.int .i64 f)) :
    Calls Try.prog 66 #[.int .i64 i, .pointer (some ⟨Bt, 0, none⟩), .pointer (some ⟨Bl, 0, none⟩), .pointer (some ⟨Bp, 0, none⟩)] w fun e w' => e = .returned (.bool (decide (f ≤ Grain.tm l i))) ∧ Below w.heap.size w w' := by
  have hil : i < l.length := by omega
  obtain ⟨b, off, rfl, hcell⟩ := hs.sample hil
  obtain ⟨T, hT⟩ : ∃ T, T = Grain.tm l i := ⟨_, rfl⟩
  obtain ⟨U, hU⟩ : ∃ U, U = Grain.vl l i := ⟨_, rfl⟩
  obtain ⟨c0, c1⟩ := hcell i hil
  rw [← hT] at c0 ⊢
  rw [← hU] at c1
  have R1 : Below w.heap.size w w.drew := below_drewN (Below.refl _ _) 1
  have HS : Hid (∀ w', Below w.heap.size w w' → w'.cell? ⟨Bt, 0, none⟩ = some (.func (.func 44) #[] #[]) ∧ w'.cell? ⟨Bl, 0, none⟩ = some (.slice (some ⟨b, off, none⟩) n c) ∧ w'.cell? ⟨Bp, 2, none⟩ = some (.int .i64 f) ∧ w'.cell? ⟨b, off + i * 2, none⟩ = some (.int .i64 T) ∧ w'.cell? ⟨b, off + i * 2 + 1, none⟩ = some (.int .i64 U)) :=
    fun w' hb => ⟨(hb.cell (by exact World.block_lt_of_cell? _ _ ht)).trans ht, (hb.cell (by exact World.block_lt_of_cell? _ _ hl)).trans hl, (hb.cell (by exact World.block_lt_of_cell? _ _ hf)).trans hf, (hb.cell (by exact World.block_lt_of_cell? _ _ c0)).trans c0, (hb.cell (by exact World.block_lt_of_cell? _ _ c1)).trans c1⟩
  clear hcell hT hU hs hn hil c0 c1 ht hl hf
  go_enter Try.func66, Try.ntmps66
  go_wp2
  go_region_held3 (fun w' => w'.cell? ⟨Bt, 0, none⟩ = some (.func (.func 44) #[] #[]) ∧ w'.cell? ⟨Bl, 0, none⟩ = some (.slice (some ⟨b, off, none⟩) n c) ∧ w'.cell? ⟨Bp, 2, none⟩ = some (.int .i64 f) ∧ w'.cell? ⟨b, off + i * 2, none⟩ = some (.int .i64 T) ∧ w'.cell? ⟨b, off + i * 2 + 1, none⟩ = some (.int .i64 U)) (exact HS.out _ (by assumption))
    (first | (go_at_call 44; refine (prt_any T U _).mono ?_; rintro e w1 ⟨rfl, hb1⟩; have R2 := below_pl hb1 (by assumption)))
  all_goals
    go_wp2
    go_ret
    exact ⟨rfl, R2⟩

/-- where a time comes, among rising ones -/
theorem rise_mono {l : List (Int × Int)} (h : l.Pairwise (fun x y => x.1 < y.1)) (f : Int) : ∀ a b, a ≤ b → b < l.length → decide (f ≤ Grain.tm l a) = true → decide (f ≤ Grain.tm l b) = true := by
  intro a b hab hb ha
  rcases Nat.lt_or_ge a b with hl | hl
  · have := List.pairwise_iff_getElem.1 h a b (by omega) hb hl
    simp [Grain.tm, List.getD, List.getElem?_eq_getElem hb, List.getElem?_eq_getElem (show a < l.length by omega)] at ha ⊢
    omega
  · obtain rfl : a = b := by omega
    exact ha

set_option maxHeartbeats 2000000 in
theorem within_any (l : List (Int × Int)) (ao : Option Addr) (n c : Nat) (p : Grain.Pt) (w : World) (hs : Seg w ao (scells l)) (hn : n = l.length) (hc : n ≤ c) (hL : n ≤ 1000000) (hpw : l.Pairwise (fun x y => x.1 < y.1)) (hft : p.f ≤ p.t) :
    Calls Try.prog 43 #[.slice ao n c, .agg #[.int .i64 p.k, .int .i64 p.f, .int .i64 p.t], .func (.func 44) #[] #[]] w fun e w' => ∃ (bo : Option Addr) (m d : Nat), e = .returned (.slice bo m d) ∧ Seg w bo (scells (Grain.win l p.f p.t)) ∧ Hid (m = (Grain.win l p.f p.t).length) ∧ Below w.heap.size w w' := by
  obtain ⟨k, f, t⟩ := p
  simp only at hft
  obtain ⟨X, hX⟩ : ∃ X, X = w.heap.size := ⟨_, rfl⟩
  obtain ⟨V, hV⟩ : ∃ V, V = ((w.alloc (.cells #[.slice ao n c] 24)).alloc (.cells #[.int .i64 k, .int .i64 f, .int .i64 t] 34)).alloc (.cells #[.func (.func 44) #[] #[]] 89) := ⟨_, rfl⟩
  have bel : Below w.heap.size w V := by rw [hV]; exact (((Below.refl _ _).alloc (Nat.le_refl _) _).alloc (by simp) _).alloc (by simp; omega) _
  have B0 : V.heap[X]? = some (.cells #[.slice ao n c] 24 (0, 0)) := by
    rw [hV, hX, Below.heap_alloc _ _ _ (by simp; omega), Below.heap_alloc _ _ _ (by simp)]; exact heap_alloc_new w _
  have B1 : V.heap[X + 1]? = some (.cells #[.int .i64 k, .int .i64 f, .int .i64 t] 34 (0, 0)) := by
    rw [hV, hX, Below.heap_alloc _ _ _ (by simp)]; have := heap_alloc_new (w.alloc (.cells #[.slice ao n c] 24)) (.cells #[.int .i64 k, .int .i64 f, .int .i64 t] 34); rwa [World.size_alloc] at this
  have B2 : V.heap[X + 2]? = some (.cells #[.func (.func 44) #[] #[]] 89 (0, 0)) := by
    rw [hV, hX]; have := heap_alloc_new ((w.alloc (.cells #[.slice ao n c] 24)).alloc (.cells #[.int .i64 k, .int .i64 f, .int .i64 t] 34)) (.cells #[.func (.func 44) #[] #[]] 89); rwa [World.size_alloc, World.size_alloc] at this
  have cL : V.cell? ⟨X, 0, none⟩ = some (.slice ao n c) := by rw [cell_of_row V X _ _ _ (0, 0) B0]; rfl
  have cT : V.cell? ⟨X + 2, 0, none⟩ = some (.func (.func 44) #[] #[]) := by rw [cell_of_row V (X + 2) _ _ _ (0, 0) B2]; rfl
  obtain ⟨p0, p1, p2⟩ := three3 B1
  have lX := lt_of_block B0
  have lX1 := lt_of_block B1
  have lX2 := lt_of_block B2
  have hsV := hs.below bel
  have hE1 := hide (enters (P := Try.prog) (f := 65) Try.func65 (by kernel_rfl) (by kernel_rfl))
  have hE2 := hide (enters (P := Try.prog) (f := 66) Try.func66 (by kernel_rfl) (by kernel_rfl))
  have HA : Hid (∀ W, Below V.heap.size V W → Calls Try.prog 64 #[.int .i64 n, .func (.func 65) #[] #[.pointer (some ⟨X + 2, 0, none⟩), .pointer (some ⟨X, 0, none⟩), .pointer (some ⟨X + 1, 0, none⟩)]] W fun e w' => ∃ r : Nat, r ≤ n ∧ Hid ((∀ t, t < r → decide (f ≤ Grain.tm l t) = false) ∧ ∀ t, r ≤ t → t < n → decide (f ≤ Grain.tm l t) = true) ∧ e = .returned (.int .i64 r) ∧ Below W.heap.size W w') := by
    intro W hb
    refine search_any (fun i => decide (f ≤ Grain.tm l i)) _ _ n W hL hE1 (fun W' i hi hb' => ?_) (fun a b h1 h2 => rise_mono hpw f a b h1 (by omega))
    have hbb := below_pl hb' hb
    exact wf1_any l ao n c (X + 2) X (X + 1) i f W' (hsV.below hbb) hn hi ((hbb.cell (by exact lX2)).trans cT) ((hbb.cell (by exact lX)).trans cL) ((hbb.cell (by exact lX1)).trans p1)
  have HB : Hid (∀ W, Below V.heap.size V W → Calls Try.prog 64 #[.int .i64 n, .func (.func 66) #[] #[.pointer (some ⟨X + 2, 0, none⟩), .pointer (some ⟨X, 0, none⟩), .pointer (some ⟨X + 1, 0, none⟩)]] W fun e w' => ∃ r : Nat, r ≤ n ∧ Hid ((∀ i, i < r → decide (t ≤ Grain.tm l i) = false) ∧ ∀ i, r ≤ i → i < n → decide (t ≤ Grain.tm l i) = true) ∧ e = .returned (.int .i64 r) ∧ Below W.heap.size W w') := by
    intro W hb
    refine search_any (fun i => decide (t ≤ Grain.tm l i)) _ _ n W hL hE2 (fun W' i hi hb' => ?_) (fun a b h1 h2 => rise_mono hpw t a b h1 (by omega))
    have hbb := below_pl hb' hb
    exact wf2_any l ao n c (X + 2) X (X + 1) i t W' (hsV.below hbb) hn hi ((hbb.cell (by exact lX2)).trans cT) ((hbb.cell (by exact lX)).trans cL) ((hbb.cell (by exact lX1)).trans p2)
  have HN := hide hn
  have HV := hide hV
  have HX := hide hX
  have HS := hide hs
  have HPW := hide hpw
  have HFT := hide hft
  have hXV : X ≤ V.heap.size := by omega
  clear hn hV hX hs hsV hE1 hE2 B0 B1 B2 hpw p0 p1 p2 lX1 lX2 hft
  go_enter Try.func43, Try.ntmps43
  go_wp2_with fail
  rw [← HV.out, ← HX.out]
  refine (HA.out V (Below.refl _ _)).mono ?_
  rintro e w1 ⟨r1, hr1, I1, rfl, hb1⟩
  have cL1 := (hb1.cell (p := ⟨X, 0, none⟩) (by exact lX)).trans cL
  clear HA
  go_wp2_with fail
  refine (HB.out w1 hb1).mono ?_
  rintro e w2 ⟨r2, hr2, I2, rfl, hb2⟩
  have bel2 : Below V.heap.size V w2 := below_pl hb2 hb1
  have cL2 := (bel2.cell (p := ⟨X, 0, none⟩) (by exact lX)).trans cL
  have C := Grain.cut_filter (fun x : Int × Int => x.1) (l := l) (f := f) (t := t) (a := r1) (b := r2) (by rw [← HN.out]; exact hr1) (by rw [← HN.out]; exact hr2) (fun i hi => ?c1) (fun i hi => ?c2) HFT.out
  case c1 =>
    have e : Grain.tm l i = l[i].1 := by simp [Grain.tm, List.getD, List.getElem?_eq_getElem hi]
    rw [← e]
    constructor
    · intro h
      rcases Nat.lt_or_ge i r1 with h' | h'
      · exact h'
      · have := I1.out.2 i h' (by rw [HN.out]; exact hi)
        simp at this; omega
    · intro h
      have := I1.out.1 i h
      simp at this; omega
  case c2 =>
    have e : Grain.tm l i = l[i].1 := by simp [Grain.tm, List.getD, List.getElem?_eq_getElem hi]
    rw [← e]
    constructor
    · intro h
      rcases Nat.lt_or_ge i r2 with h' | h'
      · exact h'
      · have := I2.out.2 i h' (by rw [HN.out]; exact hi)
        simp at this; omega
    · intro h
      have := I2.out.1 i h
      simp at this; omega
  obtain ⟨h12, hcut⟩ := C
  obtain ⟨so, hso⟩ : ∃ so, so = cutP ao c r1 2 := ⟨_, rfl⟩
  obtain ⟨sl, hsl⟩ : ∃ sl, sl = r2 - r1 := ⟨_, rfl⟩
  obtain ⟨sd, hsd⟩ : ∃ sd, sd = c - r1 := ⟨_, rfl⟩
  have hseg : Seg w so (scells (Grain.win l f t)) := by
    rw [hso, show Grain.win l f t = (l.take r2).drop r1 from hcut.symm, ← scells_td]
    exact seg_cutP (n := n) HS.out (by rw [scells_length, HN.out]) hc h12 (by omega)
  have hlen : sl = (Grain.win l f t).length := by
    rw [hsl, show Grain.win l f t = (l.take r2).drop r1 from hcut.symm, List.length_drop, List.length_take, ← HN.out]; omega
  have hsl1 : ∀ w, Sem.run Try.prog (Instr.slice 24 (.slice ao n c) (some (.int .i64 r1)) (some (.int .i64 r2)) none) w = .ok (.slice so sl sd) w := by
    intro w
    rw [run_slice_lh (P := Try.prog) (t := 24) (ht := by kernel_rfl) (a := ao) (len := n) (cap := c) (kl := .i64) (kh := .i64) (l := (r1 : Int)) (h := (r2 : Int)) (h0 := by omega) (h1 := by omega) (h2 := by omega)]
    rw [hso, hsl, hsd]
    simp [sliced, cutP, go_sem]
  have hsl2 : ∀ w, Sem.run Try.prog (Instr.sliceAt 24 (.slice ao n c) (some (.int .i64 r1)) (some (.int .i64 r2)) none) w = .ok (.slice so sl sd) w := by
    intro w
    rw [run_sliceAt_slice (P := Try.prog) (t := 24) (h := by kernel_rfl)]
    exact hsl1 w
  have HG := hide hseg
  have HLn := hide hlen
  clear hso hsl hsd hcut hseg hlen I1 I2 HS HPW
  go_wp2
  go_ret
  exact ⟨so, sl, sd, rfl, HG.out, HLn, by first | exact bel.trans (bel2.mono bel.size) | (rw [← HX.out]; exact bel.trans (bel2.mono hXV))⟩

end Go.Proofs.Ytfgablhgjbjbkaf

/-
  The walks of plan's within and its closures, over buckets.
-/
namespace Go.Proofs.Ytfgablhgjbjbkaf
open Go.RowKit Go.GrainU

theorem krt_any (T : Grain.Bk) (w : World) : Calls Try.prog 62 #[.agg #[.int .i64 T.a, .int .i64 T.s.c, .int .i64 T.s.t, .int .i64 T.s.mn, .int .i64 T.s.mx, .int .i64 T.s.f, .int .i64 T.s.l, .int .i64 T.s.r]] w fun e w' => e = .returned (.int .i64 T.a) ∧ Below w.heap.size w w' := by
  have bel : Below w.heap.size w (w.alloc (.cells #[.int .i64 T.a, .int .i64 T.s.c, .int .i64 T.s.t, .int .i64 T.s.mn, .int .i64 T.s.mx, .int .i64 T.s.f, .int .i64 T.s.l, .int .i64 T.s.r] 78)) := (Below.refl _ _).alloc (Nat.le_refl _) _
  go_enter Try.func62, Try.ntmps62
  go_wp2
  go_ret
  exact ⟨rfl, bel⟩

set_option maxHeartbeats 2000000 in
theorem kf1_any (l : List Grain.Bk) (ao : Option Addr) (n c Bt Bl Bp i : Nat) (f : Int) (w : World) (hs : Seg w ao (kcells l)) (hn : n = l.length) (hi : i < n)
    (ht : w.cell? ⟨Bt, 0, none⟩ = some (.func (.func 62) #[] #[])) (hl : w.cell? ⟨Bl, 0, none⟩ = some (.slice ao n c)) (hf : w.cell? ⟨Bp, 1, none⟩ = some (.int .i64 f)) :
    Calls Try.prog 72 #[.int .i64 i, .pointer (some ⟨Bt, 0, none⟩), .pointer (some ⟨Bl, 0, none⟩), .pointer (some ⟨Bp, 0, none⟩)] w fun e w' => e = .returned (.bool (decide (f ≤ (Grain.bk l i).a))) ∧ Below w.heap.size w w' := by
  have hil : i < l.length := by omega
  obtain ⟨b, off, rfl, _, hcell⟩ := seg_bucket hs hil
  obtain ⟨T, hT⟩ : ∃ T, T = Grain.bk l i := ⟨_, rfl⟩
  have q := hcell i hil
  rw [← hT] at q ⊢
  obtain ⟨c0, c1, c2, c3, c4, c5, c6, c7⟩ := q
  have R1 : Below w.heap.size w w.drew := below_drewN (Below.refl _ _) 1
  have HS : Hid (∀ w', Below w.heap.size w w' → w'.cell? ⟨Bt, 0, none⟩ = some (.func (.func 62) #[] #[]) ∧ w'.cell? ⟨Bl, 0, none⟩ = some (.slice (some ⟨b, off, none⟩) n c) ∧ w'.cell? ⟨Bp, 1, none⟩ = some (.int .i64 f) ∧ w'.cell? ⟨b, off + i * 8, none⟩ = some (.int .i64 T.a) ∧ w'.cell? ⟨b, off + i * 8 + 1, none⟩ = some (.int .i64 T.s.c) ∧ w'.cell? ⟨b, off + i * 8 + 2, none⟩ = some (.int .i64 T.s.t) ∧ w'.cell? ⟨b, off + i * 8 + 3, none⟩ = some (.int .i64 T.s.mn) ∧ w'.cell? ⟨b, off + i * 8 + 4, none⟩ = some (.int .i64 T.s.mx) ∧ w'.cell? ⟨b, off + i * 8 + 5, none⟩ = some (.int .i64 T.s.f) ∧ w'.cell? ⟨b, off + i * 8 + 6, none⟩ = some (.int .i64 T.s.l) ∧ w'.cell? ⟨b, off + i * 8 + 7, none⟩ = some (.int .i64 T.s.r)) :=
    fun w' hb => ⟨(hb.cell (by exact World.block_lt_of_cell? _ _ ht)).trans ht, (hb.cell (by exact World.block_lt_of_cell? _ _ hl)).trans hl, (hb.cell (by exact World.block_lt_of_cell? _ _ hf)).trans hf, (hb.cell (by exact World.block_lt_of_cell? _ _ c0)).trans c0, (hb.cell (by exact World.block_lt_of_cell? _ _ c1)).trans c1, (hb.cell (by exact World.block_lt_of_cell? _ _ c2)).trans c2, (hb.cell (by exact World.block_lt_of_cell? _ _ c3)).trans c3, (hb.cell (by exact World.block_lt_of_cell? _ _ c4)).trans c4, (hb.cell (by exact World.block_lt_of_cell? _ _ c5)).trans c5, (hb.cell (by exact World.block_lt_of_cell? _ _ c6)).trans c6, (hb.cell (by exact World.block_lt_of_cell? _ _ c7)).trans c7⟩
  clear hcell hT hs hn hil c0 c1 c2 c3 c4 c5 c6 c7 ht hl hf
  go_enter Try.func72, Try.ntmps72
  go_wp2
  go_region_held3 (fun w' => w'.cell? ⟨Bt, 0, none⟩ = some (.func (.func 62) #[] #[]) ∧ w'.cell? ⟨Bl, 0, none⟩ = some (.slice (some ⟨b, off, none⟩) n c) ∧ w'.cell? ⟨Bp, 1, none⟩ = some (.int .i64 f) ∧ w'.cell? ⟨b, off + i * 8, none⟩ = some (.int .i64 T.a) ∧ w'.cell? ⟨b, off + i * 8 + 1, none⟩ = some (.int .i64 T.s.c) ∧ w'.cell? ⟨b, off + i * 8 + 2, none⟩ = some (.int .i64 T.s.t) ∧ w'.cell? ⟨b, off + i * 8 + 3, none⟩ = some (.int .i64 T.s.mn) ∧ w'.cell? ⟨b, off + i * 8 + 4, none⟩ = some (.int .i64 T.s.mx) ∧ w'.cell? ⟨b, off + i * 8 + 5, none⟩ = some (.int .i64 T.s.f) ∧ w'.cell? ⟨b, off + i * 8 + 6, none⟩ = some (.int .i64 T.s.l) ∧ w'.cell? ⟨b, off + i * 8 + 7, none⟩ = some (.int .i64 T.s.r)) (exact HS.out _ (by assumption))
    (first | (go_at_call 62; refine (krt_any T _).mono ?_; rintro e w1 ⟨rfl, hb1⟩; have R2 := below_pl hb1 (by assumption)))
  all_goals
    go_wp2
    go_ret
    exact ⟨rfl, R2⟩

set_option maxHeartbeats 2000000 in
theorem kf2_any (l : List Grain.Bk) (ao : Option Addr) (n c Bt Bl Bp i : Nat) (f : Int) (w : World) (hs : Seg w ao (kcells l)) (hn : n = l.length) (hi : i < n)
    (ht : w.cell? ⟨Bt, 0, none⟩ = some (.func (.func 62) #[] #[])) (hl : w.cell? ⟨Bl, 0, none⟩ = some (.slice ao n c)) (hf : w.cell? ⟨Bp, 2, none⟩ = some (.int .i64 f)) :
    Calls Try.prog 73 #[.int .i64 i, .pointer (some ⟨Bt, 0, none⟩), .pointer (some ⟨Bl, 0, none⟩), .pointer (some ⟨Bp, 0, none⟩)] w fun e w' => e = .returned (.bool (decide (f ≤ (Grain.bk l i).a))) ∧ Below w.heap.size w w' := by
  have hil : i < l.length := by omega
  obtain ⟨b, off, rfl, _, hcell⟩ := seg_bucket hs hil
  obtain ⟨T, hT⟩ : ∃ T, T = Grain.bk l i := ⟨_, rfl⟩
  have q := hcell i hil
  rw [← hT] at q ⊢
  obtain ⟨c0, c1, c2, c3, c4, c5, c6, c7⟩ := q
  have R1 : Below w.heap.size w w.drew := below_drewN (Below.refl _ _) 1
  have HS : Hid (∀ w', Below w.heap.size w w' → w'.cell? ⟨Bt, 0, none⟩ = some (.func (.func 62) #[] #[]) ∧ w'.cell? ⟨Bl, 0, none⟩ = some (.slice (some ⟨b, off, none⟩) n c) ∧ w'.cell? ⟨Bp, 2, none⟩ = some (.int .i64 f) ∧ w'.cell? ⟨b, off + i * 8, none⟩ = some (.int .i64 T.a) ∧ w'.cell? ⟨b, off + i * 8 + 1, none⟩ = some (.int .i64 T.s.c) ∧ w'.cell? ⟨b, off + i * 8 + 2, none⟩ = some (.int .i64 T.s.t) ∧ w'.cell? ⟨b, off + i * 8 + 3, none⟩ = some (.int .i64 T.s.mn) ∧ w'.cell? ⟨b, off + i * 8 + 4, none⟩ = some (.int .i64 T.s.mx) ∧ w'.cell? ⟨b, off + i * 8 + 5, none⟩ = some (.int .i64 T.s.f) ∧ w'.cell? ⟨b, off + i * 8 + 6, none⟩ = some (.int .i64 T.s.l) ∧ w'.cell? ⟨b, off + i * 8 + 7, none⟩ = some (.int .i64 T.s.r)) :=
    fun w' hb => ⟨(hb.cell (by exact World.block_lt_of_cell? _ _ ht)).trans ht, (hb.cell (by exact World.block_lt_of_cell? _ _ hl)).trans hl, (hb.cell (by exact World.block_lt_of_cell? _ _ hf)).trans hf, (hb.cell (by exact World.block_lt_of_cell? _ _ c0)).trans c0, (hb.cell (by exact World.block_lt_of_cell? _ _ c1)).trans c1, (hb.cell (by exact World.block_lt_of_cell? _ _ c2)).trans c2, (hb.cell (by exact World.block_lt_of_cell? _ _ c3)).trans c3, (hb.cell (by exact World.block_lt_of_cell? _ _ c4)).trans c4, (hb.cell (by exact World.block_lt_of_cell? _ _ c5)).trans c5, (hb.cell (by exact World.block_lt_of_cell? _ _ c6)).trans c6, (hb.cell (by exact World.block_lt_of_cell? _ _ c7)).trans c7⟩
  clear hcell hT hs hn hil c0 c1 c2 c3 c4 c5 c6 c7 ht hl hf
  go_enter Try.func73, Try.ntmps73
  go_wp2
  go_region_held3 (fun w' => w'.cell? ⟨Bt, 0, none⟩ = some (.func (.func 62) #[] #[]) ∧ w'.cell? ⟨Bl, 0, none⟩ = some (.slice (some ⟨b, off, none⟩) n c) ∧ w'.cell? ⟨Bp, 2, none⟩ = some (.int .i64 f) ∧ w'.cell? ⟨b, off + i * 8, none⟩ = some (.int .i64 T.a) ∧ w'.cell? ⟨b, off + i * 8 + 1, none⟩ = some (.int .i64 T.s.c) ∧ w'.cell? ⟨b, off + i * 8 + 2, none⟩ = some (.int .i64 T.s.t) ∧ w'.cell? ⟨b, off + i * 8 + 3, none⟩ = some (.int .i64 T.s.mn) ∧ w'.cell? ⟨b, off + i * 8 + 4, none⟩ = some (.int .i64 T.s.mx) ∧ w'.cell? ⟨b, off + i * 8 + 5, none⟩ = some (.int .i64 T.s.f) ∧ w'.cell? ⟨b, off + i * 8 + 6, none⟩ = some (.int .i64 T.s.l) ∧ w'.cell? ⟨b, off + i * 8 + 7, none⟩ = some (.int .i64 T.s.r)) (exact HS.out _ (by assumption))
    (first | (go_at_call 62; refine (krt_any T _).mono ?_; rintro e w1 ⟨rfl, hb1⟩; have R2 := below_pl hb1 (by assumption)))
  all_goals
    go_wp2
    go_ret
    exact ⟨rfl, R2⟩

/-- where a time comes, among rising ones -/
theorem krise_mono {l : List Grain.Bk} (h : l.Pairwise (fun x y => x.a < y.a)) (f : Int) : ∀ a b, a ≤ b → b < l.length → decide (f ≤ (Grain.bk l a).a) = true → decide (f ≤ (Grain.bk l b).a) = true := by
  intro a b hab hb ha
  rcases Nat.lt_or_ge a b with hl | hl
  · have := List.pairwise_iff_getElem.1 h a b (by omega) hb hl
    simp [Grain.bk, List.getD, List.getElem?_eq_getElem hb, List.getElem?_eq_getElem (show a < l.length by omega)] at ha ⊢
    omega
  · obtain rfl : a = b := by omega
    exact ha

set_option maxHeartbeats 2000000 in
theorem kwithin_any (l : List Grain.Bk) (ao : Option Addr) (n c : Nat) (p : Grain.Pt) (w : World) (hs : Seg w ao (kcells l)) (hn : n = l.length) (hc : n ≤ c) (hL : n ≤ 1000000) (hpw : l.Pairwise (fun x y => x.a < y.a)) (hft : p.f ≤ p.t) :
    Calls Try.prog 61 #[.slice ao n c, .agg #[.int .i64 p.k, .int .i64 p.f, .int .i64 p.t], .func (.func 62) #[] #[]] w fun e w' => ∃ (bo : Option Addr) (m d : Nat), e = .returned (.slice bo m d) ∧ Seg w bo (kcells (Grain.winB l p.f p.t)) ∧ Hid (m = (Grain.winB l p.f p.t).length) ∧ Below w.heap.size w w' := by
  obtain ⟨k, f, t⟩ := p
  simp only at hft
  obtain ⟨X, hX⟩ : ∃ X, X = w.heap.size := ⟨_, rfl⟩
  obtain ⟨V, hV⟩ : ∃ V, V = ((w.alloc (.cells #[.slice ao n c] 25)).alloc (.cells #[.int .i64 k, .int .i64 f, .int .i64 t] 34)).alloc (.cells #[.func (.func 62) #[] #[]] 99) := ⟨_, rfl⟩
  have bel : Below w.heap.size w V := by rw [hV]; exact (((Below.refl _ _).alloc (Nat.le_refl _) _).alloc (by simp) _).alloc (by simp; omega) _
  have B0 : V.heap[X]? = some (.cells #[.slice ao n c] 25 (0, 0)) := by
    rw [hV, hX, Below.heap_alloc _ _ _ (by simp; omega), Below.heap_alloc _ _ _ (by simp)]; exact heap_alloc_new w _
  have B1 : V.heap[X + 1]? = some (.cells #[.int .i64 k, .int .i64 f, .int .i64 t] 34 (0, 0)) := by
    rw [hV, hX, Below.heap_alloc _ _ _ (by simp)]; have := heap_alloc_new (w.alloc (.cells #[.slice ao n c] 25)) (.cells #[.int .i64 k, .int .i64 f, .int .i64 t] 34); rwa [World.size_alloc] at this
  have B2 : V.heap[X + 2]? = some (.cells #[.func (.func 62) #[] #[]] 99 (0, 0)) := by
    rw [hV, hX]; have := heap_alloc_new ((w.alloc (.cells #[.slice ao n c] 25)).alloc (.cells #[.int .i64 k, .int .i64 f, .int .i64 t] 34)) (.cells #[.func (.func 62) #[] #[]] 99); rwa [World.size_alloc, World.size_alloc] at this
  have cL : V.cell? ⟨X, 0, none⟩ = some (.slice ao n c) := by rw [cell_of_row V X _ _ _ (0, 0) B0]; rfl
  have cT : V.cell? ⟨X + 2, 0, none⟩ = some (.func (.func 62) #[] #[]) := by rw [cell_of_row V (X + 2) _ _ _ (0, 0) B2]; rfl
  obtain ⟨p0, p1, p2⟩ := three3 B1
  have lX := lt_of_block B0
  have lX1 := lt_of_block B1
  have lX2 := lt_of_block B2
  have hsV := hs.below bel
  have hE1 := hide (enters (P := Try.prog) (f := 72) Try.func72 (by kernel_rfl) (by kernel_rfl))
  have hE2 := hide (enters (P := Try.prog) (f := 73) Try.func73 (by kernel_rfl) (by kernel_rfl))
  have HA : Hid (∀ W, Below V.heap.size V W → Calls Try.prog 64 #[.int .i64 n, .func (.func 72) #[] #[.pointer (some ⟨X + 2, 0, none⟩), .pointer (some ⟨X, 0, none⟩), .pointer (some ⟨X + 1, 0, none⟩)]] W fun e w' => ∃ r : Nat, r ≤ n ∧ Hid ((∀ t, t < r → decide (f ≤ (Grain.bk l t).a) = false) ∧ ∀ t, r ≤ t → t < n → decide (f ≤ (Grain.bk l t).a) = true) ∧ e = .returned (.int .i64 r) ∧ Below W.heap.size W w') := by
    intro W hb
    refine search_any (fun i => decide (f ≤ (Grain.bk l i).a)) _ _ n W hL hE1 (fun W' i hi hb' => ?_) (fun a b h1 h2 => krise_mono hpw f a b h1 (by omega))
    have hbb := below_pl hb' hb
    exact kf1_any l ao n c (X + 2) X (X + 1) i f W' (hsV.below hbb) hn hi ((hbb.cell (by exact lX2)).trans cT) ((hbb.cell (by exact lX)).trans cL) ((hbb.cell (by exact lX1)).trans p1)
  have HB : Hid (∀ W, Below V.heap.size V W → Calls Try.prog 64 #[.int .i64 n, .func (.func 73) #[] #[.pointer (some ⟨X + 2, 0, none⟩), .pointer (some ⟨X, 0, none⟩), .pointer (some ⟨X + 1, 0, none⟩)]] W fun e w' => ∃ r : Nat, r ≤ n ∧ Hid ((∀ i, i < r → decide (t ≤ (Grain.bk l i).a) = false) ∧ ∀ i, r ≤ i → i < n → decide (t ≤ (Grain.bk l i).a) = true) ∧ e = .returned (.int .i64 r) ∧ Below W.heap.size W w') := by
    intro W hb
    refine search_any (fun i => decide (t ≤ (Grain.bk l i).a)) _ _ n W hL hE2 (fun W' i hi hb' => ?_) (fun a b h1 h2 => krise_mono hpw t a b h1 (by omega))
    have hbb := below_pl hb' hb
    exact kf2_any l ao n c (X + 2) X (X + 1) i t W' (hsV.below hbb) hn hi ((hbb.cell (by exact lX2)).trans cT) ((hbb.cell (by exact lX)).trans cL) ((hbb.cell (by exact lX1)).trans p2)
  have HN := hide hn
  have HV := hide hV
  have HX := hide hX
  have HS := hide hs
  have HPW := hide hpw
  have HFT := hide hft
  have hXV : X ≤ V.heap.size := by omega
  clear hn hV hX hs hsV hE1 hE2 B0 B1 B2 hpw p0 p1 p2 lX1 lX2 hft
  go_enter Try.func61, Try.ntmps61
  go_wp2_with fail
  rw [← HV.out, ← HX.out]
  refine (HA.out V (Below.refl _ _)).mono ?_
  rintro e w1 ⟨r1, hr1, I1, rfl, hb1⟩
  have cL1 := (hb1.cell (p := ⟨X, 0, none⟩) (by exact lX)).trans cL
  clear HA
  go_wp2_with fail
  refine (HB.out w1 hb1).mono ?_
  rintro e w2 ⟨r2, hr2, I2, rfl, hb2⟩
  have bel2 : Below V.heap.size V w2 := below_pl hb2 hb1
  have cL2 := (bel2.cell (p := ⟨X, 0, none⟩) (by exact lX)).trans cL
  have C := Grain.cut_filter (fun x : Grain.Bk => x.a) (l := l) (f := f) (t := t) (a := r1) (b := r2) (by rw [← HN.out]; exact hr1) (by rw [← HN.out]; exact hr2) (fun i hi => ?c1) (fun i hi => ?c2) HFT.out
  case c1 =>
    have e : (Grain.bk l i).a = l[i].a := by simp [Grain.bk, List.getD, List.getElem?_eq_getElem hi]
    rw [← e]
    constructor
    · intro h
      rcases Nat.lt_or_ge i r1 with h' | h'
      · exact h'
      · have := I1.out.2 i h' (by rw [HN.out]; exact hi)
        simp at this; omega
    · intro h
      have := I1.out.1 i h
      simp at this; omega
  case c2 =>
    have e : (Grain.bk l i).a = l[i].a := by simp [Grain.bk, List.getD, List.getElem?_eq_getElem hi]
    rw [← e]
    constructor
    · intro h
      rcases Nat.lt_or_ge i r2 with h' | h'
      · exact h'
      · have := I2.out.2 i h' (by rw [HN.out]; exact hi)
        simp at this; omega
    · intro h
      have := I2.out.1 i h
      simp at this; omega
  obtain ⟨h12, hcut⟩ := C
  obtain ⟨so, hso⟩ : ∃ so, so = cutP ao c r1 8 := ⟨_, rfl⟩
  obtain ⟨sl, hsl⟩ : ∃ sl, sl = r2 - r1 := ⟨_, rfl⟩
  obtain ⟨sd, hsd⟩ : ∃ sd, sd = c - r1 := ⟨_, rfl⟩
  have hseg : Seg w so (kcells (Grain.winB l f t)) := by
    rw [hso, show Grain.winB l f t = (l.take r2).drop r1 from hcut.symm, ← kcells_td]
    exact seg_cutP (n := n) HS.out (by rw [kcells_length, HN.out]) hc h12 (by omega)
  have hlen : sl = (Grain.winB l f t).length := by
    rw [hsl, show Grain.winB l f t = (l.take r2).drop r1 from hcut.symm, List.length_drop, List.length_take, ← HN.out]; omega
  have hsl1 : ∀ w, Sem.run Try.prog (Instr.slice 25 (.slice ao n c) (some (.int .i64 r1)) (some (.int .i64 r2)) none) w = .ok (.slice so sl sd) w := by
    intro w
    rw [run_slice_lh (P := Try.prog) (t := 25) (ht := by kernel_rfl) (a := ao) (len := n) (cap := c) (kl := .i64) (kh := .i64) (l := (r1 : Int)) (h := (r2 : Int)) (h0 := by omega) (h1 := by omega) (h2 := by omega)]
    rw [hso, hsl, hsd]
    simp [sliced, cutP, go_sem]
  have hsl2 : ∀ w, Sem.run Try.prog (Instr.sliceAt 25 (.slice ao n c) (some (.int .i64 r1)) (some (.int .i64 r2)) none) w = .ok (.slice so sl sd) w := by
    intro w
    rw [run_sliceAt_slice (P := Try.prog) (t := 25) (h := by kernel_rfl)]
    exact hsl1 w
  have HG := hide hseg
  have HLn := hide hlen
  clear hso hsl hsd hcut hseg hlen I1 I2 HS HPW
  go_wp2
  go_ret
  exact ⟨so, sl, sd, rfl, HG.out, HLn, by first | exact bel.trans (bel2.mono bel.size) | (rw [← HX.out]; exact bel.trans (bel2.mono hXV))⟩

end Go.Proofs.Ytfgablhgjbjbkaf

/-
  The walk of Of: what samples come to, one by one.
-/
namespace Go.Proofs.Ytfgablhgjbjbkaf
open Go.RowKit Go.GrainU

theorem join_let (a b : Grain.Sm) (w : World) :
    Calls Try.prog 21 #[sv a, sv b] w fun e w' => ∃ J : Grain.Sm, Hid (J = Grain.join a b) ∧ e = .returned (.agg #[.int .i64 J.c, .int .i64 J.t, .int .i64 J.mn, .int .i64 J.mx, .int .i64 J.f, .int .i64 J.l, .int .i64 J.r]) ∧ Below w.heap.size w w' :=
  (join_any a b w).mono fun _ _ h => ⟨_, rfl, h.1, h.2⟩

/-- a block that holds a sum -/
def SumAt (w : World) (B : Nat) (s : Grain.Sm) : Prop :=
  w.heap[B]? = some (.cells #[.int .i64 s.c, .int .i64 s.t, .int .i64 s.mn, .int .i64 s.mx, .int .i64 s.f, .int .i64 s.l, .int .i64 s.r] 36 (0, 0))

theorem SumAt.below {w w' : World} {B : Nat} {s : Grain.Sm} (h : SumAt w B s) (hb : Below w.heap.size w w') : SumAt w' B s := below_block hb h

/-- what the cells of a sum hold -/
def SumCells (w : World) (B : Nat) (s : Grain.Sm) : Prop :=
  w.cell? ⟨B, 0, none⟩ = some (.int .i64 s.c) ∧ w.cell? ⟨B, 1, none⟩ = some (.int .i64 s.t) ∧ w.cell? ⟨B, 2, none⟩ = some (.int .i64 s.mn) ∧ w.cell? ⟨B, 3, none⟩ = some (.int .i64 s.mx) ∧ w.cell? ⟨B, 4, none⟩ = some (.int .i64 s.f) ∧ w.cell? ⟨B, 5, none⟩ = some (.int .i64 s.l) ∧ w.cell? ⟨B, 6, none⟩ = some (.int .i64 s.r)

theorem SumAt.cells {w : World} {B : Nat} {s : Grain.Sm} (h : SumAt w B s) : SumCells w B s := seven_cells h

theorem SumAt.set {w : World} {B : Nat} {s : Grain.Sm} (h : SumAt w B s) (J : Grain.Sm) :
    SumAt (((((((w.setCell ⟨B, 0, none⟩ (.int .i64 J.c)).setCell ⟨B, 1, none⟩ (.int .i64 J.t)).setCell ⟨B, 2, none⟩ (.int .i64 J.mn)).setCell ⟨B, 3, none⟩ (.int .i64 J.mx)).setCell ⟨B, 4, none⟩ (.int .i64 J.f)).setCell ⟨B, 5, none⟩ (.int .i64 J.l)).setCell ⟨B, 6, none⟩ (.int .i64 J.r)) B J := by
  unfold SumAt at h ⊢
  simp [World.setCell, Array.getElem?_modify, h]

theorem SumAt.far {w : World} {B C : Nat} {s : Grain.Sm} (h : SumAt w C s) (hn : C ≠ B) (v0 v1 v2 v3 v4 v5 v6 : Value) :
    SumAt (((((((w.setCell ⟨B, 0, none⟩ v0).setCell ⟨B, 1, none⟩ v1).setCell ⟨B, 2, none⟩ v2).setCell ⟨B, 3, none⟩ v3).setCell ⟨B, 4, none⟩ v4).setCell ⟨B, 5, none⟩ v5).setCell ⟨B, 6, none⟩ v6) C s := by
  unfold SumAt at h ⊢
  rw [setCell_far hn, setCell_far hn, setCell_far hn, setCell_far hn, setCell_far hn, setCell_far hn, setCell_far hn]
  exact h

theorem below_set7 {w W : World} {A C : Nat} (bel : Below A w W) (hC : A ≤ C) (v0 v1 v2 v3 v4 v5 v6 : Value) :
    Below A w (((((((W.setCell ⟨C, 0, none⟩ v0).setCell ⟨C, 1, none⟩ v1).setCell ⟨C, 2, none⟩ v2).setCell ⟨C, 3, none⟩ v3).setCell ⟨C, 4, none⟩ v4).setCell ⟨C, 5, none⟩ v5).setCell ⟨C, 6, none⟩ v6) :=
  ((((((bel.setCell hC _).setCell hC _).setCell hC _).setCell hC _).setCell hC _).setCell hC _).setCell hC _

/-- what the loop of Of keeps -/
structure OfInv (w wr : World) (s : Grain.Sm) : Prop where
  res : SumAt wr w.heap.size Grain.zero
  cur : SumAt wr (w.heap.size + 1) s
  bel : Below w.heap.size w wr

theorem OfInv.start (w : World) : OfInv w ((w.alloc (.cells #[.int .i64 0, .int .i64 0, .int .i64 0, .int .i64 0, .int .i64 0, .int .i64 0, .int .i64 0] 36)).alloc (.cells #[.int .i64 0, .int .i64 0, .int .i64 0, .int .i64 0, .int .i64 0, .int .i64 0, .int .i64 0] 36)) Grain.zero := by
  refine ⟨?_, ?_, ?_⟩
  · show ((w.alloc _).alloc _).heap[w.heap.size]? = _
    rw [Below.heap_alloc _ _ _ (by simp)]; exact heap_alloc_new w _
  · have := heap_alloc_new (w.alloc (.cells #[.int .i64 0, .int .i64 0, .int .i64 0, .int .i64 0, .int .i64 0, .int .i64 0, .int .i64 0] 36)) (.cells #[.int .i64 0, .int .i64 0, .int .i64 0, .int .i64 0, .int .i64 0, .int .i64 0, .int .i64 0] 36)
    have e : (w.alloc (.cells #[.int .i64 0, .int .i64 0, .int .i64 0, .int .i64 0, .int .i64 0, .int .i64 0, .int .i64 0] 36)).heap.size = w.heap.size + 1 := by simp
    rw [e] at this
    exact this
  · exact ((Below.refl _ _).alloc (Nat.le_refl _) _).alloc (by simp) _

theorem OfInv.next {w wr : World} {s : Grain.Sm} (I : OfInv w wr s) (t v : Value) : ∃ V, V = wr.alloc (.cells #[t, v] 45) ∧ OfInv w V s ∧ V.heap[wr.heap.size]? = some (.cells #[t, v] 45 (0, 0)) ∧ w.heap.size + 2 ≤ wr.heap.size ∧ V.heap.size = wr.heap.size + 1 := by
  have h2 := lt_of_block I.cur
  have h1 := lt_of_block I.res
  refine ⟨_, rfl, ⟨?_, ?_, I.bel.alloc (by omega) _⟩, heap_alloc_new wr _, by omega, by simp⟩
  · show (wr.alloc _).heap[_]? = _
    rw [Below.heap_alloc _ _ _ h1]; exact I.res
  · show (wr.alloc _).heap[_]? = _
    rw [Below.heap_alloc _ _ _ h2]; exact I.cur

theorem OfInv.call {w V w' : World} {s : Grain.Sm} (I : OfInv w V s) (hb : Below V.heap.size V w') : OfInv w w' s :=
  ⟨I.res.below hb, I.cur.below hb, I.bel.trans (hb.mono I.bel.size)⟩

theorem OfInv.drew {w V : World} {s : Grain.Sm} (I : OfInv w V s) : OfInv w V.drew s := ⟨I.res, I.cur, below_drewN I.bel 1⟩

theorem OfInv.store {w V : World} {s : Grain.Sm} (I : OfInv w V s) (J : Grain.Sm) : OfInv w (((((((V.setCell ⟨w.heap.size + 1, 0, none⟩ (.int .i64 J.c)).setCell ⟨w.heap.size + 1, 1, none⟩ (.int .i64 J.t)).setCell ⟨w.heap.size + 1, 2, none⟩ (.int .i64 J.mn)).setCell ⟨w.heap.size + 1, 3, none⟩ (.int .i64 J.mx)).setCell ⟨w.heap.size + 1, 4, none⟩ (.int .i64 J.f)).setCell ⟨w.heap.size + 1, 5, none⟩ (.int .i64 J.l)).setCell ⟨w.heap.size + 1, 6, none⟩ (.int .i64 J.r)) J :=
  ⟨I.res.far (by omega) _ _ _ _ _ _ _, I.cur.set J, below_set7 I.bel (by omega) _ _ _ _ _ _ _⟩

/-- the sample's value is as it was, behind the store -/
theorem ofx {w wr V w2 : World} {s : Grain.Sm} {v : Value} (hb : Below V.heap.size V w2) (_ : OfInv w w2 s) (hV : V.heap.size = wr.heap.size + 1) (hsz : w.heap.size + 2 ≤ wr.heap.size) (x1 : V.cell? ⟨wr.heap.size, 1, none⟩ = some v) (v0 v1 v2 v3 v4 v5 v6 : Value) :
    (((((((w2.setCell ⟨w.heap.size + 1, 0, none⟩ v0).setCell ⟨w.heap.size + 1, 1, none⟩ v1).setCell ⟨w.heap.size + 1, 2, none⟩ v2).setCell ⟨w.heap.size + 1, 3, none⟩ v3).setCell ⟨w.heap.size + 1, 4, none⟩ v4).setCell ⟨w.heap.size + 1, 5, none⟩ v5).setCell ⟨w.heap.size + 1, 6, none⟩ v6).cell? ⟨wr.heap.size, 1, none⟩ = some v := by
  have hn : wr.heap.size ≠ w.heap.size + 1 := by omega
  have h2 : w2.cell? ⟨wr.heap.size, 1, none⟩ = some v := (hb.cell (p := ⟨wr.heap.size, 1, none⟩) (by simp; omega)).trans x1
  rw [← h2]
  simp only [World.cell?]
  rw [setCell_far hn, setCell_far hn, setCell_far hn, setCell_far hn, setCell_far hn, setCell_far hn, setCell_far hn]

set_option maxHeartbeats 2000000 in
theorem of_any (l : List (Int × Int)) (ao : Option Addr) (cap : Nat) (w : World) (hs : Seg w ao (scells l)) (hL : l.length ≤ 1152921504606846975) :
    Calls Try.prog 12 #[.slice ao l.length cap] w fun e w' => e = .returned (sv (Grain.of l)) ∧ Below w.heap.size w w' := by
  go_enter Try.func12, Try.ntmps12
  go_wp2
  go_loopw [8] (fun i wr => ∃ (k : Nat) (s : Grain.Sm), k ≤ l.length ∧ i = .int .i64 k ∧ Hid (s = Grain.ofN l k) ∧ OfInv w wr s) (fun i _ => l.length - (intOf i).toNat)
  case atStart => exact ⟨0, _, Nat.zero_le _, rfl, rfl, OfInv.start w⟩
  case round =>
    obtain ⟨k, s, hk, rfl, HS, I⟩ := hrel
    by_cases hlt : k < l.length
    · obtain ⟨b, off, rfl, hcell⟩ := hs.sample hlt
      have hb : b < w.heap.size := World.block_lt_of_cell? w ⟨b, off + k * 2, none⟩ (hcell k hlt).1
      have c0 : wr.cell? ⟨b, off + k * 2, none⟩ = some (.int .i64 (Grain.tm l k)) := (I.bel.cell (by exact hb)).trans (hcell k hlt).1
      have c1 : wr.cell? ⟨b, off + k * 2 + 1, none⟩ = some (.int .i64 (Grain.vl l k)) := (I.bel.cell (by exact hb)).trans (hcell k hlt).2
      obtain ⟨V, hV, I1, G, hsz, hVs⟩ := I.next (.int .i64 (Grain.tm l k)) (.int .i64 (Grain.vl l k))
      have HV := hide hV
      have HVs := hide hVs
      have HG := hide G
      clear hV I hVs G
      go_wp2_with fail
      rw [← HV.out]
      obtain ⟨v, hv⟩ : ∃ v : Int, v = Grain.vl l k := ⟨_, rfl⟩
      have Hv := hide hv
      have x1 : V.cell? ⟨wr.heap.size, 1, none⟩ = some (.int .i64 v) := by rw [hv]; exact (two_cells HG.out).2.1
      obtain ⟨s0, s1, s2, s3, s4, s5, s6⟩ := I1.cur.cells
      clear hv c0 c1
      have hX : Hid (∀ w' : World, Below V.heap.size V w' → w'.cell? ⟨wr.heap.size, 1, none⟩ = some (.int .i64 v)) := by
        intro w' hb'
        have := HVs.out
        exact (hb'.cell (p := ⟨wr.heap.size, 1, none⟩) (by simp; omega)).trans x1
      go_region_with
        (first
          | (go_at_call 23; refine (one_any _ _).mono ?_; rintro e w1 ⟨rfl, hb1⟩; have hb1' : Below V.heap.size V w1 := (below_drewN (Below.refl _ V) 1).trans hb1; have I2 := I1.call hb1'; obtain ⟨p0, p1, p2, p3, p4, p5, p6⟩ := I2.cur.cells)
          | (go_at_call 21; refine (join_let s (Grain.one v) _).mono ?_; rintro e w2 ⟨J, HJ, rfl, hb2⟩; have hb2' : Below V.heap.size V w2 := hb1'.trans (hb2.mono hb1'.size); have I3 := I1.call hb2'; obtain ⟨q0, q1, q2, q3, q4, q5, q6⟩ := I3.cur.cells; obtain ⟨r0, r1, r2, r3, r4, r5, r6⟩ := seven_thaw I3.cur)) 
      all_goals
        have I4 := I3.store J
        have HK : Hid (J = Grain.ofN l (k + 1)) := by
          show J = Grain.ofN l (k + 1)
          rw [HJ.out, HS.out, Hv.out]; rfl
        clear HJ HS Hv hX s0 s1 s2 s3 s4 s5 s6 p0 p1 p2 p3 p4 p5 p6 q0 q1 q2 q3 q4 q5 q6 r0 r1 r2 r3 r4 r5 r6 x1 hb1 hb1' hb2 hb2' I1 I2 I3
        go_wp2
        go_roundw
        case rel => exact ⟨k + 1, J, by omega, by go_num, HK, I4⟩
        case measure => simp [intOf]; omega
    · have he : k = l.length := by omega
      subst he
      obtain ⟨s0, s1, s2, s3, s4, s5, s6⟩ := I.cur.cells
      obtain ⟨z0, z1, z2, z3, z4, z5, z6⟩ := seven_cells I.res
      obtain ⟨r0, r1, r2, r3, r4, r5, r6⟩ := seven_thaw I.res
      go_wp2
      exact bodyPost_ret (v := sv s) (by simp [results, Try.results12, go_sem, sv, z0, z1, z2, z3, z4, z5, z6]) rfl ⟨by rw [HS.out]; rfl, below_set7 I.bel (Nat.le_refl _) _ _ _ _ _ _ _⟩

theorem of_len (l : List (Int × Int)) (ao : Option Addr) (N cap : Nat) (w : World) (hs : Seg w ao (scells l)) (hN : N = l.length) (hL : N ≤ 1152921504606846975) :
    Calls Try.prog 12 #[.slice ao N cap] w fun e w' => ∃ J : Grain.Sm, Hid (J = Grain.of l) ∧ e = .returned (.agg #[.int .i64 J.c, .int .i64 J.t, .int .i64 J.mn, .int .i64 J.mx, .int .i64 J.f, .int .i64 J.l, .int .i64 J.r]) ∧ Below w.heap.size w w' := by
  subst hN
  exact (of_any l ao cap w hs hL).mono fun _ _ h => ⟨_, rfl, h.1, h.2⟩

end Go.Proofs.Ytfgablhgjbjbkaf

/-
  The walk of roll.Of: what the buckets of a window come to.
-/
namespace Go.Proofs.Ytfgablhgjbjbkaf
open Go.RowKit Go.GrainU

theorem kof_more {w wr : World} {s : Grain.Sm} (I : OfInv w wr s) (o : Obj) : OfInv w (wr.alloc o) s := by
  have h2 := lt_of_block I.cur
  have h1 := lt_of_block I.res
  refine ⟨?_, ?_, I.bel.alloc (by omega) _⟩
  · show (wr.alloc _).heap[_]? = _
    rw [Below.heap_alloc _ _ _ h1]; exact I.res
  · show (wr.alloc _).heap[_]? = _
    rw [Below.heap_alloc _ _ _ h2]; exact I.cur

set_option maxHeartbeats 2000000 in
theorem kof_any (B : List Grain.Bk) (ao : Option Addr) (n cap : Nat) (f t : Int) (w : World) (hs : Seg w ao (kcells B)) (hn : n = B.length) (hL : n ≤ 1000000) :
    Calls Try.prog 63 #[.slice ao n cap, .int .i64 f, .int .i64 t] w fun e w' => ∃ J : Grain.Sm, Hid (J = Grain.inB B f t) ∧ e = .returned (.agg #[.int .i64 J.c, .int .i64 J.t, .int .i64 J.mn, .int .i64 J.mx, .int .i64 J.f, .int .i64 J.l, .int .i64 J.r]) ∧ Below w.heap.size w w' := by
  have HN := hide hn
  clear hn
  go_enter Try.func63, Try.ntmps63
  go_wp2
  go_loopw [12] (fun i wr => ∃ (k : Nat) (s : Grain.Sm), k ≤ n ∧ i = .int .i64 k ∧ Hid (s = Grain.inB (B.take k) f t) ∧ OfInv w wr s) (fun i _ => n - (intOf i).toNat)
  case atStart => exact ⟨0, _, Nat.zero_le _, rfl, rfl, OfInv.start w⟩
  case round =>
    obtain ⟨k, s, hk, rfl, HS, I⟩ := hrel
    by_cases hlt : k < n
    · have hkl : k < B.length := by rw [← HN.out]; exact hlt
      obtain ⟨b, off, rfl, hb, hcell⟩ := seg_bucket hs hkl
      obtain ⟨K, hK⟩ : ∃ K, K = Grain.bk B k := ⟨_, rfl⟩
      have q := (hcell k hkl).below I.bel hb
      rw [← hK] at q
      obtain ⟨c0, c1, c2, c3, c4, c5, c6, c7⟩ := q
      have HT : Hid (Grain.inB (B.take (k + 1)) f t = if f ≤ K.a ∧ K.a < t then Grain.join s K.s else s) := by
        show _ = _
        rw [Grain.inB_take f t hkl, ← hK, ← HS.out]
      have I1 := kof_more I (ko K)
      have hw1 : w.heap.size + 1 < wr.heap.size := lt_of_block I.cur
      obtain ⟨s0, s1, s2, s3, s4, s5, s6⟩ := I.cur.cells
      clear hcell hK hkl HS I
      by_cases h1 : f ≤ K.a
      · by_cases h2 : K.a < t
        · go_wp2_with fail
          refine (join_let s K.s _).mono ?_
          rintro e w2 ⟨J, HJ, rfl, hb2⟩
          have I3 := I1.call hb2
          obtain ⟨q0, q1, q2, q3, q4, q5, q6⟩ := I3.cur.cells
          obtain ⟨r0, r1, r2, r3, r4, r5, r6⟩ := seven_thaw I3.cur
          have I4 := I3.store J
          have HK : Hid (J = Grain.inB (B.take (k + 1)) f t) := by
            show J = _
            rw [HT.out, if_pos ⟨h1, h2⟩]; exact HJ.out
          clear HJ HT I1 I3 hb2 s0 s1 s2 s3 s4 s5 s6 c0 c1 c2 c3 c4 c5 c6 c7 h1 h2 hw1
          go_wp2
          go_roundw
          case rel => exact ⟨k + 1, J, by omega, by go_num, HK, I4⟩
          case measure => simp [intOf]; omega
        · have HK : Hid (s = Grain.inB (B.take (k + 1)) f t) := by
            show s = _
            rw [HT.out, if_neg (by omega)]
          clear HT s0 s1 s2 s3 s4 s5 s6
          go_wp2
          go_roundw
          case rel => exact ⟨k + 1, s, by omega, by go_num, HK, I1⟩
          case measure => simp [intOf]; omega
      · have HK : Hid (s = Grain.inB (B.take (k + 1)) f t) := by
          show s = _
          rw [HT.out, if_neg (by omega)]
        clear HT s0 s1 s2 s3 s4 s5 s6
        go_wp2
        go_roundw
        case rel => exact ⟨k + 1, s, by omega, by go_num, HK, I1⟩
        case measure => simp [intOf]; omega
    · have he : k = n := by omega
      subst he
      have HT := hide (List.take_of_length_le (i := k) (l := B) (by rw [← HN.out]; omega))
      have HJ : Hid (s = Grain.inB B f t) := by
        show s = _
        rw [HS.out, HT.out]
      obtain ⟨s0, s1, s2, s3, s4, s5, s6⟩ := I.cur.cells
      obtain ⟨z0, z1, z2, z3, z4, z5, z6⟩ := seven_cells I.res
      obtain ⟨r0, r1, r2, r3, r4, r5, r6⟩ := seven_thaw I.res
      clear HT HN HS
      go_wp2
      exact bodyPost_ret (v := sv s) (by simp [results, Try.results63, go_sem, sv, z0, z1, z2, z3, z4, z5, z6]) rfl ⟨s, HJ, rfl, below_set7 I.bel (Nat.le_refl _) _ _ _ _ _ _ _⟩

end Go.Proofs.Ytfgablhgjbjbkaf

/-
  The walks of plan's readBuckets and readPart.
-/
namespace Grain

theorem inB_filter (f t : Int) : ∀ (B : List Bk) (s : Sm), (winB B f t).foldl (fun acc b => if f ≤ b.a ∧ b.a < t then join acc b.s else acc) s = B.foldl (fun acc b => if f ≤ b.a ∧ b.a < t then join acc b.s else acc) s := by
  intro B
  induction B with
  | nil => intro s; rfl
  | cons b r ih =>
    intro s
    by_cases h : f ≤ b.a ∧ b.a < t
    · unfold winB at ih ⊢
      rw [List.filter_cons_of_pos (by simpa using h), List.foldl_cons, List.foldl_cons, ih]
    · unfold winB at ih ⊢
      rw [List.filter_cons_of_neg (by simpa using h), List.foldl_cons, if_neg h, ih]

theorem inB_winB (B : List Bk) (f t : Int) : inB (winB B f t) f t = inB B f t := inB_filter f t B zero

end Grain
namespace Go.Proofs.Ytfgablhgjbjbkaf
open Go.RowKit Go.GrainU

/-- no sum yet -/
def sbz : Obj := .cells #[.int .i64 0, .int .i64 0, .int .i64 0, .int .i64 0, .int .i64 0, .int .i64 0, .int .i64 0] 36

set_option maxRecDepth 20000 in
set_option maxHeartbeats 2000000 in
theorem rbk_any (l : List Grain.Bk) (ao : Option Addr) (n c : Nat) (p : Grain.Pt) (w : World) (hs : Seg w ao (kcells l)) (hn : n = l.length) (hc : n ≤ c) (hL : n ≤ 1000000) (hpw : l.Pairwise (fun x y => x.a < y.a)) (hft : p.f ≤ p.t) :
    Calls Try.prog 42 #[.slice ao n c, .agg #[.int .i64 p.k, .int .i64 p.f, .int .i64 p.t]] w fun e w' => ∃ (J : Grain.Sm) (m : Nat), e = .returned (.tuple #[.agg #[.int .i64 J.c, .int .i64 J.t, .int .i64 J.mn, .int .i64 J.mx, .int .i64 J.f, .int .i64 J.l, .int .i64 J.r], .int .i64 m]) ∧ Hid (J = Grain.inB l p.f p.t) ∧ Hid (m = (Grain.winB l p.f p.t).length) ∧ Below w.heap.size w w' := by
  obtain ⟨X, hX⟩ : ∃ X, X = w.heap.size := ⟨_, rfl⟩
  obtain ⟨V, hV⟩ : ∃ V, V = (w.alloc (.cells #[.int .i64 p.k, .int .i64 p.f, .int .i64 p.t] 34)).alloc (.cells #[.int .i64 0, .int .i64 0, .int .i64 0, .int .i64 0, .int .i64 0, .int .i64 0, .int .i64 0] 36) := ⟨_, rfl⟩
  have bel : Below w.heap.size w V := by rw [hV]; exact ((Below.refl _ _).alloc (Nat.le_refl _) _).alloc (by simp) _
  have P0 : V.heap[X]? = some (.cells #[.int .i64 p.k, .int .i64 p.f, .int .i64 p.t] 34 (0, 0)) := by
    rw [hV, hX, Below.heap_alloc _ _ _ (by simp)]; exact heap_alloc_new w _
  have Z0 : SumAt V (X + 1) Grain.zero := by
    show V.heap[X + 1]? = _
    rw [hV, hX]; have := heap_alloc_new (w.alloc (.cells #[.int .i64 p.k, .int .i64 p.f, .int .i64 p.t] 34)) (.cells #[.int .i64 0, .int .i64 0, .int .i64 0, .int .i64 0, .int .i64 0, .int .i64 0, .int .i64 0] 36); rwa [World.size_alloc] at this
  have hsV := hs.below bel
  have hXV : X + 1 < V.heap.size := lt_of_block Z0
  have HV := hide hV
  have HX := hide hX
  have HPW := hide hpw
  have HFT := hide hft
  have HN := hide hn
  clear hV hX hs hpw hft hn
  go_enter Try.func42, Try.ntmps42
  go_wp2_with fail
  rw [← HV.out, ← HX.out]
  refine (kwithin_any l ao n c p V hsV HN.out hc hL HPW.out HFT.out).mono ?_
  rintro e w1 ⟨bo, m, d, rfl, seg1, HM, hb1⟩
  have hm : m ≤ 1000000 := by
    have : (Grain.winB l p.f p.t).length ≤ l.length := List.length_filter_le _ _
    have := HM.out
    have := HN.out
    omega
  have P1 := below_block hb1 P0
  have Z1 := Z0.below hb1
  have seg2 := seg1.below hb1
  have bel1 : Below w.heap.size w w1 := below_pl hb1 bel
  obtain ⟨p0, p1, p2⟩ := three3 P1
  clear hb1 seg1 Z0 P0 hsV
  go_wp2_with fail
  refine (kof_any (Grain.winB l p.f p.t) bo m d p.f p.t w1 seg2 HM.out hm).mono ?_
  rintro e w2 ⟨J, HJ, rfl, hb2⟩
  have Z2 := Z1.below hb2
  have bel2 : Below w.heap.size w w2 := below_pl hb2 bel1
  obtain ⟨z0, z1, z2, z3, z4, z5, z6⟩ := Z2.cells
  obtain ⟨y0, y1, y2, y3, y4, y5, y6⟩ := seven_thaw Z2
  go_wp2
  exact bodyPost_ret (v := .tuple #[.agg #[.int .i64 J.c, .int .i64 J.t, .int .i64 J.mn, .int .i64 J.mx, .int .i64 J.f, .int .i64 J.l, .int .i64 J.r], .int .i64 m]) (by simp [results, Try.results42, go_sem, z0, z1, z2, z3, z4, z5, z6]) rfl ⟨J, m, rfl, by rw [HJ.out, Grain.inB_winB]; exact (rfl : Hid _), HM, below_set7 bel2 (by have := HX.out; omega) _ _ _ _ _ _ _⟩

set_option maxRecDepth 20000 in
set_option maxHeartbeats 2000000 in
theorem rpart_any (x : ShT) (p : Grain.Pt) (w : World) (hx : ShIn w x) (hcap : ShCap x) (h1 : x.s.ra.length ≤ 500) (h2 : x.s.fi.length ≤ 500) (h3 : x.s.co.length ≤ 500) (q1 : x.s.ra.Pairwise (fun a b => a.1 < b.1)) (q2 : x.s.fi.Pairwise (fun a b => a.a < b.a)) (q3 : x.s.co.Pairwise (fun a b => a.a < b.a)) (hft : p.f ≤ p.t) :
    Calls Try.prog 20 #[.agg #[.slice x.a0 x.s.se.length x.c0, .slice x.a1 x.s.ra.length x.c1, .slice x.a2 x.s.fi.length x.c2, .slice x.a3 x.s.co.length x.c3, .int .i64 x.s.rf, .int .i64 x.s.ff, .int .i64 x.s.ft, .int .i64 x.s.cf, .int .i64 x.s.ct], .agg #[.int .i64 p.k, .int .i64 p.f, .int .i64 p.t]] w fun e w' => ∃ (J : Grain.Sm) (m : Nat), e = .returned (.tuple #[.agg #[.int .i64 J.c, .int .i64 J.t, .int .i64 J.mn, .int .i64 J.mx, .int .i64 J.f, .int .i64 J.l, .int .i64 J.r], .int .i64 m]) ∧ Hid (J = Grain.psum x.s p) ∧ Hid (m = Grain.pcost x.s p) ∧ Below w.heap.size w w' := by
  obtain ⟨k, f, t⟩ := p
  obtain ⟨X, hX⟩ : ∃ X, X = w.heap.size := ⟨_, rfl⟩
  obtain ⟨V, hV⟩ : ∃ V, V = ((w.alloc (.cells #[.slice x.a0 x.s.se.length x.c0, .slice x.a1 x.s.ra.length x.c1, .slice x.a2 x.s.fi.length x.c2, .slice x.a3 x.s.co.length x.c3, .int .i64 x.s.rf, .int .i64 x.s.ff, .int .i64 x.s.ft, .int .i64 x.s.cf, .int .i64 x.s.ct] 27)).alloc (.cells #[.int .i64 k, .int .i64 f, .int .i64 t] 34)).alloc (.cells #[.int .i64 0, .int .i64 0, .int .i64 0, .int .i64 0, .int .i64 0, .int .i64 0, .int .i64 0] 36) := ⟨_, rfl⟩
  have bel : Below w.heap.size w V := by rw [hV]; exact (((Below.refl _ _).alloc (Nat.le_refl _) _).alloc (by simp) _).alloc (by simp; omega) _
  have Z0 : SumAt V (X + 2) Grain.zero := by
    show V.heap[X + 2]? = _
    rw [hV, hX]; have := heap_alloc_new ((w.alloc (.cells #[.slice x.a0 x.s.se.length x.c0, .slice x.a1 x.s.ra.length x.c1, .slice x.a2 x.s.fi.length x.c2, .slice x.a3 x.s.co.length x.c3, .int .i64 x.s.rf, .int .i64 x.s.ff, .int .i64 x.s.ft, .int .i64 x.s.cf, .int .i64 x.s.ct] 27)).alloc (.cells #[.int .i64 k, .int .i64 f, .int .i64 t] 34)) (.cells #[.int .i64 0, .int .i64 0, .int .i64 0, .int .i64 0, .int .i64 0, .int .i64 0, .int .i64 0] 36); rwa [World.size_alloc, World.size_alloc] at this
  have hxV := hx.below bel
  have HV := hide hV
  have HX := hide hX
  have HP1 := hide q1
  have HP2 := hide q2
  have HP3 := hide q3
  have HL1 : Hid (x.s.ra.length ≤ 1000000) := by show _ ≤ _; omega
  have HL2 : Hid (x.s.fi.length ≤ 1000000) := by show _ ≤ _; omega
  have HL3 : Hid (x.s.co.length ≤ 1000000) := by show _ ≤ _; omega
  have HFT := hide hft
  simp only [Grain.psum, Grain.pcost]
  clear hV hX q1 q2 q3 hft hx h1 h2 h3
  by_cases k1 : k = 1
  · subst k1
    go_enter Try.func20, Try.ntmps20
    go_wp2_with fail
    rw [← HV.out, ← HX.out]
    refine (rbk_any x.s.fi x.a2 _ x.c2 ⟨1, f, t⟩ V hxV.g2 rfl hcap.k2 HL2.out HP2.out HFT.out).mono ?_
    rintro e w1 ⟨J, m, rfl, HJ, HM, hb1⟩
    have Z1 := Z0.below hb1
    have bel1 : Below w.heap.size w w1 := below_pl hb1 bel
    obtain ⟨z0, z1, z2, z3, z4, z5, z6⟩ := Z1.cells
    obtain ⟨y0, y1, y2, y3, y4, y5, y6⟩ := seven_thaw Z1
    go_wp2
    exact bodyPost_ret (v := .tuple #[.agg #[.int .i64 J.c, .int .i64 J.t, .int .i64 J.mn, .int .i64 J.mx, .int .i64 J.f, .int .i64 J.l, .int .i64 J.r], .int .i64 m]) (by simp [results, Try.results20, go_sem, z0, z1, z2, z3, z4, z5, z6]) rfl ⟨J, m, rfl, HJ, HM, below_set7 bel1 (by have := HX.out; omega) _ _ _ _ _ _ _⟩
  · by_cases k2 : k = 2
    · subst k2
      go_enter Try.func20, Try.ntmps20
      go_wp2_with fail
      rw [← HV.out, ← HX.out]
      refine (rbk_any x.s.co x.a3 _ x.c3 ⟨2, f, t⟩ V hxV.g3 rfl hcap.k3 HL3.out HP3.out HFT.out).mono ?_
      rintro e w1 ⟨J, m, rfl, HJ, HM, hb1⟩
      have Z1 := Z0.below hb1
      have bel1 : Below w.heap.size w w1 := below_pl hb1 bel
      obtain ⟨z0, z1, z2, z3, z4, z5, z6⟩ := Z1.cells
      obtain ⟨y0, y1, y2, y3, y4, y5, y6⟩ := seven_thaw Z1
      go_wp2
      exact bodyPost_ret (v := .tuple #[.agg #[.int .i64 J.c, .int .i64 J.t, .int .i64 J.mn, .int .i64 J.mx, .int .i64 J.f, .int .i64 J.l, .int .i64 J.r], .int .i64 m]) (by simp [results, Try.results20, go_sem, z0, z1, z2, z3, z4, z5, z6]) rfl ⟨J, m, rfl, HJ, HM, below_set7 bel1 (by have := HX.out; omega) _ _ _ _ _ _ _⟩
    · have e1 : (k == 1) = false := by simpa using k1
      have e2 : (k == 2) = false := by simpa using k2
      simp only [k1, k2, if_false]
      go_enter Try.func20, Try.ntmps20
      go_wp2_with fail
      rw [← HV.out, ← HX.out]
      refine (within_any x.s.ra x.a1 _ x.c1 ⟨k, f, t⟩ V hxV.g1 rfl hcap.k1 HL1.out HP1.out HFT.out).mono ?_
      rintro e w1 ⟨bo, m, d, rfl, seg1, HM, hb1⟩
      have hm : m ≤ 1152921504606846975 := by
        have : (Grain.win x.s.ra f t).length ≤ x.s.ra.length := List.length_filter_le _ _
        have h1 : m = (Grain.win x.s.ra f t).length := HM.out
        have := HL1.out
        omega
      have Z1 := Z0.below hb1
      have seg2 := seg1.below hb1
      have bel1 : Below w.heap.size w w1 := below_pl hb1 bel
      clear hb1 seg1 Z0
      go_wp2_with fail
      refine (of_len _ bo m d w1 seg2 HM.out hm).mono ?_
      rintro e w2 ⟨J, HJ, rfl, hb2⟩
      have Z2 := Z1.below hb2
      have bel2 : Below w.heap.size w w2 := below_pl hb2 bel1
      obtain ⟨z0, z1, z2, z3, z4, z5, z6⟩ := Z2.cells
      obtain ⟨y0, y1, y2, y3, y4, y5, y6⟩ := seven_thaw Z2
      go_wp2
      exact bodyPost_ret (v := .tuple #[.agg #[.int .i64 J.c, .int .i64 J.t, .int .i64 J.mn, .int .i64 J.mx, .int .i64 J.f, .int .i64 J.l, .int .i64 J.r], .int .i64 m]) (by simp [results, Try.results20, go_sem, z0, z1, z2, z3, z4, z5, z6]) rfl ⟨J, m, rfl, HJ, HM, below_set7 bel2 (by have := HX.out; omega) _ _ _ _ _ _ _⟩

end Go.Proofs.Ytfgablhgjbjbkaf

/-
  The walk of plan's Read.
-/
namespace Grain
theorem pcost_le {s : Shf} (h1 : s.ra.length ≤ 500) (h2 : s.fi.length ≤ 500) (h3 : s.co.length ≤ 500) (p : Pt) : pcost s p ≤ 500 := by
  unfold pcost
  split
  · exact Nat.le_trans (List.length_filter_le _ _) h2
  · split
    · exact Nat.le_trans (List.length_filter_le _ _) h3
    · exact Nat.le_trans (List.length_filter_le _ _) h1
end Grain
namespace Go.Proofs.Ytfgablhgjbjbkaf
open Go.RowKit Go.GrainU

set_option maxRecDepth 20000 in
set_option maxHeartbeats 4000000 in
theorem read_any (x : ShT) (l : List Grain.Pt) (ao : Option Addr) (n c : Nat) (w : World) (hx : ShIn w x) (hcap : ShCap x) (hs : Seg w ao (pcells l)) (hn : n = l.length) (hL : n ≤ 1000000000000000) :
    Calls Try.prog 9 #[x.v, .slice ao n c] w fun e w' => ∃ (J : Grain.Sm) (N E : Int), e = .returned (.tuple #[.agg #[.int .i64 J.c, .int .i64 J.t, .int .i64 J.mn, .int .i64 J.mx, .int .i64 J.f, .int .i64 J.l, .int .i64 J.r], .int .i64 N, .int .i64 E]) ∧ Hid (Grain.read x.s l = (J, N, E)) ∧ Below w.heap.size w w' := by
  have HN := hide hn
  clear hn
  obtain ⟨X, hX⟩ : ∃ X, X = w.heap.size := ⟨_, rfl⟩
  obtain ⟨V, hV⟩ : ∃ V, V = (w.alloc (so x)).alloc (.cells #[.int .i64 0, .int .i64 0, .int .i64 0, .int .i64 0, .int .i64 0, .int .i64 0, .int .i64 0] 36) := ⟨_, rfl⟩
  have bel : Below w.heap.size w V := by rw [hV]; exact ((Below.refl _ _).alloc (Nat.le_refl _) _).alloc (by simp) _
  have S0 : V.heap[X]? = some (so x) := by rw [hV, hX, Below.heap_alloc _ _ _ (by simp)]; exact heap_alloc_new w _
  have Z0 : SumAt V (X + 1) Grain.zero := by
    show V.heap[X + 1]? = _
    rw [hV, hX]; have := heap_alloc_new (w.alloc (so x)) (.cells #[.int .i64 0, .int .i64 0, .int .i64 0, .int .i64 0, .int .i64 0, .int .i64 0, .int .i64 0] 36); rwa [World.size_alloc] at this
  have hxV := hx.below bel
  have hsV := hs.below bel
  have HV : Hid (V = (w.alloc (.cells #[.slice x.a0 x.s.se.length x.c0, .slice x.a1 x.s.ra.length x.c1, .slice x.a2 x.s.fi.length x.c2, .slice x.a3 x.s.co.length x.c3, .int .i64 x.s.rf, .int .i64 x.s.ff, .int .i64 x.s.ft, .int .i64 x.s.cf, .int .i64 x.s.ct] 27)).alloc (.cells #[.int .i64 0, .int .i64 0, .int .i64 0, .int .i64 0, .int .i64 0, .int .i64 0, .int .i64 0] 36)) := hV
  have HX := hide hX
  have Hv : Hid (x.v = .agg #[.slice x.a0 x.s.se.length x.c0, .slice x.a1 x.s.ra.length x.c1, .slice x.a2 x.s.fi.length x.c2, .slice x.a3 x.s.co.length x.c3, .int .i64 x.s.rf, .int .i64 x.s.ff, .int .i64 x.s.ft, .int .i64 x.s.cf, .int .i64 x.s.ct]) := rfl
  obtain ⟨E, hE⟩ : ∃ E, E = Grain.swrong x.s := ⟨_, rfl⟩
  have HE := hide hE
  clear hV hX hE hx hs
  rw [Hv.out]
  go_enter Try.func9, Try.ntmps9
  go_wp2_with fail
  rw [← HV.out, ← Hv.out]
  refine (swrong_any x V hxV).mono ?_
  rintro e w1 ⟨rfl, hb1⟩
  rw [← HE.out, ← HX.out]
  have bel1 : Below w.heap.size w w1 := below_pl hb1 bel
  have S1 := below_block hb1 S0
  have Z1 := Z0.below hb1
  have hx1 := hxV.below hb1
  have hs1 := hsV.below hb1
  clear hb1 S0 Z0 hxV hsV
  by_cases hw : E = 0
  · subst hw
    have sr := (Grain.sr_iff x.s).1 HE.out.symm
    obtain ⟨b, hb⟩ : ∃ b, b = Grain.fol x.s l := ⟨_, rfl⟩
    have HB := hide hb
    clear hb
    obtain ⟨x0, x1, x2, x3, x4, x5, x6, x7, x8⟩ := nine_cells S1
    go_wp2_with fail
    refine (follow_any x.s _ _ _ _ l ao n c b w1 hs1 HN.out hL HB.out).mono ?_
    rintro e w2 ⟨rfl, hb2⟩
    have bel2 : Below w.heap.size w w2 := below_pl hb2 bel1
    have S2 := below_block hb2 S1
    have Z2 := Z1.below hb2
    have hx2 := hx1.below hb2
    have hs2 := hs1.below hb2
    clear hb2 S1 Z1 hx1 hs1 x0 x1 x2 x3 x4 x5 x6 x7 x8 bel1
    cases b
    · obtain ⟨z0, z1, z2, z3, z4, z5, z6⟩ := Z2.cells
      obtain ⟨y0, y1, y2, y3, y4, y5, y6⟩ := seven_thaw Z2
      have HR : Hid (Grain.read x.s l = (Grain.zero, 0, 8)) := by
        show _ = _
        rw [Grain.read, if_neg (by simp [← HE.out]), if_pos HB.out.symm]
      go_wp2
      exact bodyPost_ret (v := .tuple #[.agg #[.int .i64 0, .int .i64 0, .int .i64 0, .int .i64 0, .int .i64 0, .int .i64 0, .int .i64 0], .int .i64 0, .int .i64 8]) (by simp [results, Try.results9, go_sem, z0, z1, z2, z3, z4, z5, z6]) rfl ⟨Grain.zero, 0, 8, rfl, HR, below_set7 bel2 (by have := HX.out; omega) _ _ _ _ _ _ _⟩
    · have HR : Hid (Grain.read x.s l = (Grain.rdS x.s l, (Grain.rdN x.s l : Int), 0)) := by
        show _ = _
        rw [Grain.read, if_neg (by simp [← HE.out]), if_neg (by rw [← HB.out]; decide)]
      have HO := hide ((Grain.fol_iff x.s l).1 HB.out.symm)
      obtain ⟨B, hB⟩ : ∃ B, B = w2.heap.size := ⟨_, rfl⟩
      obtain ⟨U, hU⟩ : ∃ U, U = w2.alloc (.cells #[.int .i64 0, .int .i64 0, .int .i64 0, .int .i64 0, .int .i64 0, .int .i64 0, .int .i64 0] 36) := ⟨_, rfl⟩
      have A0 : SumAt U B Grain.zero := by show U.heap[B]? = _; rw [hU, hB]; exact heap_alloc_new w2 _
      have belU : Below w2.heap.size w2 U := by rw [hU]; exact (Below.refl _ _).alloc (Nat.le_refl _) _
      have HU := hide hU
      have HBB := hide hB
      clear hU hB
      go_wp2
      rw [← HU.out, ← HBB.out]
      go_loopw [9, 27] (fun s9 s27 wr => ∃ (k N : Nat) (s : Grain.Sm), k ≤ n ∧ s9 = .int .i64 N ∧ s27 = .int .i64 k ∧ N ≤ 500 * k ∧ SumAt wr B s ∧ Below w2.heap.size w2 wr ∧ Hid (s = Grain.rdS x.s (l.take k)) ∧ Hid (N = Grain.rdN x.s (l.take k))) (fun _ s27 _ => n - (intOf s27).toNat)
      case atStart => exact ⟨0, 0, Grain.zero, Nat.zero_le _, rfl, rfl, by omega, A0, belU, rfl, rfl⟩
      case round =>
        obtain ⟨k, N, s, hk, rfl, rfl, hNk, A1, belr, H1, H2⟩ := hrel
        have S3 := below_block belr S2
        have hsz := belr.size
        by_cases hlt : k < n
        · have hkl : k < l.length := by rw [← HN.out]; exact hlt
          obtain ⟨bb, off, rfl, hbl, hcell⟩ := seg_part hs2 hkl
          obtain ⟨P, hP⟩ : ∃ P, P = Grain.pt l k := ⟨_, rfl⟩
          have q := (hcell k hkl).below belr hbl
          rw [← hP] at q
          obtain ⟨c0, c1, c2⟩ := q
          have hpft : P.f ≤ P.t := by
            have := HO.out k hkl
            unfold Grain.okp at this
            simp only [Bool.and_eq_true] at this
            have := Grain.may_lt this.1
            rw [hP]; omega
          have T1 : Hid (Grain.rdS x.s (l.take (k + 1)) = Grain.join s (Grain.psum x.s P)) := by
            show _ = _
            rw [Grain.take_pt hkl, Grain.rdS_snoc, ← hP, ← H1.out]
          have T2 : Hid (Grain.rdN x.s (l.take (k + 1)) = N + Grain.pcost x.s P) := by
            show _ = _
            rw [Grain.take_pt hkl, Grain.rdN_snoc, ← hP, ← H2.out]
          have hpc := Grain.pcost_le sr.rlen sr.flen sr.clen P
          obtain ⟨W, hW⟩ : ∃ W, W = wr.alloc (.cells #[.int .i64 P.k, .int .i64 P.f, .int .i64 P.t] 34) := ⟨_, rfl⟩
          have hbW : Below wr.heap.size wr W := by rw [hW]; exact (Below.refl _ _).alloc (Nat.le_refl _) _
          have belW : Below w2.heap.size w2 W := below_pl hbW belr
          have A2 := A1.below hbW
          have HW := hide hW
          obtain ⟨x0, x1, x2, x3, x4, x5, x6, x7, x8⟩ := nine_cells S3
          have Xl : X < wr.heap.size := lt_of_block S3
          have Bl : B < wr.heap.size := lt_of_block A1
          have hxW := hx2.below belW
          clear hW hP hcell hkl H1 H2
          go_wp2_with fail
          rw [← HW.out]
          refine (rpart_any x P W hxW hcap sr.rlen sr.flen sr.clen sr.rpw sr.fpw sr.cpw hpft).mono ?_
          rintro e w3 ⟨J, m, rfl, HJ, HM, hb3⟩
          have bel3 : Below w2.heap.size w2 w3 := below_pl hb3 belW
          have A3 := A2.below hb3
          obtain ⟨W4, hW4⟩ : ∃ W4, W4 = w3.alloc (.cells #[.int .i64 J.c, .int .i64 J.t, .int .i64 J.mn, .int .i64 J.mx, .int .i64 J.f, .int .i64 J.l, .int .i64 J.r] 36) := ⟨_, rfl⟩
          have hb4 : Below w3.heap.size w3 W4 := by rw [hW4]; exact (Below.refl _ _).alloc (Nat.le_refl _) _
          have A4 := A3.below hb4
          have bel4 : Below w2.heap.size w2 W4 := below_pl hb4 bel3
          have HW4 := hide hW4
          obtain ⟨a0, a1, a2, a3, a4, a5, a6⟩ := A3.cells
          have Bl3 : B < w3.heap.size := lt_of_block A3
          clear hW4 x0 x1 x2 x3 x4 x5 x6 x7 x8 c0 c1 c2 hb3 hbW belW A2 A1 belr Xl Bl hxW S3
          go_wp2_with fail
          rw [← HW4.out]
          refine (join_let s J W4).mono ?_
          rintro e w5 ⟨Q, HQ, rfl, hb5⟩
          have A5 := A4.below hb5
          have bel5 : Below w2.heap.size w2 w5 := below_pl hb5 bel4
          obtain ⟨g0, g1, g2, g3, g4, g5, g6⟩ := A5.cells
          obtain ⟨y0, y1, y2, y3, y4, y5, y6⟩ := seven_thaw A5
          have hmm : m ≤ 500 := by rw [HM.out]; exact hpc
          have hw1 : IntKind.i64.wrap ((N : Int) + (m : Int)) = ((N + m : Nat) : Int) := by rw [IntKind.wrap_i64]; omega
          have hw2 : IntKind.i64.wrap (((N + m : Nat) : Int)) = ((N + m : Nat) : Int) := by rw [IntKind.wrap_i64]; omega
          have T3 : Hid (Q = Grain.rdS x.s (l.take (k + 1))) := by show _ = _; rw [T1.out, HQ.out, HJ.out]
          have T4 : Hid (N + m = Grain.rdN x.s (l.take (k + 1))) := by show _ = _; rw [T2.out, HM.out]
          clear T1 T2 HJ HQ a0 a1 a2 a3 a4 a5 a6 A3 A4 bel3 bel4 hb4 hb5 HW4 HW
          go_wp2
          go_roundw
          case rel => exact ⟨k + 1, N + m, Q, by omega, by go_num, by go_num, by omega, A5.set Q, below_set7 bel5 (by have := HBB.out; omega) _ _ _ _ _ _ _, T3, T4⟩
          case measure => simp [intOf]; omega
        · obtain ⟨g0, g1, g2, g3, g4, g5, g6⟩ := A1.cells
          have Z3 := Z2.below belr
          obtain ⟨z0, z1, z2, z3, z4, z5, z6⟩ := Z3.cells
          obtain ⟨y0, y1, y2, y3, y4, y5, y6⟩ := seven_thaw Z3
          have ek : l.take k = l := List.take_of_length_le (by have := HN.out; omega)
          have HR2 : Hid (Grain.read x.s l = (s, (N : Int), 0)) := by
            show _ = _
            rw [HR.out, H1.out, H2.out, ek]
          clear HR H1 H2 ek
          go_wp2
          exact bodyPost_ret (v := .tuple #[.agg #[.int .i64 s.c, .int .i64 s.t, .int .i64 s.mn, .int .i64 s.mx, .int .i64 s.f, .int .i64 s.l, .int .i64 s.r], .int .i64 N, .int .i64 0]) (by simp [results, Try.results9, go_sem, z0, z1, z2, z3, z4, z5, z6]) rfl ⟨s, N, 0, rfl, HR2, below_set7 (below_pl belr bel2) (by have := HX.out; omega) _ _ _ _ _ _ _⟩
  · have HR : Hid (Grain.read x.s l = (Grain.zero, 0, E)) := by
      show _ = _
      rw [Grain.read, ← HE.out, if_pos hw]
    have hne : (E != 0) = true := by simpa using hw
    obtain ⟨z0, z1, z2, z3, z4, z5, z6⟩ := Z1.cells
    obtain ⟨y0, y1, y2, y3, y4, y5, y6⟩ := seven_thaw Z1
    go_wp2
    exact bodyPost_ret (v := .tuple #[.agg #[.int .i64 0, .int .i64 0, .int .i64 0, .int .i64 0, .int .i64 0, .int .i64 0, .int .i64 0], .int .i64 0, .int .i64 E]) (by simp [results, Try.results9, go_sem, z0, z1, z2, z3, z4, z5, z6]) rfl ⟨Grain.zero, 0, E, rfl, HR, below_set7 bel1 (by have := HX.out; omega) _ _ _ _ _ _ _⟩

end Go.Proofs.Ytfgablhgjbjbkaf

/-
  The walk of plan's Covers.
-/
namespace Go.Proofs.Ytfgablhgjbjbkaf
open Go.RowKit Go.GrainU

set_option maxRecDepth 20000 in
set_option maxHeartbeats 2000000 in
theorem covers_any (s : Grain.Shf) (v0 v1 v2 v3 : Value) (l : List Grain.Pt) (ao : Option Addr) (n c : Nat) (f t : Int) (b : Bool) (w : World) (hs : Seg w ao (pcells l)) (hn : n = l.length) (hL : n ≤ 1000000000000000) (hb : b = Grain.cvr s l f t) :
    Calls Try.prog 10 #[.agg #[v0, v1, v2, v3, .int .i64 s.rf, .int .i64 s.ff, .int .i64 s.ft, .int .i64 s.cf, .int .i64 s.ct], .slice ao n c, .int .i64 f, .int .i64 t] w fun e w' => e = .returned (.bool b) ∧ Below w.heap.size w w' := by
  have HB := hide (hb.trans (Grain.cvr_iff s l f t))
  have HN := hide hn
  clear hb hn
  obtain ⟨V, hV⟩ : ∃ V, V = w.alloc (.cells #[v0, v1, v2, v3, .int .i64 s.rf, .int .i64 s.ff, .int .i64 s.ft, .int .i64 s.cf, .int .i64 s.ct] 27) := ⟨_, rfl⟩
  have bel : Below w.heap.size w V := by rw [hV]; exact (Below.refl _ _).alloc (Nat.le_refl _) _
  have hsV := hs.below bel
  have HV := hide hV
  clear hV
  rcases Nat.eq_zero_or_pos n with h0 | h0
  · subst h0
    have e : b = decide (f = t) := by rw [HB.out, if_pos HN.out.symm]
    subst e
    clear HB
    go_enter Try.func10, Try.ntmps10
    go_wp2
    go_ret
    rw [← HV.out]
    exact ⟨ret_bool (by rw [Bool.eq_iff_iff]; simp), bel⟩
  · obtain ⟨m, rfl⟩ : ∃ m, n = m + 1 := ⟨n - 1, by omega⟩
    have hm : m < l.length := by have := HN.out; omega
    obtain ⟨bb, off, rfl, hbl, hcell⟩ := seg_part hs hm
    obtain ⟨A, hA⟩ : ∃ A, A = (Grain.pt l 0).f := ⟨_, rfl⟩
    obtain ⟨B, hB⟩ : ∃ B, B = (Grain.pt l m).t := ⟨_, rfl⟩
    have e : b = (decide (A = f) && (decide (B = t) && Grain.fol s l)) := by
      rw [HB.out, if_neg (by have := HN.out; omega), hA, hB, show l.length - 1 = m by have := HN.out; omega]
    obtain ⟨b', hb'⟩ : ∃ b', b' = Grain.fol s l := ⟨_, rfl⟩
    have z1 : w.cell? ⟨bb, off + 1, none⟩ = some (.int .i64 A) := by
      rw [hA]
      have := (hcell 0 (by omega)).2.1
      simpa using this
    have z2 : w.cell? ⟨bb, off + m * 3 + 2, none⟩ = some (.int .i64 B) := by rw [hB]; exact (hcell m hm).2.2
    have hw1 : IntKind.i64.wrap ((m : Int) + 1 - 1) = (m : Int) := by rw [IntKind.wrap_i64]; omega
    have hw2 : IntKind.i64.wrap (m : Int) = (m : Int) := by rw [IntKind.wrap_i64]; omega
    have h3 : (((m + 1 : Nat) : Int) == 0) = false := by simp; omega
    have h4 : (((m : Int) + 1) == 0) = false := by simp; omega
    rw [← hb'] at e
    have HB' := hide hb'
    have HE := hide e
    clear hA hB hb' e HB hcell hm h0
    by_cases e1 : A = f
    · by_cases e2 : B = t
      · have e : b = b' := by rw [HE.out]; simp [e1, e2]
        subst e
        have g1 : (A == f) = true := by simp [e1]
        have g2 : (B == t) = true := by simp [e2]
        clear HE
        subst e1 e2
        go_enter Try.func10, Try.ntmps10
        go_wp2_with fail
        rw [← HV.out]
        refine (follow_any s v0 v1 v2 v3 l _ (m + 1) c b V hsV HN.out hL HB'.out).mono ?_
        rintro e w1 ⟨rfl, hb1⟩
        go_wp2
        go_ret
        exact ⟨rfl, below_pl hb1 bel⟩
      · have e : b = false := by rw [HE.out]; simp [e2]
        subst e
        have g1 : (A == f) = true := by simp [e1]
        have g2 : (B == t) = false := by simp [e2]
        clear HE
        subst e1
        go_enter Try.func10, Try.ntmps10
        go_wp2
        go_ret
        rw [← HV.out]
        exact ⟨rfl, bel⟩
    · have e : b = false := by rw [HE.out]; simp [e1]
      subst e
      have g1 : (A == f) = false := by simp [e1]
      clear HE
      go_enter Try.func10, Try.ntmps10
      go_wp2
      go_ret
      rw [← HV.out]
      exact ⟨rfl, bel⟩

end Go.Proofs.Ytfgablhgjbjbkaf

/-
  The walk of the law's alive.
-/
namespace Go.Proofs.Ytfgablhgjbjbkaf
open Go.RowKit Go.GrainU

theorem set9_far_p {w : World} {B k : Nat} (h : k ≠ B) (v0 v1 v2 v3 v4 v5 v6 v7 v8 : Value) : (Set9 w B v0 v1 v2 v3 v4 v5 v6 v7 v8).heap[k]? = w.heap[k]? := by
  unfold Set9
  rw [setCell_far h, setCell_far h, setCell_far h, setCell_far h, setCell_far h, setCell_far h, setCell_far h, setCell_far h, setCell_far h]

theorem set9_size_p (w : World) (B : Nat) (v0 v1 v2 v3 v4 v5 v6 v7 v8 : Value) : (Set9 w B v0 v1 v2 v3 v4 v5 v6 v7 v8).heap.size = w.heap.size := by
  unfold Set9; simp

theorem set9_sob_p {w : World} {B : Nat} {a0 a1 a2 a3 a4 a5 a6 a7 a8 : Value} (h : w.heap[B]? = some (sob a0 a1 a2 a3 a4 a5 a6 a7 a8)) (v0 v1 v2 v3 v4 v5 v6 v7 v8 : Value) : (Set9 w B v0 v1 v2 v3 v4 v5 v6 v7 v8).heap[B]? = some (sob v0 v1 v2 v3 v4 v5 v6 v7 v8) := by
  have h0 : (w.setCell ⟨B, 0, none⟩ v0).heap[B]? = some (sob v0 a1 a2 a3 a4 a5 a6 a7 a8) := set_block h _
  have h1 : ((w.setCell ⟨B, 0, none⟩ v0).setCell ⟨B, 1, none⟩ v1).heap[B]? = some (sob v0 v1 a2 a3 a4 a5 a6 a7 a8) := set_block h0 _
  have h2 : (((w.setCell ⟨B, 0, none⟩ v0).setCell ⟨B, 1, none⟩ v1).setCell ⟨B, 2, none⟩ v2).heap[B]? = some (sob v0 v1 v2 a3 a4 a5 a6 a7 a8) := set_block h1 _
  have h3 : ((((w.setCell ⟨B, 0, none⟩ v0).setCell ⟨B, 1, none⟩ v1).setCell ⟨B, 2, none⟩ v2).setCell ⟨B, 3, none⟩ v3).heap[B]? = some (sob v0 v1 v2 v3 a4 a5 a6 a7 a8) := set_block h2 _
  have h4 : (((((w.setCell ⟨B, 0, none⟩ v0).setCell ⟨B, 1, none⟩ v1).setCell ⟨B, 2, none⟩ v2).setCell ⟨B, 3, none⟩ v3).setCell ⟨B, 4, none⟩ v4).heap[B]? = some (sob v0 v1 v2 v3 v4 a5 a6 a7 a8) := set_block h3 _
  have h5 : ((((((w.setCell ⟨B, 0, none⟩ v0).setCell ⟨B, 1, none⟩ v1).setCell ⟨B, 2, none⟩ v2).setCell ⟨B, 3, none⟩ v3).setCell ⟨B, 4, none⟩ v4).setCell ⟨B, 5, none⟩ v5).heap[B]? = some (sob v0 v1 v2 v3 v4 v5 a6 a7 a8) := set_block h4 _
  have h6 : (((((((w.setCell ⟨B, 0, none⟩ v0).setCell ⟨B, 1, none⟩ v1).setCell ⟨B, 2, none⟩ v2).setCell ⟨B, 3, none⟩ v3).setCell ⟨B, 4, none⟩ v4).setCell ⟨B, 5, none⟩ v5).setCell ⟨B, 6, none⟩ v6).heap[B]? = some (sob v0 v1 v2 v3 v4 v5 v6 a7 a8) := set_block h5 _
  have h7 : ((((((((w.setCell ⟨B, 0, none⟩ v0).setCell ⟨B, 1, none⟩ v1).setCell ⟨B, 2, none⟩ v2).setCell ⟨B, 3, none⟩ v3).setCell ⟨B, 4, none⟩ v4).setCell ⟨B, 5, none⟩ v5).setCell ⟨B, 6, none⟩ v6).setCell ⟨B, 7, none⟩ v7).heap[B]? = some (sob v0 v1 v2 v3 v4 v5 v6 v7 a8) := set_block h6 _
  have h8 : (((((((((w.setCell ⟨B, 0, none⟩ v0).setCell ⟨B, 1, none⟩ v1).setCell ⟨B, 2, none⟩ v2).setCell ⟨B, 3, none⟩ v3).setCell ⟨B, 4, none⟩ v4).setCell ⟨B, 5, none⟩ v5).setCell ⟨B, 6, none⟩ v6).setCell ⟨B, 7, none⟩ v7).setCell ⟨B, 8, none⟩ v8).heap[B]? = some (sob v0 v1 v2 v3 v4 v5 v6 v7 v8) := set_block h7 _
  exact h8

theorem set9_here_p {w : World} {B : Nat} {z : ShT} (h : w.heap[B]? = some (so z)) (y : ShT) :
    (Set9 w B (.slice y.a0 y.s.se.length y.c0) (.slice y.a1 y.s.ra.length y.c1) (.slice y.a2 y.s.fi.length y.c2) (.slice y.a3 y.s.co.length y.c3) (.int .i64 y.s.rf) (.int .i64 y.s.ff) (.int .i64 y.s.ft) (.int .i64 y.s.cf) (.int .i64 y.s.ct)).heap[B]? = some (so y) := by
  have h' : w.heap[B]? = some (sob (.slice z.a0 z.s.se.length z.c0) (.slice z.a1 z.s.ra.length z.c1) (.slice z.a2 z.s.fi.length z.c2) (.slice z.a3 z.s.co.length z.c3) (.int .i64 z.s.rf) (.int .i64 z.s.ff) (.int .i64 z.s.ft) (.int .i64 z.s.cf) (.int .i64 z.s.ct)) := h
  exact set9_sob_p h' _ _ _ _ _ _ _ _ _

theorem own_at_p {w : World} {base e size n c : Nat} {ao : Option Addr} {xs : List Value} (h : w.ownsRow base e size (.slice ao n c) n xs) {b off : Nat} (ha : ao = some ⟨b, off, none⟩) : base ≤ b := by
  subst ha
  rcases h.2 with ⟨h2, _⟩ | ⟨g, cap, cur, hv, hg, _⟩
  · simp at h2
  · simp at hv
    obtain ⟨⟨rfl, _⟩, _⟩ := hv
    exact hg

theorem ShO.set9_p {base : Nat} {w : World} {y : ShT} (h : ShO base w y) {B : Nat} (hB : B < base) (v0 v1 v2 v3 v4 v5 v6 v7 v8 : Value) : ShO base (Set9 w B v0 v1 v2 v3 v4 v5 v6 v7 v8) y :=
  ⟨own_set9 h.o0 hB _ _ _ _ _ _ _ _ _, own_set9 h.o1 hB _ _ _ _ _ _ _ _ _, own_set9 h.o2 hB _ _ _ _ _ _ _ _ _, own_set9 h.o3 hB _ _ _ _ _ _ _ _ _, h.ne, h.fits, h.n0, h.n1, h.n2, h.n3⟩

theorem ShO.cap {base : Nat} {w : World} {y : ShT} (h : ShO base w y) : ShCap y := by
  refine ⟨?_, ?_, ?_⟩
  · obtain ⟨a, c, e, _, hc⟩ := own_open h.o1
    simp at e
    rw [e.2]; exact hc
  · obtain ⟨a, c, e, _, hc⟩ := own_open h.o2
    simp at e
    rw [e.2]; exact hc
  · obtain ⟨a, c, e, _, hc⟩ := own_open h.o3
    simp at e
    rw [e.2]; exact hc

/-- the shelf that alive asks, with a sample; rolled; what is chosen of it -/
def al1 : Grain.Shf := { Grain.szero with ra := [(5, 7)] }
def al2 : Grain.Shf := (Grain.sroll al1 70).1
def al3 : List Grain.Pt := [⟨2, 0, 60⟩, ⟨1, 60, 70⟩, ⟨0, 70, 75⟩]

theorem al1_eq : Grain.sapp { Grain.szero with se := [] } 5 7 = (al1, 0) := rfl
theorem al2_eq : (Grain.sroll al1 70).2 = 0 := by kernel_rfl
theorem al3_eq : Grain.choose al2 0 75 = (al3, 0) := by kernel_rfl
theorem al4_eq : Grain.read al2 al3 = (⟨1, 7, 7, 7, 7, 7, 0⟩, 1, 0) := by kernel_rfl
theorem al5_eq : Grain.cvr al2 al3 0 75 = true := by kernel_rfl

set_option maxRecDepth 20000 in
set_option maxHeartbeats 4000000 in
theorem palive_any (w : World) : Calls Try.prog 7 #[] w fun e w' => e = .returned (.bool true) ∧ Below w.heap.size w w' := by
  go_enter Try.func7, Try.ntmps7
  go_wp2_with fail
  refine (snew_any [] none 0 0 w (.inl rfl) rfl (fun k hk => by simp at hk) (by decide) (fun _ => ⟨rfl, rfl⟩)).mono ?_
  rintro e w1 ⟨y, rfl, hy, iny, hb1⟩
  have HY := hide hy
  clear hy
  go_wp2_with fail
  refine (sapp_any y 5 7 w1 iny.shIn).mono ?_
  rintro e w2 ⟨y1, rfl, hy1, in1o, hb2⟩
  have in1 := in1o.shIn
  have bel2 : Below w.heap.size w w2 := below_pl hb2 hb1
  rw [HY.out, al1_eq] at hy1 ⊢
  have HY1 : Hid (y1.s = al1) := hy1
  obtain ⟨B, hB⟩ : ∃ B, B = w2.heap.size := ⟨_, rfl⟩
  obtain ⟨W2, hW2⟩ : ∃ W, W = w2.alloc (so y1) := ⟨_, rfl⟩
  have hbW : Below w2.heap.size w2 W2 := by rw [hW2]; exact (Below.refl _ _).alloc (Nat.le_refl _) _
  have bel3 : Below w.heap.size w W2 := below_pl hbW bel2
  have in2 := in1.below hbW
  have Y2 : W2.heap[B]? = some (so y1) := by rw [hW2, hB]; exact heap_alloc_new w2 _
  have HW2 : Hid (W2 = w2.alloc (.cells #[.slice y1.a0 y1.s.se.length y1.c0, .slice y1.a1 y1.s.ra.length y1.c1, .slice y1.a2 y1.s.fi.length y1.c2, .slice y1.a3 y1.s.co.length y1.c3, .int .i64 y1.s.rf, .int .i64 y1.s.ff, .int .i64 y1.s.ft, .int .i64 y1.s.cf, .int .i64 y1.s.ct] 27)) := hW2
  have Hv : Hid (y1.v = .agg #[.slice y1.a0 y1.s.se.length y1.c0, .slice y1.a1 y1.s.ra.length y1.c1, .slice y1.a2 y1.s.fi.length y1.c2, .slice y1.a3 y1.s.co.length y1.c3, .int .i64 y1.s.rf, .int .i64 y1.s.ff, .int .i64 y1.s.ft, .int .i64 y1.s.cf, .int .i64 y1.s.ct]) := rfl
  have HB := hide hB
  have wB : w.heap.size ≤ B := by rw [hB]; exact bel2.size
  have lB : B < W2.heap.size := lt_of_block Y2
  rw [Hv.out]
  clear hW2 hy1 hb1 hb2 iny HY hB hbW in1 in1o bel2
  go_upto_region 2 with fail
  rw [← HW2.out, ← HB.out]
  obtain ⟨b0, b1, b2, b3, b4, b5, b6, b7, b8⟩ := nine_cells Y2
  go_wp2_with fail
  rw [← Hv.out]
  refine (sroll_any y1 70 W2 in2).mono ?_
  rintro e w3 ⟨y2, rfl, hy2, in3o, hb3⟩
  rw [HY1.out, al2_eq] at *
  have HY2 : Hid (y2.s = al2) := hy2
  have Y3 := below_block hb3 Y2
  have cap2 := in3o.cap
  obtain ⟨W3, hW3⟩ : ∃ W, W = Set9 w3 B (.slice y2.a0 y2.s.se.length y2.c0) (.slice y2.a1 y2.s.ra.length y2.c1) (.slice y2.a2 y2.s.fi.length y2.c2) (.slice y2.a3 y2.s.co.length y2.c3) (.int .i64 y2.s.rf) (.int .i64 y2.s.ff) (.int .i64 y2.s.ft) (.int .i64 y2.s.cf) (.int .i64 y2.s.ct) := ⟨_, rfl⟩
  have Y4 : W3.heap[B]? = some (so y2) := by rw [hW3]; exact set9_here_p Y3 y2
  have in4 : ShIn W3 y2 := by rw [hW3]; exact (in3o.set9_p lB _ _ _ _ _ _ _ _ _).shIn
  have bel4 : Below w.heap.size w W3 := by rw [hW3]; exact below_set9 (below_pl hb3 bel3) wB _ _ _ _ _ _ _ _ _
  have HW3 : Hid (W3 = Set9 w3 B (.slice y2.a0 y2.s.se.length y2.c0) (.slice y2.a1 y2.s.ra.length y2.c1) (.slice y2.a2 y2.s.fi.length y2.c2) (.slice y2.a3 y2.s.co.length y2.c3) (.int .i64 y2.s.rf) (.int .i64 y2.s.ff) (.int .i64 y2.s.ft) (.int .i64 y2.s.cf) (.int .i64 y2.s.ct)) := hW3
  have Hv2 : Hid (y2.v = .agg #[.slice y2.a0 y2.s.se.length y2.c0, .slice y2.a1 y2.s.ra.length y2.c1, .slice y2.a2 y2.s.fi.length y2.c2, .slice y2.a3 y2.s.co.length y2.c3, .int .i64 y2.s.rf, .int .i64 y2.s.ff, .int .i64 y2.s.ft, .int .i64 y2.s.cf, .int .i64 y2.s.ct]) := rfl
  obtain ⟨f0, f1, f2, f3, f4, f5, f6, f7, f8⟩ := so_free Y3
  obtain ⟨a0, a1, a2, a3, a4, a5, a6, a7, a8⟩ := nine_cells Y3
  rw [Hv2.out]
  clear hW3 hy2 hb3 b0 b1 b2 b3 b4 b5 b6 b7 b8 in3o Y3 in2 Y2 HW2 HB
  go_upto_region 3 with fail
  rw [show (((((((((w3.setCell ⟨B, 0, none⟩ (.slice y2.a0 y2.s.se.length y2.c0)).setCell ⟨B, 1, none⟩ (.slice y2.a1 y2.s.ra.length y2.c1)).setCell ⟨B, 2, none⟩ (.slice y2.a2 y2.s.fi.length y2.c2)).setCell ⟨B, 3, none⟩ (.slice y2.a3 y2.s.co.length y2.c3)).setCell ⟨B, 4, none⟩ (.int .i64 y2.s.rf)).setCell ⟨B, 5, none⟩ (.int .i64 y2.s.ff)).setCell ⟨B, 6, none⟩ (.int .i64 y2.s.ft)).setCell ⟨B, 7, none⟩ (.int .i64 y2.s.cf)).setCell ⟨B, 8, none⟩ (.int .i64 y2.s.ct)) = W3 from HW3.out.symm]
  clear HW3 f0 f1 f2 f3 f4 f5 f6 f7 f8 a0 a1 a2 a3 a4 a5 a6 a7 a8
  obtain ⟨b0, b1, b2, b3, b4, b5, b6, b7, b8⟩ := nine_cells Y4
  go_wp2_with fail
  rw [← Hv2.out]
  refine (choose_any y2 0 75 (al3, 0) W3 in4 (by rw [HY2.out, al3_eq])).mono ?_
  rintro e w4 ⟨co, m, d, rfl, own4, hm4, hb4⟩
  have hm : m = 3 := own_plen own4
  subst hm
  have bel5 : Below w.heap.size w w4 := below_pl hb4 bel4
  have Y5 := below_block hb4 Y4
  have in5 := in4.below hb4
  have seg5 := own_seg' own4
  clear b0 b1 b2 b3 b4 b5 b6 b7 b8 hb4 Y4 in4 own4
  obtain ⟨b0, b1, b2, b3, b4, b5, b6, b7, b8⟩ := nine_cells Y5
  go_wp2_with fail
  rw [← Hv2.out]
  refine (read_any y2 al3 co 3 d w4 in5 cap2 seg5 rfl (by decide)).mono ?_
  rintro e w5 ⟨J, N, E, rfl, HR, hb5⟩
  have hr := HR.out
  rw [HY2.out, al4_eq] at hr
  simp only [Prod.mk.injEq] at hr
  obtain ⟨rfl, rfl, rfl⟩ := hr
  have bel6 : Below w.heap.size w w5 := below_pl hb5 bel5
  have Y6 := below_block hb5 Y5
  have seg6 := seg5.below hb5
  obtain ⟨W6, hW6⟩ : ∃ W, W = w5.alloc (.cells #[.int .i64 1, .int .i64 7, .int .i64 7, .int .i64 7, .int .i64 7, .int .i64 7, .int .i64 0] 36) := ⟨_, rfl⟩
  have hb6 : Below w5.heap.size w5 W6 := by rw [hW6]; exact (Below.refl _ _).alloc (Nat.le_refl _) _
  have bel7 : Below w.heap.size w W6 := below_pl hb6 bel6
  have seg7 := seg6.below hb6
  have HW6 := hide hW6
  have lB6 : B < w5.heap.size := lt_of_block Y6
  clear b0 b1 b2 b3 b4 b5 b6 b7 b8 hb5 Y5 in5 HR hW6
  obtain ⟨b0, b1, b2, b3, b4, b5, b6, b7, b8⟩ := nine_cells Y6
  go_wp2_with fail
  rw [← HW6.out]
  refine (covers_any y2.s _ _ _ _ al3 co 3 d 0 75 true W6 seg7 rfl (by decide) (by rw [HY2.out, al5_eq])).mono ?_
  rintro e w7 ⟨rfl, hb7⟩
  go_wp2
  go_ret
  exact ⟨rfl, below_pl hb7 bel7⟩

end Go.Proofs.Ytfgablhgjbjbkaf

/-
  The walk of the laws' made: a shelf of samples, rolled, and with less of each tier.
-/
namespace Grain

theorem sapp_cf {s : Shf} {t v : Int} (h : (sapp s t v).2 = 0) : (sapp s t v).1.cf = s.cf := by
  unfold sapp at *
  repeat' (split at h)
  all_goals first | (exfalso; simp_all; done) | skip
  all_goals (simp_all; repeat rw [if_neg (by omega)])

theorem sroll_cf {s : Shf} {t : Int} (h : (sroll s t).2 = 0) : (sroll s t).1.cf = s.cf := by
  unfold sroll at *
  repeat' (split at h)
  all_goals first | (exfalso; simp_all; done) | skip
  all_goals (simp_all; repeat rw [if_neg (by omega)])

theorem sforg_cf {s : Shf} {k t : Int} (hk : k ≠ 2) (h : (sforg s k t).2 = 0) : (sforg s k t).1.cf = s.cf := by
  unfold sforg at *
  repeat' (split at h)
  all_goals first | (exfalso; simp_all; done) | skip
  all_goals simp_all

end Grain
namespace Go.Proofs.Ytfgablhgjbjbkaf
open Go.RowKit Go.GrainU

def Off9 (r : Option Nat) (y : ShT) : Prop := ∀ b off, (y.a0 = some ⟨b, off, none⟩ ∨ y.a1 = some ⟨b, off, none⟩ ∨ y.a2 = some ⟨b, off, none⟩ ∨ y.a3 = some ⟨b, off, none⟩) → r ≠ some b

theorem ShO.off {base : Nat} {w : World} {y : ShT} (h : ShO base w y) {r : Option Nat} (hr : ∀ g, r = some g → g < base) : Off9 r y := by
  intro b off ha e
  have hb := hr b e
  rcases ha with ha | ha | ha | ha
  · have := own_at_p h.o0 ha; omega
  · have := own_at_p h.o1 ha; omega
  · have := own_at_p h.o2 ha; omega
  · have := own_at_p h.o3 ha; omega

theorem seg_set9 {w : World} {B : Nat} {ao : Option Addr} {xs : List Value} (h : Seg w ao xs) (hne : ∀ b off, ao = some ⟨b, off, none⟩ → b ≠ B) (v0 v1 v2 v3 v4 v5 v6 v7 v8 : Value) : Seg (Set9 w B v0 v1 v2 v3 v4 v5 v6 v7 v8) ao xs := by
  rcases h with h | ⟨b, off, rfl, hc⟩
  · exact .inl h
  · refine .inr ⟨b, off, rfl, fun j hj => ?_⟩
    have hb := set9_far_p (w := w) (hne b off rfl) v0 v1 v2 v3 v4 v5 v6 v7 v8
    rw [← hc j hj]
    simp [World.cell?, hb]

theorem ShIn.set9 {w : World} {B : Nat} {y : ShT} (h : ShIn w y) (ho : Off9 (some B) y) (v0 v1 v2 v3 v4 v5 v6 v7 v8 : Value) : ShIn (Set9 w B v0 v1 v2 v3 v4 v5 v6 v7 v8) y :=
  ⟨seg_set9 h.g0 (fun b off e hb => ho b off (.inl e) (by rw [hb])) _ _ _ _ _ _ _ _ _, seg_set9 h.g1 (fun b off e hb => ho b off (.inr (.inl e)) (by rw [hb])) _ _ _ _ _ _ _ _ _, seg_set9 h.g2 (fun b off e hb => ho b off (.inr (.inr (.inl e))) (by rw [hb])) _ _ _ _ _ _ _ _ _, seg_set9 h.g3 (fun b off e hb => ho b off (.inr (.inr (.inr e))) (by rw [hb])) _ _ _ _ _ _ _ _ _, h.fits, h.n0, h.n1, h.n2, h.n3, h.z0, h.z1, h.z2, h.z3⟩

theorem own_at2 {w : World} {base e size n c : Nat} {ao : Option Addr} {xs : List Value} (h : w.ownsRow base e size (.slice ao n c) n xs) {b off : Nat} (ha : ao = some ⟨b, off, none⟩) : base ≤ b ∧ b < w.heap.size := by
  subst ha
  rcases h.2 with ⟨h2, _⟩ | ⟨g, cap, cur, hv, hg, hh, _⟩
  · simp at h2
  · simp at hv
    obtain ⟨⟨rfl, _⟩, _⟩ := hv
    exact ⟨hg, lt_of_block hh⟩

theorem ShO.off2 {base : Nat} {w : World} {y : ShT} (h : ShO base w y) {r : Option Nat} (hr : ∀ g, r = some g → g < base ∨ w.heap.size ≤ g) : Off9 r y := by
  intro b off ha e
  have hb := hr b e
  rcases ha with ha | ha | ha | ha
  · have := own_at2 h.o0 ha; omega
  · have := own_at2 h.o1 ha; omega
  · have := own_at2 h.o2 ha; omega
  · have := own_at2 h.o3 ha; omega

/-- a shelf's slices lie in blocks that were there -/
def Low9 (N : Nat) (y : ShT) : Prop := ∀ b off, (y.a0 = some ⟨b, off, none⟩ ∨ y.a1 = some ⟨b, off, none⟩ ∨ y.a2 = some ⟨b, off, none⟩ ∨ y.a3 = some ⟨b, off, none⟩) → b < N

theorem ShO.low {base : Nat} {w : World} {y : ShT} (h : ShO base w y) : Low9 w.heap.size y := by
  intro b off ha
  rcases ha with ha | ha | ha | ha
  · exact (own_at2 h.o0 ha).2
  · exact (own_at2 h.o1 ha).2
  · exact (own_at2 h.o2 ha).2
  · exact (own_at2 h.o3 ha).2

/-- while a shelf is made: it lies at S; the answer's block is still empty -/
structure MI (w wr : World) (R S : Nat) (y : ShT) : Prop where
  s : wr.heap[S]? = some (so y)
  r : wr.heap[R]? = some (so szT)
  inn : ShIn wr y
  cap : ShCap y
  offR : Off9 (some R) y
  bel : Below w.heap.size w wr
  wR : w.heap.size ≤ R
  rs : R < S
  low : Low9 wr.heap.size y

theorem ShO.below_p {base : Nat} {w w' : World} {y : ShT} (h : ShO base w y) (hb : Below w.heap.size w w') : ShO base w' y :=
  ⟨own_below h.o0 hb, own_below h.o1 hb, own_below h.o2 hb, own_below h.o3 hb, h.ne, h.fits, h.n0, h.n1, h.n2, h.n3⟩

theorem MI.call {w wr w' : World} {R S : Nat} {y : ShT} (h : MI w wr R S y) (hb : Below wr.heap.size wr w') : MI w w' R S y :=
  ⟨below_block hb h.s, below_block hb h.r, h.inn.below hb, h.cap, h.offR, below_pl hb h.bel, h.wR, h.rs, fun b off ha => Nat.lt_of_lt_of_le (h.low b off ha) hb.size⟩

/-- another one is laid in its place -/
theorem MI.put {w wr : World} {R S b0 : Nat} {y z : ShT} (h : MI w wr R S y) (hz : ShO b0 wr z) (hS : S < b0) : MI w (Set9 wr S (.slice z.a0 z.s.se.length z.c0) (.slice z.a1 z.s.ra.length z.c1) (.slice z.a2 z.s.fi.length z.c2) (.slice z.a3 z.s.co.length z.c3) (.int .i64 z.s.rf) (.int .i64 z.s.ff) (.int .i64 z.s.ft) (.int .i64 z.s.cf) (.int .i64 z.s.ct)) R S z :=
  ⟨set9_here_p h.s z, by rw [set9_far_p (by have := h.rs; omega)]; exact h.r, (hz.set9_p hS _ _ _ _ _ _ _ _ _).shIn, hz.cap, hz.off (fun g hg => by simp at hg; have := h.rs; omega), below_set9 h.bel (by have := h.wR; have := h.rs; omega) _ _ _ _ _ _ _ _ _, h.wR, h.rs, by rw [set9_size_p]; exact hz.low⟩

/-- another block is written -/
theorem MI.far {w wr : World} {R S T : Nat} {y : ShT} (h : MI w wr R S y) (hT : S < T) (ho : Off9 (some T) y) (v0 v1 v2 v3 v4 v5 v6 v7 v8 : Value) : MI w (Set9 wr T v0 v1 v2 v3 v4 v5 v6 v7 v8) R S y :=
  ⟨by rw [set9_far_p (by omega)]; exact h.s, by rw [set9_far_p (by have := h.rs; omega)]; exact h.r, ShIn.set9 h.inn ho _ _ _ _ _ _ _ _ _, h.cap, h.offR, below_set9 h.bel (by have := h.wR; have := h.rs; omega) _ _ _ _ _ _ _ _ _, h.wR, h.rs, by rw [set9_size_p]; exact h.low⟩

/-- what made answers -/
def MPost (w : World) (l : List (Int × Int)) (fn : Nat) (e : Ending) (w' : World) : Prop :=
  ∃ (y : ShT) (ok : Bool), e = .returned (.tuple #[y.v, .bool ok]) ∧ ShIn w' y ∧ ShCap y ∧ Below w.heap.size w w' ∧ Hid (ok = true → Grain.Keeps y.s l ∧ (fn ≤ 2 → y.s.cf = 0))

theorem mpost_no {w wr : World} {R S : Nat} {y : ShT} (h : MI w wr R S y) (l : List (Int × Int)) (fn : Nat) :
    MPost w l fn (.returned (.tuple #[.agg #[.slice y.a0 y.s.se.length y.c0, .slice y.a1 y.s.ra.length y.c1, .slice y.a2 y.s.fi.length y.c2, .slice y.a3 y.s.co.length y.c3, .int .i64 y.s.rf, .int .i64 y.s.ff, .int .i64 y.s.ft, .int .i64 y.s.cf, .int .i64 y.s.ct], .bool false])) (Set9 wr R (.slice y.a0 y.s.se.length y.c0) (.slice y.a1 y.s.ra.length y.c1) (.slice y.a2 y.s.fi.length y.c2) (.slice y.a3 y.s.co.length y.c3) (.int .i64 y.s.rf) (.int .i64 y.s.ff) (.int .i64 y.s.ft) (.int .i64 y.s.cf) (.int .i64 y.s.ct)) :=
  ⟨y, false, rfl, ShIn.set9 h.inn h.offR _ _ _ _ _ _ _ _ _, h.cap, below_set9 h.bel h.wR _ _ _ _ _ _ _ _ _, fun e => by cases e⟩

set_option maxRecDepth 20000 in
set_option maxHeartbeats 8000000 in
theorem made_any (l : List (Int × Int)) (ao : Option Addr) (n c : Nat) (rolled : Int) (fg : List Int) (bo : Option Addr) (m d : Nat) (w : World) (hs : Seg w ao (scells l)) (hn : n = l.length) (hL : n ≤ 4611686018427387904) (hg : Seg w bo (icells fg)) (hm : m = fg.length) (hM : m ≤ 4611686018427387904) :
    Calls Try.prog 11 #[.slice ao n c, .int .i64 rolled, .slice bo m d] w (MPost w l m) := by
  have HN := hide hn
  have HM := hide hm
  clear hn hm
  obtain ⟨R, hR⟩ : ∃ R, R = w.heap.size := ⟨_, rfl⟩
  obtain ⟨V, hV⟩ : ∃ V, V = w.alloc (so szT) := ⟨_, rfl⟩
  have bel : Below w.heap.size w V := by rw [hV]; exact (Below.refl _ _).alloc (Nat.le_refl _) _
  have R0 : V.heap[R]? = some (so szT) := by rw [hV, hR]; exact heap_alloc_new w _
  have lR : R < V.heap.size := lt_of_block R0
  have wR : w.heap.size ≤ R := by omega
  have HV : Hid (V = w.alloc (.cells #[.slice none 0 0, .slice none 0 0, .slice none 0 0, .slice none 0 0, .int .i64 0, .int .i64 0, .int .i64 0, .int .i64 0, .int .i64 0] 27)) := hV
  have HR := hide hR
  clear hV hR
  go_enter Try.func11, Try.ntmps11
  go_wp2_with fail
  rw [← HV.out, ← HR.out]
  refine (snew_any [] none 0 0 V (.inl rfl) rfl (fun k hk => by simp at hk) (by decide) (fun _ => ⟨rfl, rfl⟩)).mono ?_
  rintro e w1 ⟨y0, rfl, hy0, o0, hb1⟩
  obtain ⟨S, hS⟩ : ∃ S, S = w1.heap.size := ⟨_, rfl⟩
  obtain ⟨W1, hW1⟩ : ∃ W, W = w1.alloc (so y0) := ⟨_, rfl⟩
  have hbW1 : Below w1.heap.size w1 W1 := by rw [hW1]; exact (Below.refl _ _).alloc (Nat.le_refl _) _
  have I0 : MI w W1 R S y0 := ⟨by rw [hW1, hS]; exact heap_alloc_new w1 _, below_block hbW1 (below_block hb1 R0), o0.shIn.below hbW1, o0.cap, o0.off (fun g hg => by simp at hg; omega), below_pl hbW1 (below_pl hb1 bel), wR, by rw [hS]; exact Nat.lt_of_lt_of_le lR hb1.size, fun b off ha => Nat.lt_of_lt_of_le (o0.low b off ha) hbW1.size⟩
  have K0 : Hid (Grain.Keeps y0.s (l.take 0) ∧ y0.s.cf = 0) := by
    show _ ∧ _
    rw [hy0]
    exact ⟨Grain.keeps_new (by rfl), rfl⟩
  have HW1 : Hid (W1 = w1.alloc (.cells #[.slice y0.a0 y0.s.se.length y0.c0, .slice y0.a1 y0.s.ra.length y0.c1, .slice y0.a2 y0.s.fi.length y0.c2, .slice y0.a3 y0.s.co.length y0.c3, .int .i64 y0.s.rf, .int .i64 y0.s.ff, .int .i64 y0.s.ft, .int .i64 y0.s.cf, .int .i64 y0.s.ct] 27)) := hW1
  have Hv0 : Hid (y0.v = .agg #[.slice y0.a0 y0.s.se.length y0.c0, .slice y0.a1 y0.s.ra.length y0.c1, .slice y0.a2 y0.s.fi.length y0.c2, .slice y0.a3 y0.s.co.length y0.c3, .int .i64 y0.s.rf, .int .i64 y0.s.ff, .int .i64 y0.s.ft, .int .i64 y0.s.cf, .int .i64 y0.s.ct]) := rfl
  have HS := hide hS
  rw [Hv0.out]
  clear hS hW1 hbW1 o0 hy0 hb1 R0 lR bel
  go_wp2
  rw [← HW1.out, ← HS.out]
  clear HW1 HS HV Hv0
  go_loopw [22] (fun i wr => ∃ (k : Nat) (y : ShT), k ≤ n ∧ i = .int .i64 k ∧ MI w wr R S y ∧ Hid (Grain.Keeps y.s (l.take k) ∧ y.s.cf = 0)) (fun i _ => n - (intOf i).toNat)
  case atStart => exact ⟨0, y0, Nat.zero_le _, rfl, I0, K0⟩
  case round =>
    clear I0 K0
    obtain ⟨k, y, hk, rfl, I, K⟩ := hrel
    have hsz := I.bel.size
    by_cases hlt : k < n
    · have hkl : k < l.length := by rw [← HN.out]; exact hlt
      obtain ⟨b, off, rfl, hcell⟩ := hs.sample hkl
      have hb : b < w.heap.size := World.block_lt_of_cell? w ⟨b, off + k * 2, none⟩ (hcell k hkl).1
      obtain ⟨t, htm⟩ : ∃ t, t = Grain.tm l k := ⟨_, rfl⟩
      obtain ⟨v, hvl⟩ : ∃ v, v = Grain.vl l k := ⟨_, rfl⟩
      have c0 : wr.cell? ⟨b, off + k * 2, none⟩ = some (.int .i64 t) := by rw [htm]; exact (I.bel.cell (by exact hb)).trans (hcell k hkl).1
      have c1 : wr.cell? ⟨b, off + k * 2 + 1, none⟩ = some (.int .i64 v) := by rw [hvl]; exact (I.bel.cell (by exact hb)).trans (hcell k hkl).2
      have HT : Hid (l.take (k + 1) = l.take k ++ [(t, v)]) := by show _ = _; rw [htm, hvl]; exact Grain.take_tm hkl
      obtain ⟨W, hW⟩ : ∃ W, W = wr.alloc (.cells #[.int .i64 t, .int .i64 v] 45) := ⟨_, rfl⟩
      have hbW : Below wr.heap.size wr W := by rw [hW]; exact (Below.refl _ _).alloc (Nat.le_refl _) _
      have IW := I.call hbW
      have HW := hide hW
      obtain ⟨b0, b1, b2, b3, b4, b5, b6, b7, b8⟩ := nine_cells I.s
      have Sl : S < wr.heap.size := lt_of_block I.s
      have Hv : Hid (y.v = .agg #[.slice y.a0 y.s.se.length y.c0, .slice y.a1 y.s.ra.length y.c1, .slice y.a2 y.s.fi.length y.c2, .slice y.a3 y.s.co.length y.c3, .int .i64 y.s.rf, .int .i64 y.s.ff, .int .i64 y.s.ft, .int .i64 y.s.cf, .int .i64 y.s.ct]) := rfl
      clear hW hcell hkl htm hvl I hbW
      go_wp2_with fail
      rw [← HW.out, ← Hv.out]
      refine (sapp_any y t v W IW.inn).mono ?_
      rintro e w2 ⟨y1, rfl, hy1, o1, hb2⟩
      have Hy1 := hide hy1
      clear hy1
      have I2 := IW.call hb2
      obtain ⟨E, hE⟩ : ∃ E, E = (Grain.sapp y.s t v).2 := ⟨_, rfl⟩
      rw [← hE]
      have HE := hide hE
      have SW : S < W.heap.size := lt_of_block IW.s
      obtain ⟨Y, hY⟩ : ∃ Y, Y = w2.heap.size := ⟨_, rfl⟩
      obtain ⟨W2, hW2⟩ : ∃ W', W' = w2.alloc (so y1) := ⟨_, rfl⟩
      have hbW2 : Below w2.heap.size w2 W2 := by rw [hW2]; exact (Below.refl _ _).alloc (Nat.le_refl _) _
      have I3 := I2.call hbW2
      have Y3 : W2.heap[Y]? = some (so y1) := by rw [hW2, hY]; exact heap_alloc_new w2 _
      have o3 := o1.below_p hbW2
      have HW2 : Hid (W2 = w2.alloc (.cells #[.slice y1.a0 y1.s.se.length y1.c0, .slice y1.a1 y1.s.ra.length y1.c1, .slice y1.a2 y1.s.fi.length y1.c2, .slice y1.a3 y1.s.co.length y1.c3, .int .i64 y1.s.rf, .int .i64 y1.s.ff, .int .i64 y1.s.ft, .int .i64 y1.s.cf, .int .i64 y1.s.ct] 27)) := hW2
      have Hv1 : Hid (y1.v = .agg #[.slice y1.a0 y1.s.se.length y1.c0, .slice y1.a1 y1.s.ra.length y1.c1, .slice y1.a2 y1.s.fi.length y1.c2, .slice y1.a3 y1.s.co.length y1.c3, .int .i64 y1.s.rf, .int .i64 y1.s.ff, .int .i64 y1.s.ft, .int .i64 y1.s.cf, .int .i64 y1.s.ct]) := rfl
      have HY := hide hY
      rw [Hv1.out]
      clear b0 b1 b2 b3 b4 b5 b6 b7 b8 hW2 hY hE hb2 o1 hbW2 c0 c1 I2 IW
      go_upto_region 6 with fail
      rw [← HW2.out, ← HY.out]
      clear HW2 HW HY
      by_cases hE0 : E = 0
      · subst hE0
        have K2 : Hid (Grain.Keeps y1.s (l.take (k + 1)) ∧ y1.s.cf = 0) := by
          show _ ∧ _
          rw [Hy1.out, HT.out]
          exact ⟨Grain.keeps_app K.out.1 HE.out.symm, by rw [Grain.sapp_cf HE.out.symm]; exact K.out.2⟩
        have I4 := I3.put o3 SW
        obtain ⟨W4, hW4⟩ : ∃ W', W' = Set9 W2 S (.slice y1.a0 y1.s.se.length y1.c0) (.slice y1.a1 y1.s.ra.length y1.c1) (.slice y1.a2 y1.s.fi.length y1.c2) (.slice y1.a3 y1.s.co.length y1.c3) (.int .i64 y1.s.rf) (.int .i64 y1.s.ff) (.int .i64 y1.s.ft) (.int .i64 y1.s.cf) (.int .i64 y1.s.ct) := ⟨_, rfl⟩
        rw [← hW4] at I4
        have HW4 : Hid ((((((((((W2.setCell ⟨S, 0, none⟩ (.slice y1.a0 y1.s.se.length y1.c0)).setCell ⟨S, 1, none⟩ (.slice y1.a1 y1.s.ra.length y1.c1)).setCell ⟨S, 2, none⟩ (.slice y1.a2 y1.s.fi.length y1.c2)).setCell ⟨S, 3, none⟩ (.slice y1.a3 y1.s.co.length y1.c3)).setCell ⟨S, 4, none⟩ (.int .i64 y1.s.rf)).setCell ⟨S, 5, none⟩ (.int .i64 y1.s.ff)).setCell ⟨S, 6, none⟩ (.int .i64 y1.s.ft)).setCell ⟨S, 7, none⟩ (.int .i64 y1.s.cf)).setCell ⟨S, 8, none⟩ (.int .i64 y1.s.ct)) = W4) := hW4.symm
        obtain ⟨b0, b1, b2, b3, b4, b5, b6, b7, b8⟩ := nine_cells Y3
        obtain ⟨g0, g1, g2, g3, g4, g5, g6, g7, g8⟩ := nine_cells I3.s
        obtain ⟨f0, f1, f2, f3, f4, f5, f6, f7, f8⟩ := so_free I3.s
        clear hW4 Hy1 I3 Y3 o3 K HT HE
        go_wp2
        rw [HW4.out]
        go_roundw
        case rel => exact ⟨k + 1, y1, by omega, by go_num, I4, K2⟩
        case measure => simp [intOf]; omega
      · have hne : (E != 0) = true := by simpa using hE0
        have F := hide (mpost_no I3 l m)
        obtain ⟨b0, b1, b2, b3, b4, b5, b6, b7, b8⟩ := nine_cells I3.s
        obtain ⟨g0, g1, g2, g3, g4, g5, g6, g7, g8⟩ := sz_cells I3.r
        obtain ⟨f0, f1, f2, f3, f4, f5, f6, f7, f8⟩ := so_free I3.r
        go_wp2
        exact bodyPost_ret (v := .tuple #[.agg #[.slice y.a0 y.s.se.length y.c0, .slice y.a1 y.s.ra.length y.c1, .slice y.a2 y.s.fi.length y.c2, .slice y.a3 y.s.co.length y.c3, .int .i64 y.s.rf, .int .i64 y.s.ff, .int .i64 y.s.ft, .int .i64 y.s.cf, .int .i64 y.s.ct], .bool false]) (by simp [results, Try.results11, go_sem, g0, g1, g2, g3, g4, g5, g6, g7, g8]) rfl F.out
    · have ek : l.take k = l := List.take_of_length_le (by have := HN.out; omega)
      rw [ek] at K
      clear ek
      obtain ⟨b0, b1, b2, b3, b4, b5, b6, b7, b8⟩ := nine_cells I.s
      have Hv : Hid (y.v = .agg #[.slice y.a0 y.s.se.length y.c0, .slice y.a1 y.s.ra.length y.c1, .slice y.a2 y.s.fi.length y.c2, .slice y.a3 y.s.co.length y.c3, .int .i64 y.s.rf, .int .i64 y.s.ff, .int .i64 y.s.ft, .int .i64 y.s.cf, .int .i64 y.s.ct]) := rfl
      go_wp2_with fail
      rw [← Hv.out]
      refine (sroll_any y rolled wr I.inn).mono ?_
      rintro e w2 ⟨y1, rfl, hy1, o1, hb2⟩
      have Hy1 := hide hy1
      clear hy1
      have I2 := I.call hb2
      obtain ⟨E, hE⟩ : ∃ E, E = (Grain.sroll y.s rolled).2 := ⟨_, rfl⟩
      rw [← hE]
      have HE := hide hE
      obtain ⟨T, hT⟩ : ∃ T, T = w2.heap.size := ⟨_, rfl⟩
      obtain ⟨W2, hW2⟩ : ∃ W', W' = w2.alloc (so y1) := ⟨_, rfl⟩
      have hbW2 : Below w2.heap.size w2 W2 := by rw [hW2]; exact (Below.refl _ _).alloc (Nat.le_refl _) _
      have I3 := I2.call hbW2
      have T3 : W2.heap[T]? = some (so y1) := by rw [hW2, hT]; exact heap_alloc_new w2 _
      have ST : S < T := by rw [hT]; exact lt_of_block I2.s
      have HST := hide ST
      have oy : Off9 (some T) y := fun b off ha e => by
        have := I2.low b off ha
        simp at e
        omega
      have J3 : MI w W2 R T y1 := ⟨T3, I3.r, o1.shIn.below hbW2, o1.cap, o1.off (fun g hg => by simp at hg; have := lt_of_block I.r; omega), I3.bel, I3.wR, by have := I3.rs; omega, fun b off ha => Nat.lt_of_lt_of_le (o1.low b off ha) hbW2.size⟩
      have HW2 : Hid (W2 = w2.alloc (.cells #[.slice y1.a0 y1.s.se.length y1.c0, .slice y1.a1 y1.s.ra.length y1.c1, .slice y1.a2 y1.s.fi.length y1.c2, .slice y1.a3 y1.s.co.length y1.c3, .int .i64 y1.s.rf, .int .i64 y1.s.ff, .int .i64 y1.s.ft, .int .i64 y1.s.cf, .int .i64 y1.s.ct] 27)) := hW2
      have Hv1 : Hid (y1.v = .agg #[.slice y1.a0 y1.s.se.length y1.c0, .slice y1.a1 y1.s.ra.length y1.c1, .slice y1.a2 y1.s.fi.length y1.c2, .slice y1.a3 y1.s.co.length y1.c3, .int .i64 y1.s.rf, .int .i64 y1.s.ff, .int .i64 y1.s.ft, .int .i64 y1.s.cf, .int .i64 y1.s.ct]) := rfl
      have HT := hide hT
      rw [Hv1.out]
      clear b0 b1 b2 b3 b4 b5 b6 b7 b8 hW2 hT hE hb2 o1 hbW2 I2 I T3
      go_upto_region 11 with fail
      rw [← HW2.out, ← HT.out]
      clear HW2 HT
      by_cases hE0 : E = 0
      · subst hE0
        have K2 : Hid (Grain.Keeps y1.s l ∧ y1.s.cf = 0) := by
          show _ ∧ _
          rw [Hy1.out]
          exact ⟨Grain.keeps_roll K.out.1 HE.out.symm, by rw [Grain.sroll_cf HE.out.symm]; exact K.out.2⟩
        clear K HE Hy1 Hv1 Hv
        go_wp2
        go_loopw [48] (fun i wr => ∃ (k : Nat) (z : ShT), k ≤ m ∧ i = .int .i64 k ∧ MI w wr R S y ∧ MI w wr R T z ∧ Hid (Grain.Keeps z.s l ∧ (k ≤ 2 → z.s.cf = 0))) (fun i _ => m - (intOf i).toNat)
        case atStart => exact ⟨0, y1, Nat.zero_le _, rfl, I3, J3, ⟨K2.out.1, fun _ => K2.out.2⟩⟩
        case round =>
          clear I3 J3 K2
          obtain ⟨k, z, hk, rfl, I, J, K⟩ := hrel
          obtain ⟨Hv, hHv⟩ : ∃ v, v = z.v := ⟨_, rfl⟩
          clear hHv Hv
          have Hv : Hid (z.v = .agg #[.slice z.a0 z.s.se.length z.c0, .slice z.a1 z.s.ra.length z.c1, .slice z.a2 z.s.fi.length z.c2, .slice z.a3 z.s.co.length z.c3, .int .i64 z.s.rf, .int .i64 z.s.ff, .int .i64 z.s.ft, .int .i64 z.s.cf, .int .i64 z.s.ct]) := rfl
          by_cases hlt : k < m
          · have hkl : k < fg.length := by rw [← HM.out]; exact hlt
            obtain ⟨bb, off, rfl, hcell⟩ := seg_int hg hkl
            obtain ⟨t, ht⟩ : ∃ t, t = fg.getD k 0 := ⟨_, rfl⟩
            have hc0 := hcell k hkl
            rw [← ht] at hc0
            have c0 : wr.cell? ⟨bb, off + k, none⟩ = some (.int .i64 t) := (I.bel.cell (by exact World.block_lt_of_cell? _ _ hc0)).trans hc0
            obtain ⟨b0, b1, b2, b3, b4, b5, b6, b7, b8⟩ := nine_cells J.s
            clear hcell hkl ht hc0
            go_wp2_with fail
            rw [← Hv.out]
            refine (sforg_any z k t wr J.inn).mono ?_
            rintro e w4 ⟨z1, rfl, hz1, o4, hb4⟩
            have Hz1 := hide hz1
            clear hz1
            have I4 := I.call hb4
            have J4 := J.call hb4
            obtain ⟨E, hE⟩ : ∃ E, E = (Grain.sforg z.s k t).2 := ⟨_, rfl⟩
            rw [← hE]
            have HE := hide hE
            have TW : T < wr.heap.size := lt_of_block J.s
            obtain ⟨Y, hY⟩ : ∃ Y, Y = w4.heap.size := ⟨_, rfl⟩
            obtain ⟨W5, hW5⟩ : ∃ W', W' = w4.alloc (so z1) := ⟨_, rfl⟩
            have hbW5 : Below w4.heap.size w4 W5 := by rw [hW5]; exact (Below.refl _ _).alloc (Nat.le_refl _) _
            have I5 := I4.call hbW5
            have J5 := J4.call hbW5
            have Y5 : W5.heap[Y]? = some (so z1) := by rw [hW5, hY]; exact heap_alloc_new w4 _
            have o5 := o4.below_p hbW5
            have HW5 : Hid (W5 = w4.alloc (.cells #[.slice z1.a0 z1.s.se.length z1.c0, .slice z1.a1 z1.s.ra.length z1.c1, .slice z1.a2 z1.s.fi.length z1.c2, .slice z1.a3 z1.s.co.length z1.c3, .int .i64 z1.s.rf, .int .i64 z1.s.ff, .int .i64 z1.s.ft, .int .i64 z1.s.cf, .int .i64 z1.s.ct] 27)) := hW5
            have Hv1 : Hid (z1.v = .agg #[.slice z1.a0 z1.s.se.length z1.c0, .slice z1.a1 z1.s.ra.length z1.c1, .slice z1.a2 z1.s.fi.length z1.c2, .slice z1.a3 z1.s.co.length z1.c3, .int .i64 z1.s.rf, .int .i64 z1.s.ff, .int .i64 z1.s.ft, .int .i64 z1.s.cf, .int .i64 z1.s.ct]) := rfl
            have HY := hide hY
            rw [Hv1.out]
            clear b0 b1 b2 b3 b4 b5 b6 b7 b8 hW5 hY hE hb4 o4 hbW5 c0 I4 J4 I J
            go_upto_region 17 with fail
            rw [← HW5.out, ← HY.out]
            clear HW5 HY
            by_cases hE0 : E = 0
            · subst hE0
              have K3 : Hid (Grain.Keeps z1.s l ∧ (k + 1 ≤ 2 → z1.s.cf = 0)) := by
                show _ ∧ _
                rw [Hz1.out]
                exact ⟨Grain.keeps_forg K.out.1 HE.out.symm, fun hh => by rw [Grain.sforg_cf (by omega) HE.out.symm]; exact K.out.2 (by omega)⟩
              have J6 := J5.put o5 TW
              have I6 := I5.far HST.out oy (.slice z1.a0 z1.s.se.length z1.c0) (.slice z1.a1 z1.s.ra.length z1.c1) (.slice z1.a2 z1.s.fi.length z1.c2) (.slice z1.a3 z1.s.co.length z1.c3) (.int .i64 z1.s.rf) (.int .i64 z1.s.ff) (.int .i64 z1.s.ft) (.int .i64 z1.s.cf) (.int .i64 z1.s.ct)
              obtain ⟨W6, hW6⟩ : ∃ W', W' = Set9 W5 T (.slice z1.a0 z1.s.se.length z1.c0) (.slice z1.a1 z1.s.ra.length z1.c1) (.slice z1.a2 z1.s.fi.length z1.c2) (.slice z1.a3 z1.s.co.length z1.c3) (.int .i64 z1.s.rf) (.int .i64 z1.s.ff) (.int .i64 z1.s.ft) (.int .i64 z1.s.cf) (.int .i64 z1.s.ct) := ⟨_, rfl⟩
              rw [← hW6] at J6 I6
              have HW6 : Hid ((((((((((W5.setCell ⟨T, 0, none⟩ (.slice z1.a0 z1.s.se.length z1.c0)).setCell ⟨T, 1, none⟩ (.slice z1.a1 z1.s.ra.length z1.c1)).setCell ⟨T, 2, none⟩ (.slice z1.a2 z1.s.fi.length z1.c2)).setCell ⟨T, 3, none⟩ (.slice z1.a3 z1.s.co.length z1.c3)).setCell ⟨T, 4, none⟩ (.int .i64 z1.s.rf)).setCell ⟨T, 5, none⟩ (.int .i64 z1.s.ff)).setCell ⟨T, 6, none⟩ (.int .i64 z1.s.ft)).setCell ⟨T, 7, none⟩ (.int .i64 z1.s.cf)).setCell ⟨T, 8, none⟩ (.int .i64 z1.s.ct)) = W6) := hW6.symm
              obtain ⟨b0, b1, b2, b3, b4, b5, b6, b7, b8⟩ := nine_cells Y5
              obtain ⟨g0, g1, g2, g3, g4, g5, g6, g7, g8⟩ := nine_cells J5.s
              obtain ⟨f0, f1, f2, f3, f4, f5, f6, f7, f8⟩ := so_free J5.s
              clear hW6 Hz1 I5 J5 Y5 o5 K HE
              go_wp2
              rw [HW6.out]
              go_roundw
              case rel => exact ⟨k + 1, z1, by omega, by go_num, I6, J6, K3⟩
              case measure => simp [intOf]; omega
            · have hne : (E != 0) = true := by simpa using hE0
              have F := hide (mpost_no I5 l m)
              obtain ⟨b0, b1, b2, b3, b4, b5, b6, b7, b8⟩ := nine_cells I5.s
              obtain ⟨g0, g1, g2, g3, g4, g5, g6, g7, g8⟩ := sz_cells I5.r
              obtain ⟨f0, f1, f2, f3, f4, f5, f6, f7, f8⟩ := so_free I5.r
              go_wp2
              exact bodyPost_ret (v := .tuple #[.agg #[.slice y.a0 y.s.se.length y.c0, .slice y.a1 y.s.ra.length y.c1, .slice y.a2 y.s.fi.length y.c2, .slice y.a3 y.s.co.length y.c3, .int .i64 y.s.rf, .int .i64 y.s.ff, .int .i64 y.s.ft, .int .i64 y.s.cf, .int .i64 y.s.ct], .bool false]) (by simp [results, Try.results11, go_sem, g0, g1, g2, g3, g4, g5, g6, g7, g8]) rfl F.out
          · have F : Hid (MPost w l m (.returned (.tuple #[.agg #[.slice z.a0 z.s.se.length z.c0, .slice z.a1 z.s.ra.length z.c1, .slice z.a2 z.s.fi.length z.c2, .slice z.a3 z.s.co.length z.c3, .int .i64 z.s.rf, .int .i64 z.s.ff, .int .i64 z.s.ft, .int .i64 z.s.cf, .int .i64 z.s.ct], .bool true])) (Set9 wr R (.slice z.a0 z.s.se.length z.c0) (.slice z.a1 z.s.ra.length z.c1) (.slice z.a2 z.s.fi.length z.c2) (.slice z.a3 z.s.co.length z.c3) (.int .i64 z.s.rf) (.int .i64 z.s.ff) (.int .i64 z.s.ft) (.int .i64 z.s.cf) (.int .i64 z.s.ct))) :=
              ⟨z, true, rfl, ShIn.set9 J.inn J.offR _ _ _ _ _ _ _ _ _, J.cap, below_set9 J.bel J.wR _ _ _ _ _ _ _ _ _, fun _ => ⟨K.out.1, fun hh => K.out.2 (by omega)⟩⟩
            obtain ⟨b0, b1, b2, b3, b4, b5, b6, b7, b8⟩ := nine_cells J.s
            obtain ⟨g0, g1, g2, g3, g4, g5, g6, g7, g8⟩ := sz_cells J.r
            obtain ⟨f0, f1, f2, f3, f4, f5, f6, f7, f8⟩ := so_free J.r
            go_wp2
            exact bodyPost_ret (v := .tuple #[.agg #[.slice z.a0 z.s.se.length z.c0, .slice z.a1 z.s.ra.length z.c1, .slice z.a2 z.s.fi.length z.c2, .slice z.a3 z.s.co.length z.c3, .int .i64 z.s.rf, .int .i64 z.s.ff, .int .i64 z.s.ft, .int .i64 z.s.cf, .int .i64 z.s.ct], .bool true]) (by simp [results, Try.results11, go_sem, g0, g1, g2, g3, g4, g5, g6, g7, g8]) rfl F.out
      · have hne : (E != 0) = true := by simpa using hE0
        have F := hide (mpost_no I3 l m)
        obtain ⟨b0, b1, b2, b3, b4, b5, b6, b7, b8⟩ := nine_cells I3.s
        obtain ⟨g0, g1, g2, g3, g4, g5, g6, g7, g8⟩ := sz_cells I3.r
        obtain ⟨f0, f1, f2, f3, f4, f5, f6, f7, f8⟩ := so_free I3.r
        go_wp2
        exact bodyPost_ret (v := .tuple #[.agg #[.slice y.a0 y.s.se.length y.c0, .slice y.a1 y.s.ra.length y.c1, .slice y.a2 y.s.fi.length y.c2, .slice y.a3 y.s.co.length y.c3, .int .i64 y.s.rf, .int .i64 y.s.ff, .int .i64 y.s.ft, .int .i64 y.s.cf, .int .i64 y.s.ct], .bool false]) (by simp [results, Try.results11, go_sem, g0, g1, g2, g3, g4, g5, g6, g7, g8]) rfl F.out

end Go.Proofs.Ytfgablhgjbjbkaf

/-
  Whichever parts are read, it is exact; what is chosen is cheap; nothing is gone until the coarse is. No program is named here.
-/
namespace Grain

theorem chs_gone {s : Shf} (sr : SR s) (hc : s.cf = 0) {t : Int} (ht : t ≤ 1000000) (h1 : t % 60 = 0 ∨ s.ct ≤ t) (h2 : t % 10 = 0 ∨ s.ft ≤ t) : ∀ (n : Nat) (a : Int) (out : List Pt), 0 ≤ a → (a % 60 = 0 ∨ s.ct ≤ a) → (a % 10 = 0 ∨ s.ft ≤ a) → (chs s t n a out).2 = 0 := by
  have f1 := sr.fsp
  have f2 := sr.csp
  have f3 := sr.bd
  intro n
  induction n with
  | zero => intro a out _ _ _; rfl
  | succ n ih =>
    intro a out h0 h3 h4
    by_cases e : a < t
    · rw [chs, if_pos e]
      by_cases c1 : a < s.ct
      · have m : may s ⟨2, a, a + 60⟩ = true := by
          unfold may
          rw [if_neg (by simp only; omega), if_neg (by simp), if_neg (by simp), if_pos rfl]
          simp only [decide_eq_true_eq]
          omega
        have en : nxt s a t = ⟨2, a, a + 60⟩ := by
          rw [nxt, if_pos ⟨by omega, m⟩]
        rw [en, if_pos m]
        exact ih _ _ (by simp only; omega) (by simp only; omega) (by simp only; omega)
      · have nm : ¬ (a + 60 ≤ t ∧ may s ⟨2, a, a + 60⟩ = true) := by
          rintro ⟨_, m⟩
          unfold may at m
          rw [if_neg (by simp only; omega), if_neg (by simp), if_neg (by simp), if_pos rfl] at m
          simp only [decide_eq_true_eq] at m
          omega
        by_cases c2 : a < s.ft
        · have m : may s ⟨1, a, a + 10⟩ = true := by
            unfold may
            rw [if_neg (by simp only; omega), if_neg (by simp), if_pos rfl]
            simp only [decide_eq_true_eq]
            omega
          have en : nxt s a t = ⟨1, a, a + 10⟩ := by
            rw [nxt, if_neg nm, if_pos ⟨by omega, m⟩]
          rw [en, if_pos m]
          exact ih _ _ (by simp only; omega) (by simp only; omega) (by simp only; omega)
        · have nm2 : ¬ (a + 10 ≤ t ∧ may s ⟨1, a, a + 10⟩ = true) := by
            rintro ⟨_, m⟩
            unfold may at m
            rw [if_neg (by simp only; omega), if_neg (by simp), if_pos rfl] at m
            simp only [decide_eq_true_eq] at m
            omega
          have en : nxt s a t = ⟨0, a, t⟩ := by
            rw [nxt, if_neg nm, if_neg nm2, if_pos (by omega)]
          have m : may s ⟨0, a, t⟩ = true := by
            unfold may
            rw [if_neg (by simp only; omega), if_pos rfl]
            simp only [decide_eq_true_eq]
            omega
          rw [en, if_pos m]
          exact ih _ _ (by simp only; omega) (by simp only; omega) (by simp only; omega)
    · rw [chs_end e]

theorem choose_gets {s : Shf} (sr : SR s) (hc : s.cf = 0) {f t : Int} (h0 : 0 ≤ f) (hft : f ≤ t) (ht : t ≤ 1000000) (hf : f % 60 = 0) (h1 : t % 60 = 0 ∨ s.ct ≤ t) (h2 : t % 10 = 0 ∨ s.ft ≤ t) : (choose s f t).2 = 0 := by
  unfold choose
  rw [if_neg (by simp [(sr_iff s).2 sr]), if_neg (by omega)]
  exact chs_gone sr hc ht h1 h2 _ _ _ h0 (.inl hf) (.inl (by omega))

theorem win_win {A : List (Int × Int)} {a b f t : Int} (h1 : a ≤ f) (h2 : t ≤ b) : win (win A a b) f t = win A f t := by
  simp only [win, List.filter_filter]
  congr 1
  funext x
  simp
  omega

theorem inB_at {st : Int} (hst : st = 10 ∨ st = 60) {A : List (Int × Int)} (hA : Took A) {a b f t : Int} (h0 : 0 ≤ a) (hab : a ≤ b) (hb : b ≤ 1000000) (hf : f % st = 0) (ht : t % st = 0) (h1 : a ≤ f) (h2 : t ≤ b) : inB (up (win A a b) st) f t = of (win A f t) := by
  have e1 : f = f / st * st := by rcases hst with e | e <;> subst e <;> omega
  have e2 : t = t / st * st := by rcases hst with e | e <;> subst e <;> omega
  have := inB_up hst (f / st) (t / st) (win A a b) (hA.win_len hb h0 hab)
  rw [← e1, ← e2] at this
  rw [this, win_win h1 h2]

theorem may_cases {s : Shf} {p : Pt} (h : may s p = true) : p.k = 0 ∧ s.rf ≤ p.f ∨ p.k = 1 ∧ p.f % 10 = 0 ∧ p.t % 10 = 0 ∧ s.ff ≤ p.f ∧ p.t ≤ s.ft ∨ p.k = 2 ∧ p.f % 60 = 0 ∧ p.t % 60 = 0 ∧ s.cf ≤ p.f ∧ p.t ≤ s.ct := by
  have hl := may_lt h
  unfold may at h
  rw [if_neg (by omega)] at h
  by_cases k0 : p.k = 0
  · rw [if_pos k0] at h; simp at h; exact .inl ⟨k0, h.1⟩
  · rw [if_neg k0] at h
    by_cases k1 : p.k = 1
    · rw [if_pos k1] at h; simp at h; exact .inr (.inl ⟨k1, h⟩)
    · rw [if_neg k1] at h
      by_cases k2 : p.k = 2
      · rw [if_pos k2] at h; simp at h; exact .inr (.inr ⟨k2, h⟩)
      · rw [if_neg k2] at h; cases h

theorem psum_exact {s : Shf} {A : List (Int × Int)} (h : Keeps s A) {p : Pt} (m : may s p = true) : psum s p = of (win A p.f p.t) := by
  have f1 := h.sr.fsp
  have f2 := h.sr.csp
  unfold psum
  rcases may_cases m with ⟨k, h1⟩ | ⟨k, h1, h2, h3, h4⟩ | ⟨k, h1, h2, h3, h4⟩
  · rw [if_neg (by omega), if_neg (by omega), h.ra, win_ra h1]
  · rw [if_pos k, h.fi]
    exact inB_at (.inl rfl) h.took f1.2.2.1 f1.2.2.2.1 f1.2.2.2.2 h1 h2 h3 h4
  · rw [if_neg (by omega), if_pos k, h.co]
    exact inB_at (.inr rfl) h.took f2.2.2.1 f2.2.2.2.1 f2.2.2.2.2 h1 h2 h3 h4

theorem win_empty (A : List (Int × Int)) (f : Int) : win A f f = [] := by
  unfold win
  rw [List.filter_eq_nil_iff]
  intro x _
  simp

theorem rdS_exact {s : Shf} {A : List (Int × Int)} (h : Keeps s A) {f : Int} : ∀ (l : List Pt) (t : Int), cvr s l f t = true → rdS s l = of (win A f t) := by
  refine snoc_ind ?_ ?_
  · intro t hc
    simp [cvr] at hc
    subst hc
    rw [win_empty]; rfl
  · intro r p ih t hc
    obtain ⟨h1, h2, h3⟩ := cvr_snoc s p r f t hc
    subst h3
    have l1 := cvr_le s r f p.f h1
    have l2 := may_lt h2
    rw [rdS_snoc, ih _ h1, psum_exact h h2, win_split (f := f) (m := p.f) (t := p.t) l1 (by omega) A h.took.pw, of_append _ _ (by have := win_len A f p.f; have := h.took.len; omega) (by have := win_len A p.f p.t; have := h.took.len; omega)]

/-- buckets in a window -/
theorem up_winG {st f m n t : Int} (hst : st = 10 ∨ st = 60) (hf : f % st = 0) (hm : m % st = 0) (hn : n % st = 0) (h1 : f ≤ m) (h2 : m ≤ n) (h3 : n ≤ t) {A : List (Int × Int)} (h : Took A) :
    winB (up (win A f t) st) m n = up (win A m n) st := by
  rw [up_split hst hm h1 (by omega) h, up_split (f := m) hst hn h2 h3 h]
  simp only [winB, List.filter_append]
  rw [filter_none (fun b hb => by have := up_in hst hf h b hb; simp; omega), filter_all (fun b hb => by have := up_in hst hm h b hb; simp; omega), filter_none (fun b hb => by have := up_in hst hn h b hb; simp; omega)]
  simp

theorem up_fewer (st : Int) {l : List (Int × Int)} (h : l.length ≤ 1000000) : (up l st).length ≤ l.length := by
  have := (up_fit st l h).len
  omega

theorem pcost_cheap {s : Shf} {A : List (Int × Int)} (h : Keeps s A) {p : Pt} (m : may s p = true) (hr : s.rf ≤ p.f) : pcost s p ≤ (win s.ra p.f p.t).length := by
  have f1 := h.sr.fsp
  have f2 := h.sr.csp
  have hl := may_lt m
  unfold pcost
  rcases may_cases m with ⟨k, h1⟩ | ⟨k, h1, h2, h3, h4⟩ | ⟨k, h1, h2, h3, h4⟩
  · rw [if_neg (by omega), if_neg (by omega)]
    exact Nat.le_refl _
  · rw [if_pos k, h.fi, up_winG (.inl rfl) f1.1 h1 h2 h3 (by omega) h4 h.took, h.ra, win_ra hr]
    exact up_fewer _ (h.took.win_len (by omega) (by omega) (by omega))
  · rw [if_neg (by omega), if_pos k, h.co, up_winG (.inr rfl) f2.1 h1 h2 h3 (by omega) h4 h.took, h.ra, win_ra hr]
    exact up_fewer _ (h.took.win_len (by omega) (by omega) (by omega))

theorem rdN_cheap {s : Shf} {A : List (Int × Int)} (h : Keeps s A) {f : Int} (hr : s.rf ≤ f) : ∀ (l : List Pt) (t : Int), cvr s l f t = true → rdN s l ≤ (win s.ra f t).length := by
  refine snoc_ind ?_ ?_
  · intro t hc
    exact Nat.zero_le _
  · intro r p ih t hc
    obtain ⟨h1, h2, h3⟩ := cvr_snoc s p r f t hc
    subst h3
    have l1 := cvr_le s r f p.f h1
    have l2 := may_lt h2
    rw [rdN_snoc, win_split (f := f) (m := p.f) (t := p.t) l1 (by omega) s.ra h.sr.rpw, List.length_append]
    have := ih _ h1
    have := pcost_cheap h h2 (by omega)
    omega

end Grain

/-
  The walk of PlanGone.
-/
namespace Go.Proofs.Ytfgablhgjbjbkaf
open Go.RowKit Go.GrainU

set_option maxRecDepth 20000 in
set_option maxHeartbeats 8000000 in
theorem pgone_any (l : List (Int × Int)) (ao : Option Addr) (n c : Nat) (rolled raw fine f t : Int) (w : World) (hs : Seg w ao (scells l)) (hn : n = l.length) (hL : n ≤ 4611686018427387904) :
    Calls Try.prog 6 #[.slice ao n c, .int .i64 rolled, .int .i64 raw, .int .i64 fine, .int .i64 f, .int .i64 t] w fun e w' => e = .returned (.bool true) ∧ Below w.heap.size w w' := by
  have HN := hide hn
  clear hn
  go_enter Try.func6, Try.ntmps6
  go_wp2_with fail
  refine (palive_any w).mono ?_
  rintro e w1 ⟨rfl, hb1⟩
  obtain ⟨W1, hW1⟩ : ∃ W, W = w1.alloc (.cells #[.int .i64 raw, .int .i64 fine] 3) := ⟨_, rfl⟩
  have hbW1 : Below w1.heap.size w1 W1 := by rw [hW1]; exact (Below.refl _ _).alloc (Nat.le_refl _) _
  have G1 : W1.heap[w1.heap.size]? = some (.cells #[.int .i64 raw, .int .i64 fine] 3 (0, 0)) := by rw [hW1]; exact heap_alloc_new w1 _
  have seg1 : Seg W1 (some ⟨w1.heap.size, 0, none⟩) (icells [raw, fine]) := by
    refine .inr ⟨w1.heap.size, 0, rfl, fun j hj => ?_⟩
    have hj2 : j < 2 := hj
    rw [cell_of_row W1 w1.heap.size _ _ 3 (0, 0) G1]
    rcases (show j = 0 ∨ j = 1 by omega) with rfl | rfl <;> rfl
  have bel1 : Below w.heap.size w W1 := below_pl hbW1 hb1
  have segl := hs.below bel1
  have HW1 := hide hW1
  clear hb1 hW1 hbW1 G1
  go_wp2_with fail
  rw [← HW1.out]
  refine (made_any l ao n c rolled [raw, fine] _ 2 2 W1 segl HN.out hL seg1 rfl (by decide)).mono ?_
  rintro e w2 ⟨y, ok, rfl, in2, cap2, hb2, HK⟩
  have bel2 : Below w.heap.size w w2 := below_pl hb2 bel1
  obtain ⟨B, hB⟩ : ∃ B, B = w2.heap.size := ⟨_, rfl⟩
  obtain ⟨W3, hW3⟩ : ∃ W, W = w2.alloc (so y) := ⟨_, rfl⟩
  have hb3 : Below w2.heap.size w2 W3 := by rw [hW3]; exact (Below.refl _ _).alloc (Nat.le_refl _) _
  have F3 : W3.heap[B]? = some (so y) := by rw [hW3, hB]; exact heap_alloc_new w2 _
  have in3 := in2.below hb3
  have bel3 : Below w.heap.size w W3 := below_pl hb3 bel2
  have HW3 : Hid (W3 = w2.alloc (.cells #[.slice y.a0 y.s.se.length y.c0, .slice y.a1 y.s.ra.length y.c1, .slice y.a2 y.s.fi.length y.c2, .slice y.a3 y.s.co.length y.c3, .int .i64 y.s.rf, .int .i64 y.s.ff, .int .i64 y.s.ft, .int .i64 y.s.cf, .int .i64 y.s.ct] 27)) := hW3
  have Hv : Hid (y.v = .agg #[.slice y.a0 y.s.se.length y.c0, .slice y.a1 y.s.ra.length y.c1, .slice y.a2 y.s.fi.length y.c2, .slice y.a3 y.s.co.length y.c3, .int .i64 y.s.rf, .int .i64 y.s.ff, .int .i64 y.s.ft, .int .i64 y.s.cf, .int .i64 y.s.ct]) := rfl
  have HB := hide hB
  rw [Hv.out]
  clear hW3 hB hb2 hb3 in2 seg1 segl bel1 bel2 HW1
  go_upto_region 4 with fail
  rw [← HW3.out, ← HB.out]
  clear HW3 HB
  obtain ⟨b0, b1, b2, b3, b4, b5, b6, b7, b8⟩ := nine_cells F3
  cases ok
  · go_wp2
    go_ret
    exact ⟨rfl, bel3⟩
  · have K := hide (HK.out rfl)
    clear HK
    by_cases h1 : f < 0
    · go_wp2
      go_ret
      exact ⟨rfl, bel3⟩
    · by_cases h2 : t < f
      · go_wp2
        go_ret
        exact ⟨rfl, bel3⟩
      · by_cases h3 : 1000000 < t
        · go_wp2
          go_ret
          exact ⟨rfl, bel3⟩
        · have f0 : 0 ≤ f := by omega
          have t0 : 0 ≤ t := by omega
          have ft : f ≤ t := by omega
          have t1 : t ≤ 1000000 := by omega
          by_cases h4 : f % 60 = 0
          · have e4 : (f % 60 != 0) = false := by simpa using h4
            by_cases h5 : t % 60 = 0 ∨ y.s.ct ≤ t
            · by_cases h6 : t % 10 = 0 ∨ y.s.ft ≤ t
              · have HC : Hid ((Grain.choose y.s f t).2 = 0) := Grain.choose_gets K.out.1.sr (K.out.2 (by decide)) f0 ft t1 h4 h5 h6
                obtain ⟨r, hr⟩ : ∃ r, r = Grain.choose y.s f t := ⟨_, rfl⟩
                rw [← hr] at HC
                have HR := hide hr
                have H5 := hide h5
                have H6 := hide h6
                clear hr h5 h6
                by_cases q1 : t % 60 = 0
                · have e5 : (t % 60 != 0) = false := by simpa using q1
                  by_cases q2 : t % 10 = 0
                  · have e6 : (t % 10 != 0) = false := by simpa using q2
                    go_wp2_with fail
                    rw [← Hv.out]
                    refine (choose_any y f t r W3 in3 HR.out).mono ?_
                    rintro e w4 ⟨co, m, d, rfl, own4, hm4, hb4⟩
                    rw [HC.out]
                    go_wp2
                    go_ret
                    exact ⟨rfl, below_pl hb4 bel3⟩
                  · exfalso; omega
                · have e5 : (t % 60 != 0) = true := by simpa using q1
                  have q4 : y.s.ct ≤ t := by have := H5.out; omega
                  by_cases q2 : t % 10 = 0
                  · have e6 : (t % 10 != 0) = false := by simpa using q2
                    go_wp2_with fail
                    rw [← Hv.out]
                    refine (choose_any y f t r W3 in3 HR.out).mono ?_
                    rintro e w4 ⟨co, m, d, rfl, own4, hm4, hb4⟩
                    rw [HC.out]
                    go_wp2
                    go_ret
                    exact ⟨rfl, below_pl hb4 bel3⟩
                  · have e6 : (t % 10 != 0) = true := by simpa using q2
                    have q3 : y.s.ft ≤ t := by have := H6.out; omega
                    go_wp2_with fail
                    rw [← Hv.out]
                    refine (choose_any y f t r W3 in3 HR.out).mono ?_
                    rintro e w4 ⟨co, m, d, rfl, own4, hm4, hb4⟩
                    rw [HC.out]
                    go_wp2
                    go_ret
                    exact ⟨rfl, below_pl hb4 bel3⟩
              · have q2 : (t % 10 != 0) = true := by simp; omega
                have q3 : t < y.s.ft := by omega
                by_cases q1 : t % 60 = 0
                · exfalso; omega
                · have e5 : (t % 60 != 0) = true := by simpa using q1
                  have q4 : y.s.ct ≤ t := by omega
                  go_wp2
                  go_ret
                  exact ⟨rfl, bel3⟩
            · have q1 : (t % 60 != 0) = true := by simp; omega
              have q4 : t < y.s.ct := by omega
              go_wp2
              go_ret
              exact ⟨rfl, bel3⟩
          · have e4 : (f % 60 != 0) = true := by simpa using h4
            go_wp2
            go_ret
            exact ⟨rfl, bel3⟩

end Go.Proofs.Ytfgablhgjbjbkaf

/-
  For every input, PlanGone returns true: a window that begins with a coarse bucket, and does not end within one, or within a fine one, can be read, whatever raw samples and fine buckets were forgotten. No condition.
-/
namespace Go.Proofs.Ytfgablhgjbjbkaf
open Go.ChangeShapes Go.WideShapes Go.ChangeAt Go.RowKit Go.GrainU

theorem pgonetrods {H : Type} {enc : TypeId × Value → H} {P : Program} {w : World} {base : Nat} {sp : Nat → Bool} {held : Bool} {t0 t1 t2 t3 t4 t5 : TypeId} {args : Array Value} {ds : List (DataW H)} {p : List MemPlace} (h : DataW.TrodAll enc P w base sp held [t0, t1, t2, t3, t4, t5] args.toList ds p) :
    ∃ v0 v1 v2 v3 v4 v5 d0 d1 d2 d3 d4 d5 p0 p1 p2 p3 p4 p5, args = #[v0, v1, v2, v3, v4, v5] ∧ ds = [d0, d1, d2, d3, d4, d5] ∧ p = p0 ++ (p1 ++ (p2 ++ (p3 ++ (p4 ++ (p5 ++ ([])))))) ∧ DataW.Trod enc P w base sp held t0 v0 d0 p0 ∧ DataW.Trod enc P w base sp held t1 v1 d1 p1 ∧ DataW.Trod enc P w base sp held t2 v2 d2 p2 ∧ DataW.Trod enc P w base sp held t3 v3 d3 p3 ∧ DataW.Trod enc P w base sp held t4 v4 d4 p4 ∧ DataW.Trod enc P w base sp held t5 v5 d5 p5 := by
  obtain ⟨v0, vs0, d0, ds0, p0, q0, e0, rfl, rfl, h0, r0⟩ := trodAll_cons h
  obtain ⟨v1, vs1, d1, ds1, p1, q1, e1, rfl, rfl, h1, r1⟩ := trodAll_cons r0
  obtain ⟨v2, vs2, d2, ds2, p2, q2, e2, rfl, rfl, h2, r2⟩ := trodAll_cons r1
  obtain ⟨v3, vs3, d3, ds3, p3, q3, e3, rfl, rfl, h3, r3⟩ := trodAll_cons r2
  obtain ⟨v4, vs4, d4, ds4, p4, q4, e4, rfl, rfl, h4, r4⟩ := trodAll_cons r3
  obtain ⟨v5, vs5, d5, ds5, p5, q5, e5, rfl, rfl, h5, r5⟩ := trodAll_cons r4
  obtain ⟨rfl, rfl, rfl⟩ := trodAll_nil r5
  refine ⟨v0, v1, v2, v3, v4, v5, d0, d1, d2, d3, d4, d5, p0, p1, p2, p3, p4, p5, ?_, rfl, rfl, h0, h1, h2, h3, h4, h5⟩
  cases args
  simp_all

theorem pgone_array {cs : Array Value} {l : List Value} (h : cs.toList = l) : cs = l.toArray := by rw [← h]

set_option maxRecDepth 100000 in
theorem pgone_lifted (os : Os) (started : os.Started) (H : Type) (enc : TypeId × Value → H) :
    ReturnsInHanded {} Try.checked os 6 .any (Rows.planGoneSpec.pre6 enc Try.prog Try.f6 Rows.planGoneRow.domain false) (Rows.planGoneSpec.post enc Try.prog Try.f6 false true false false) := by
  refine returnsInHanded_of_change_sized (C := Try.checked) Try.own started (by kernel_rfl) Try.func6
    (ChangeSpec.witness6 (enc := enc) (C := Try.checked) false ⟨#[], #[.slice none 0 0, .int .i64 0, .int .i64 0, .int .i64 0, .int .i64 0, .int .i64 0], []⟩ 8 (by kernel_rfl) (by kernel_rfl) (by kernel_rfl) (by kernel_rfl)) ?_
  intro W base args ds gs before hval0 hW hcnd hsz0 _
  have hval : ∀ (j : Nat) t v, Try.f6.params[j]? = some t → args[j]? = some v → Value.okWide Try.prog W .any base t v := hval0
  have hsz : (DataW.weightsEach Try.prog (Try.f6.params.toList ++ Rows.planGoneSpec.plain.varTypes Try.prog) (ds ++ gs)).all (· ≤ reachBytes) = true := hsz0
  have hW' := hW
  obtain ⟨p, q, hA0, hV, rfl, hfz, hnd⟩ := hW
  have hA : DataW.TrodAll enc Try.prog W 0 (fun _ => true) true Try.f6.params.toList args.toList ds p := hA0
  rw [Try.params6] at hA hval hsz
  obtain ⟨v0, v1, v2, v3, v4, v5, d0, d1, d2, d3, d4, d5, p0, p1, p2, p3, p4, p5, rfl, rfl, rfl, h0, h1, h2, h3, h4, h5⟩ := pgonetrods hA
  obtain ⟨rfl, rfl⟩ := trodVars_none hV
  have lt0 : ∀ x ∈ p0, x.block < W.heap.size := by obtain ⟨m, hm⟩ := h0; exact DataW.trod_lt m _ _ _ hm
  obtain ⟨a0, n0, c0, rfl⟩ := okWide_slice Try.underlying24 (hval 0 24 v0 rfl rfl)
  have k0 := h0
  obtain ⟨f0, hf0⟩ := h0
  obtain ⟨l0, e0, s0, b0⟩ := open_smps hf0 (fun k hk => of_decide_eq_true (List.all_eq_true.1 hsz k (DataW.weights_mem_each (j := 0) rfl rfl k hk)))
  obtain ⟨z1, rfl, rfl, rfl, w1⟩ := open_int Try.underlying3 (hval 1 3 v1 rfl rfl) h1
  obtain ⟨z2, rfl, rfl, rfl, w2⟩ := open_int Try.underlying3 (hval 2 3 v2 rfl rfl) h2
  obtain ⟨z3, rfl, rfl, rfl, w3⟩ := open_int Try.underlying3 (hval 3 3 v3 rfl rfl) h3
  obtain ⟨z4, rfl, rfl, rfl, w4⟩ := open_int Try.underlying3 (hval 4 3 v4 rfl rfl) h4
  obtain ⟨z5, rfl, rfl, rfl, w5⟩ := open_int Try.underlying3 (hval 5 3 v5 rfl rfl) h5
  clear hA0 hval0 hsz0 hsz
  refine (pgone_any l0 a0 n0 c0 z1 z2 z3 z4 z5 W s0 e0 (by omega)).mono fun e W' ⟨he, bel⟩ => ?_
  subst he
  exact ⟨_, rfl, _, _, _, [], _, [], hW', trodAll_mk1 (shut_bool Try.underlying4 _), (trodAll_cons_mk (Below.trod Try.laidOut (by kernel_rfl) (of_decide_eq_true (by kernel_rfl)) k0 bel lt0) (trodAll_cons_mk (shut_int Try.underlying3 w1) (trodAll_cons_mk (shut_int Try.underlying3 w2) (trodAll_cons_mk (shut_int Try.underlying3 w3) (trodAll_cons_mk (shut_int Try.underlying3 w4) (trodAll_cons_mk (shut_int Try.underlying3 w5) trodAll_mk0)))))), rfl, bel.frame _, fun h => by cases h⟩

theorem pgone_holds : Rows.PlanGoneSaid :=
  OpenClaim.holds_of_wide 6 Try.f6 rfl rfl rfl rfl rfl rfl rfl ⟨rfl, rfl, rfl, rfl, rfl⟩ rfl rfl rfl rfl rfl (by kernel_rfl) Try.func6 (by kernel_rfl)
    (of_decide_eq_true (by kernel_rfl)) (by unfold Func.isWrapper; first | (rw [if_pos (by decide +kernel)]; kernel_rfl) | (rw [if_neg (by decide +kernel)]; exact ⟨rfl, rfl⟩))
    (fun os started H enc _ => pgone_lifted os started H enc)

end Go.Proofs.Ytfgablhgjbjbkaf
