/-
  The walks of plan's within and its closures, over samples.
-/
import Derived.Test.YtfgablhgjbjbkaePlA
import Derived.Test.YtfgablhgjbjbkaePlS
import Derived.Test.YtfgablhgjbjbkaeShB
import Derived.Deep.RegionHeld3
namespace Go.GrainU
open Go.RowKit

def cutP (pa : Option Addr) (pc p s : Nat) : Option Addr := if pc = p then pa else pa.map (·.add (p * s))

theorem seg_cutP {w : World} {pa : Option Addr} {xs : List Value} {n pc p1 p2 s : Nat} (h : Seg w pa xs) (hl : xs.length = n * s) (hc : n ≤ pc) (h12 : p1 ≤ p2) (h2 : p2 ≤ n) : Seg w (cutP pa pc p1 s) ((xs.take (p2 * s)).drop (p1 * s)) := by
  by_cases hp : p1 = p2
  · left
    subst hp
    rw [List.drop_eq_nil_of_le (by simp; omega)]
  · rcases h with h | ⟨b, off, rfl, h⟩
    · left; rw [h]; simp
    · have e : cutP (some ⟨b, off, none⟩) pc p1 s = some ⟨b, off + p1 * s, none⟩ := by
        unfold cutP
        rw [if_neg (by omega)]
        simp only [Option.map_some]
        rw [show (⟨b, off, none⟩ : Addr).add (p1 * s) = ⟨b, off + p1 * s, none⟩ from by unfold Addr.add; split <;> simp_all]
      rw [e]
      refine .inr ⟨b, off + p1 * s, rfl, fun j hj => ?_⟩
      simp at hj
      have := Nat.mul_le_mul_right s h2
      rw [Nat.add_assoc, h _ (by omega), List.getElem?_drop, List.getElem?_take, if_pos (by omega)]

theorem scells_td (l : List (Int × Int)) : ∀ p1 p2, ((scells l).take (p2 * 2)).drop (p1 * 2) = scells ((l.take p2).drop p1) := by
  have ht : ∀ (l : List (Int × Int)) p, (scells l).take (p * 2) = scells (l.take p) := by
    intro l
    induction l with
    | nil => intro p; simp [scells]
    | cons x r ih =>
      intro p
      cases p with
      | zero => simp [scells]
      | succ p => rw [show (p + 1) * 2 = p * 2 + 1 + 1 by omega]; simp [scells, ih]
  have hd : ∀ (l : List (Int × Int)) p, (scells l).drop (p * 2) = scells (l.drop p) := by
    intro l
    induction l with
    | nil => intro p; simp [scells]
    | cons x r ih =>
      intro p
      cases p with
      | zero => simp
      | succ p => rw [show (p + 1) * 2 = p * 2 + 1 + 1 by omega]; simp [scells, ih]
  intro p1 p2
  rw [ht, hd]

theorem kcells_td (l : List Grain.Bk) : ∀ p1 p2, ((kcells l).take (p2 * 8)).drop (p1 * 8) = kcells ((l.take p2).drop p1) := by
  have ht : ∀ (l : List Grain.Bk) p, (kcells l).take (p * 8) = kcells (l.take p) := by
    intro l
    induction l with
    | nil => intro p; simp [kcells]
    | cons x r ih =>
      intro p
      cases p with
      | zero => simp [kcells]
      | succ p => rw [show (p + 1) * 8 = p * 8 + 1 + 1 + 1 + 1 + 1 + 1 + 1 + 1 by omega]; simp [kcells, kc, ih]
  have hd : ∀ (l : List Grain.Bk) p, (kcells l).drop (p * 8) = kcells (l.drop p) := by
    intro l
    induction l with
    | nil => intro p; simp [kcells]
    | cons x r ih =>
      intro p
      cases p with
      | zero => simp
      | succ p => rw [show (p + 1) * 8 = p * 8 + 1 + 1 + 1 + 1 + 1 + 1 + 1 + 1 by omega]; simp [kcells, kc, ih]
  intro p1 p2
  rw [ht, hd]

end Go.GrainU
namespace Grain

/-- a window of what rises is a piece of it -/
theorem cut_filter {α : Type} (tm : α → Int) {l : List α} {f t : Int} {a b : Nat} (ha : a ≤ l.length) (hb : b ≤ l.length)
    (h1 : ∀ i (hi : i < l.length), tm l[i] < f ↔ i < a) (h2 : ∀ i (hi : i < l.length), tm l[i] < t ↔ i < b) (hft : f ≤ t) : a ≤ b ∧ (l.take b).drop a = l.filter fun x => decide (f ≤ tm x ∧ tm x < t) := by
  have hab : a ≤ b := by
    rcases Nat.lt_or_ge b a with hh | hh
    · have a1 := (h1 b (by omega)).2 hh
      have a2 := (h2 b (by omega)).1 (by omega)
      omega
    · exact hh
  refine ⟨hab, ?_⟩
  have hl : l = (l.take b).take a ++ ((l.take b).drop a ++ l.drop b) := by
    rw [← List.append_assoc, List.take_append_drop, List.take_append_drop]
  conv => rhs; rw [hl]
  rw [List.filter_append, List.filter_append]
  have f1 : ((l.take b).take a).filter (fun x => decide (f ≤ tm x ∧ tm x < t)) = [] := by
    rw [List.filter_eq_nil_iff]
    intro x hx
    obtain ⟨k, hk, rfl⟩ := List.mem_iff_getElem.1 hx
    simp at hk
    have := (h1 k (by omega)).2 (by omega)
    simp
    omega
  have f2 : ((l.take b).drop a).filter (fun x => decide (f ≤ tm x ∧ tm x < t)) = (l.take b).drop a := by
    rw [List.filter_eq_self]
    intro x hx
    obtain ⟨k, hk, rfl⟩ := List.mem_iff_getElem.1 hx
    simp at hk
    have a1 := (h2 (a + k) (by omega)).2 (by omega)
    have a2 : ¬ tm (l[a + k]'(by omega)) < f := fun hh => by have := (h1 (a + k) (by omega)).1 hh; omega
    simp
    omega
  have f3 : (l.drop b).filter (fun x => decide (f ≤ tm x ∧ tm x < t)) = [] := by
    rw [List.filter_eq_nil_iff]
    intro x hx
    obtain ⟨k, hk, rfl⟩ := List.mem_iff_getElem.1 hx
    simp at hk
    have : ¬ tm (l[b + k]'(by omega)) < t := fun hh => by have := (h2 (b + k) (by omega)).1 hh; omega
    simp
    omega
  rw [f1, f2, f3]; simp

end Grain
namespace Go.Proofs.Ytfgablhgjbjbkae
open Go.RowKit Go.GrainU

theorem prt_any (t v : Int) (w : World) : Calls Try.prog 105 #[.agg #[.int .i64 t, .int .i64 v]] w fun e w' => e = .returned (.int .i64 t) ∧ Below w.heap.size w w' := by
  have bel : Below w.heap.size w (w.alloc (.cells #[.int .i64 t, .int .i64 v] 35)) := (Below.refl _ _).alloc (Nat.le_refl _) _
  go_enter Try.func105, Try.ntmps105
  go_wp2
  go_ret
  exact ⟨rfl, bel⟩

set_option maxHeartbeats 2000000 in
theorem wf1_any (l : List (Int × Int)) (ao : Option Addr) (n c Bt Bl Bp i : Nat) (f : Int) (w : World) (hs : Seg w ao (scells l)) (hn : n = l.length) (hi : i < n)
    (ht : w.cell? ⟨Bt, 0, none⟩ = some (.func (.func 105) #[] #[])) (hl : w.cell? ⟨Bl, 0, none⟩ = some (.slice ao n c)) (hf : w.cell? ⟨Bp, 1, none⟩ = some (.int .i64 f)) :
    Calls Try.prog 126 #[.int .i64 i, .pointer (some ⟨Bt, 0, none⟩), .pointer (some ⟨Bl, 0, none⟩), .pointer (some ⟨Bp, 0, none⟩)] w fun e w' => e = .returned (.bool (decide (f ≤ Grain.tm l i))) ∧ Below w.heap.size w w' := by
  have hil : i < l.length := by omega
  obtain ⟨b, off, rfl, hcell⟩ := hs.sample hil
  obtain ⟨T, hT⟩ : ∃ T, T = Grain.tm l i := ⟨_, rfl⟩
  obtain ⟨U, hU⟩ : ∃ U, U = Grain.vl l i := ⟨_, rfl⟩
  obtain ⟨c0, c1⟩ := hcell i hil
  rw [← hT] at c0 ⊢
  rw [← hU] at c1
  have R1 : Below w.heap.size w w.drew := below_drewN (Below.refl _ _) 1
  have HS : Hid (∀ w', Below w.heap.size w w' → w'.cell? ⟨Bt, 0, none⟩ = some (.func (.func 105) #[] #[]) ∧ w'.cell? ⟨Bl, 0, none⟩ = some (.slice (some ⟨b, off, none⟩) n c) ∧ w'.cell? ⟨Bp, 1, none⟩ = some (.int .i64 f) ∧ w'.cell? ⟨b, off + i * 2, none⟩ = some (.int .i64 T) ∧ w'.cell? ⟨b, off + i * 2 + 1, none⟩ = some (.int .i64 U)) :=
    fun w' hb => ⟨(hb.cell (by exact World.block_lt_of_cell? _ _ ht)).trans ht, (hb.cell (by exact World.block_lt_of_cell? _ _ hl)).trans hl, (hb.cell (by exact World.block_lt_of_cell? _ _ hf)).trans hf, (hb.cell (by exact World.block_lt_of_cell? _ _ c0)).trans c0, (hb.cell (by exact World.block_lt_of_cell? _ _ c1)).trans c1⟩
  clear hcell hT hU hs hn hil c0 c1 ht hl hf
  go_enter Try.func126, Try.ntmps126
  go_wp2
  go_region_held3 (fun w' => w'.cell? ⟨Bt, 0, none⟩ = some (.func (.func 105) #[] #[]) ∧ w'.cell? ⟨Bl, 0, none⟩ = some (.slice (some ⟨b, off, none⟩) n c) ∧ w'.cell? ⟨Bp, 1, none⟩ = some (.int .i64 f) ∧ w'.cell? ⟨b, off + i * 2, none⟩ = some (.int .i64 T) ∧ w'.cell? ⟨b, off + i * 2 + 1, none⟩ = some (.int .i64 U)) (exact HS.out _ (by assumption))
    (first | (go_at_call 105; refine (prt_any T U _).mono ?_; rintro e w1 ⟨rfl, hb1⟩; have R2 := below_pl hb1 (by assumption)))
  all_goals
    go_wp2
    go_ret
    exact ⟨rfl, R2⟩

set_option maxHeartbeats 2000000 in
theorem wf2_any (l : List (Int × Int)) (ao : Option Addr) (n c Bt Bl Bp i : Nat) (f : Int) (w : World) (hs : Seg w ao (scells l)) (hn : n = l.length) (hi : i < n)
    (ht : w.cell? ⟨Bt, 0, none⟩ = some (.func (.func 105) #[] #[])) (hl : w.cell? ⟨Bl, 0, none⟩ = some (.slice ao n c)) (hf : w.cell? ⟨Bp, 2, none⟩ = some (.int .i64 f)) :
    Calls Try.prog 127 #[.int .i64 i, .pointer (some ⟨Bt, 0, none⟩), .pointer (some ⟨Bl, 0, none⟩), .pointer (some ⟨Bp, 0, none⟩)] w fun e w' => e = .returned (.bool (decide (f ≤ Grain.tm l i))) ∧ Below w.heap.size w w' := by
  have hil : i < l.length := by omega
  obtain ⟨b, off, rfl, hcell⟩ := hs.sample hil
  obtain ⟨T, hT⟩ : ∃ T, T = Grain.tm l i := ⟨_, rfl⟩
  obtain ⟨U, hU⟩ : ∃ U, U = Grain.vl l i := ⟨_, rfl⟩
  obtain ⟨c0, c1⟩ := hcell i hil
  rw [← hT] at c0 ⊢
  rw [← hU] at c1
  have R1 : Below w.heap.size w w.drew := below_drewN (Below.refl _ _) 1
  have HS : Hid (∀ w', Below w.heap.size w w' → w'.cell? ⟨Bt, 0, none⟩ = some (.func (.func 105) #[] #[]) ∧ w'.cell? ⟨Bl, 0, none⟩ = some (.slice (some ⟨b, off, none⟩) n c) ∧ w'.cell? ⟨Bp, 2, none⟩ = some (.int .i64 f) ∧ w'.cell? ⟨b, off + i * 2, none⟩ = some (.int .i64 T) ∧ w'.cell? ⟨b, off + i * 2 + 1, none⟩ = some (.int .i64 U)) :=
    fun w' hb => ⟨(hb.cell (by exact World.block_lt_of_cell? _ _ ht)).trans ht, (hb.cell (by exact World.block_lt_of_cell? _ _ hl)).trans hl, (hb.cell (by exact World.block_lt_of_cell? _ _ hf)).trans hf, (hb.cell (by exact World.block_lt_of_cell? _ _ c0)).trans c0, (hb.cell (by exact World.block_lt_of_cell? _ _ c1)).trans c1⟩
  clear hcell hT hU hs hn hil c0 c1 ht hl hf
  go_enter Try.func127, Try.ntmps127
  go_wp2
  go_region_held3 (fun w' => w'.cell? ⟨Bt, 0, none⟩ = some (.func (.func 105) #[] #[]) ∧ w'.cell? ⟨Bl, 0, none⟩ = some (.slice (some ⟨b, off, none⟩) n c) ∧ w'.cell? ⟨Bp, 2, none⟩ = some (.int .i64 f) ∧ w'.cell? ⟨b, off + i * 2, none⟩ = some (.int .i64 T) ∧ w'.cell? ⟨b, off + i * 2 + 1, none⟩ = some (.int .i64 U)) (exact HS.out _ (by assumption))
    (first | (go_at_call 105; refine (prt_any T U _).mono ?_; rintro e w1 ⟨rfl, hb1⟩; have R2 := below_pl hb1 (by assumption)))
  all_goals
    go_wp2
    go_ret
    exact ⟨rfl, R2⟩

/-- where a time comes, among rising ones -/
theorem rise_mono {l : List (Int × Int)} (h : l.Pairwise (fun x y => x.1 < y.1)) (f : Int) : ∀ a b, a ≤ b → b < l.length → decide (f ≤ Grain.tm l a) = true → decide (f ≤ Grain.tm l b) = true := by
  intro a b hab hb ha
  rcases Nat.lt_or_ge a b with hl | hl
  · have := List.pairwise_iff_getElem.1 h a b (by omega) hb hl
    simp [Grain.tm, List.getD, List.getElem?_eq_getElem hb, List.getElem?_eq_getElem (show a < l.length by omega)] at ha ⊢
    omega
  · obtain rfl : a = b := by omega
    exact ha

set_option maxHeartbeats 2000000 in
theorem within_any (l : List (Int × Int)) (ao : Option Addr) (n c : Nat) (p : Grain.Pt) (w : World) (hs : Seg w ao (scells l)) (hn : n = l.length) (hc : n ≤ c) (hL : n ≤ 1000000) (hpw : l.Pairwise (fun x y => x.1 < y.1)) (hft : p.f ≤ p.t) :
    Calls Try.prog 104 #[.slice ao n c, .agg #[.int .i64 p.k, .int .i64 p.f, .int .i64 p.t], .func (.func 105) #[] #[]] w fun e w' => ∃ (bo : Option Addr) (m d : Nat), e = .returned (.slice bo m d) ∧ Seg w bo (scells (Grain.win l p.f p.t)) ∧ Hid (m = (Grain.win l p.f p.t).length) ∧ Below w.heap.size w w' := by
  obtain ⟨k, f, t⟩ := p
  simp only at hft
  obtain ⟨X, hX⟩ : ∃ X, X = w.heap.size := ⟨_, rfl⟩
  obtain ⟨V, hV⟩ : ∃ V, V = ((w.alloc (.cells #[.slice ao n c] 31)).alloc (.cells #[.int .i64 k, .int .i64 f, .int .i64 t] 112)).alloc (.cells #[.func (.func 105) #[] #[]] 144) := ⟨_, rfl⟩
  have bel : Below w.heap.size w V := by rw [hV]; exact (((Below.refl _ _).alloc (Nat.le_refl _) _).alloc (by simp) _).alloc (by simp; omega) _
  have B0 : V.heap[X]? = some (.cells #[.slice ao n c] 31 (0, 0)) := by
    rw [hV, hX, Below.heap_alloc _ _ _ (by simp; omega), Below.heap_alloc _ _ _ (by simp)]; exact heap_alloc_new w _
  have B1 : V.heap[X + 1]? = some (.cells #[.int .i64 k, .int .i64 f, .int .i64 t] 112 (0, 0)) := by
    rw [hV, hX, Below.heap_alloc _ _ _ (by simp)]; have := heap_alloc_new (w.alloc (.cells #[.slice ao n c] 31)) (.cells #[.int .i64 k, .int .i64 f, .int .i64 t] 112); rwa [World.size_alloc] at this
  have B2 : V.heap[X + 2]? = some (.cells #[.func (.func 105) #[] #[]] 144 (0, 0)) := by
    rw [hV, hX]; have := heap_alloc_new ((w.alloc (.cells #[.slice ao n c] 31)).alloc (.cells #[.int .i64 k, .int .i64 f, .int .i64 t] 112)) (.cells #[.func (.func 105) #[] #[]] 144); rwa [World.size_alloc, World.size_alloc] at this
  have cL : V.cell? ⟨X, 0, none⟩ = some (.slice ao n c) := by rw [cell_of_row V X _ _ _ (0, 0) B0]; rfl
  have cT : V.cell? ⟨X + 2, 0, none⟩ = some (.func (.func 105) #[] #[]) := by rw [cell_of_row V (X + 2) _ _ _ (0, 0) B2]; rfl
  obtain ⟨p0, p1, p2⟩ := three3 B1
  have lX := lt_of_block B0
  have lX1 := lt_of_block B1
  have lX2 := lt_of_block B2
  have hsV := hs.below bel
  have hE1 := hide (enters (P := Try.prog) (f := 126) Try.func126 (by kernel_rfl) (by kernel_rfl))
  have hE2 := hide (enters (P := Try.prog) (f := 127) Try.func127 (by kernel_rfl) (by kernel_rfl))
  have HA : Hid (∀ W, Below V.heap.size V W → Calls Try.prog 125 #[.int .i64 n, .func (.func 126) #[] #[.pointer (some ⟨X + 2, 0, none⟩), .pointer (some ⟨X, 0, none⟩), .pointer (some ⟨X + 1, 0, none⟩)]] W fun e w' => ∃ r : Nat, r ≤ n ∧ Hid ((∀ t, t < r → decide (f ≤ Grain.tm l t) = false) ∧ ∀ t, r ≤ t → t < n → decide (f ≤ Grain.tm l t) = true) ∧ e = .returned (.int .i64 r) ∧ Below W.heap.size W w') := by
    intro W hb
    refine search_any (fun i => decide (f ≤ Grain.tm l i)) _ _ n W hL hE1 (fun W' i hi hb' => ?_) (fun a b h1 h2 => rise_mono hpw f a b h1 (by omega))
    have hbb := below_pl hb' hb
    exact wf1_any l ao n c (X + 2) X (X + 1) i f W' (hsV.below hbb) hn hi ((hbb.cell (by exact lX2)).trans cT) ((hbb.cell (by exact lX)).trans cL) ((hbb.cell (by exact lX1)).trans p1)
  have HB : Hid (∀ W, Below V.heap.size V W → Calls Try.prog 125 #[.int .i64 n, .func (.func 127) #[] #[.pointer (some ⟨X + 2, 0, none⟩), .pointer (some ⟨X, 0, none⟩), .pointer (some ⟨X + 1, 0, none⟩)]] W fun e w' => ∃ r : Nat, r ≤ n ∧ Hid ((∀ i, i < r → decide (t ≤ Grain.tm l i) = false) ∧ ∀ i, r ≤ i → i < n → decide (t ≤ Grain.tm l i) = true) ∧ e = .returned (.int .i64 r) ∧ Below W.heap.size W w') := by
    intro W hb
    refine search_any (fun i => decide (t ≤ Grain.tm l i)) _ _ n W hL hE2 (fun W' i hi hb' => ?_) (fun a b h1 h2 => rise_mono hpw t a b h1 (by omega))
    have hbb := below_pl hb' hb
    exact wf2_any l ao n c (X + 2) X (X + 1) i t W' (hsV.below hbb) hn hi ((hbb.cell (by exact lX2)).trans cT) ((hbb.cell (by exact lX)).trans cL) ((hbb.cell (by exact lX1)).trans p2)
  have HN := hide hn
  have HV := hide hV
  have HX := hide hX
  have HS := hide hs
  have HPW := hide hpw
  have HFT := hide hft
  have hXV : X ≤ V.heap.size := by omega
  clear hn hV hX hs hsV hE1 hE2 B0 B1 B2 hpw p0 p1 p2 lX1 lX2 hft
  go_enter Try.func104, Try.ntmps104
  go_wp2_with fail
  rw [← HV.out, ← HX.out]
  refine (HA.out V (Below.refl _ _)).mono ?_
  rintro e w1 ⟨r1, hr1, I1, rfl, hb1⟩
  have cL1 := (hb1.cell (p := ⟨X, 0, none⟩) (by exact lX)).trans cL
  clear HA
  go_wp2_with fail
  refine (HB.out w1 hb1).mono ?_
  rintro e w2 ⟨r2, hr2, I2, rfl, hb2⟩
  have bel2 : Below V.heap.size V w2 := below_pl hb2 hb1
  have cL2 := (bel2.cell (p := ⟨X, 0, none⟩) (by exact lX)).trans cL
  have C := Grain.cut_filter (fun x : Int × Int => x.1) (l := l) (f := f) (t := t) (a := r1) (b := r2) (by rw [← HN.out]; exact hr1) (by rw [← HN.out]; exact hr2) (fun i hi => ?c1) (fun i hi => ?c2) HFT.out
  case c1 =>
    have e : Grain.tm l i = l[i].1 := by simp [Grain.tm, List.getD, List.getElem?_eq_getElem hi]
    rw [← e]
    constructor
    · intro h
      rcases Nat.lt_or_ge i r1 with h' | h'
      · exact h'
      · have := I1.out.2 i h' (by rw [HN.out]; exact hi)
        simp at this; omega
    · intro h
      have := I1.out.1 i h
      simp at this; omega
  case c2 =>
    have e : Grain.tm l i = l[i].1 := by simp [Grain.tm, List.getD, List.getElem?_eq_getElem hi]
    rw [← e]
    constructor
    · intro h
      rcases Nat.lt_or_ge i r2 with h' | h'
      · exact h'
      · have := I2.out.2 i h' (by rw [HN.out]; exact hi)
        simp at this; omega
    · intro h
      have := I2.out.1 i h
      simp at this; omega
  obtain ⟨h12, hcut⟩ := C
  obtain ⟨so, hso⟩ : ∃ so, so = cutP ao c r1 2 := ⟨_, rfl⟩
  obtain ⟨sl, hsl⟩ : ∃ sl, sl = r2 - r1 := ⟨_, rfl⟩
  obtain ⟨sd, hsd⟩ : ∃ sd, sd = c - r1 := ⟨_, rfl⟩
  have hseg : Seg w so (scells (Grain.win l f t)) := by
    rw [hso, show Grain.win l f t = (l.take r2).drop r1 from hcut.symm, ← scells_td]
    exact seg_cutP (n := n) HS.out (by rw [scells_length, HN.out]) hc h12 (by omega)
  have hlen : sl = (Grain.win l f t).length := by
    rw [hsl, show Grain.win l f t = (l.take r2).drop r1 from hcut.symm, List.length_drop, List.length_take, ← HN.out]; omega
  have hsl1 : ∀ w, Sem.run Try.prog (Instr.slice 31 (.slice ao n c) (some (.int .i64 r1)) (some (.int .i64 r2)) none) w = .ok (.slice so sl sd) w := by
    intro w
    rw [run_slice_lh (P := Try.prog) (t := 31) (ht := by kernel_rfl) (a := ao) (len := n) (cap := c) (kl := .i64) (kh := .i64) (l := (r1 : Int)) (h := (r2 : Int)) (h0 := by omega) (h1 := by omega) (h2 := by omega)]
    rw [hso, hsl, hsd]
    simp [sliced, cutP, go_sem]
  have hsl2 : ∀ w, Sem.run Try.prog (Instr.sliceAt 31 (.slice ao n c) (some (.int .i64 r1)) (some (.int .i64 r2)) none) w = .ok (.slice so sl sd) w := by
    intro w
    rw [run_sliceAt_slice (P := Try.prog) (t := 31) (h := by kernel_rfl)]
    exact hsl1 w
  have HG := hide hseg
  have HLn := hide hlen
  clear hso hsl hsd hcut hseg hlen I1 I2 HS HPW
  go_wp2
  go_ret
  exact ⟨so, sl, sd, rfl, HG.out, HLn, by first | exact bel.trans (bel2.mono bel.size) | (rw [← HX.out]; exact bel.trans (bel2.mono hXV))⟩

end Go.Proofs.Ytfgablhgjbjbkae
