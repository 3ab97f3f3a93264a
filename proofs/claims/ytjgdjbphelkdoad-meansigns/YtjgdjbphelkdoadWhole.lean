/-
  For every input, MeanSigns returns true: twice a thing is it and itself; a thing less itself is nothing; nothing more is it; of the same series. No condition.
-/
import Derived.Test.YtjgdjbphelkdoadMeI
import Derived.Test.YtjgdjbphelkdoadRows
import Derived.Test.YtjgdjbphelkdoadLabU
import Derived.Deep.CutRange
import Derived.Deep.RegionHeld3
import Derived.Test.YtjgdjbphelkdoadOpenLines
/-
  The walk of slices.Insert at cells: three roads.
-/
namespace Go.Proofs.Ytjgdjbphelkdoad
open Go.RowKit Go.GrainU Go.Lib

/-- what Insert makes of a row -/
def InsPost (w : World) (base : Nat) (v : Value) (N p : Nat) (xs vs : List Value) (e : Ending) (w' : World) : Prop :=
  ∃ g d, e = .returned (.slice (some ⟨g, 0, none⟩) (N + 1) d) ∧ w'.ownsRow base 44 2 (.slice (some ⟨g, 0, none⟩) (N + 1) d) (N + 1) (xs.take (p * 2) ++ (vs ++ xs.drop (p * 2))) ∧ w.grownBy w' v.ownBlock ∧ (v.ownBlock = some g ∨ w.heap.size ≤ g)

set_option maxRecDepth 100000 in
set_option maxHeartbeats 4000000 in
theorem ins_end (xs : List Value) (base N d vb : Nat) (co : Option Addr) (x y : Value) (w : World) (own : w.ownsRow base 44 2 (.slice co N d) N xs) (hN : N ≤ 8) (hbase : base ≤ w.heap.size) (F : w.heap[vb]? = some (.cells #[x, y] 44 (0, 0))) (hx : x.oneCell' = true) (hy : y.oneCell' = true) :
    Calls Try.prog 62 #[.slice co N d, .int .i64 N, .slice (some ⟨vb, 0, none⟩) 1 1] w (InsPost w base (.slice co N d) N N xs [x, y]) := by
  obtain ⟨i0, hi, hz0, hz1, hz2⟩ := info_parts Try.infoCell
  have hl : xs.length = N * 2 := own.1
  have HT : Hid (xs.take (N * 2) ++ ([x, y] ++ xs.drop (N * 2)) = xs ++ [x, y]) := by
    show _ = _
    rw [List.take_of_length_le (by omega), List.drop_eq_nil_of_le (by omega)]; simp
  have hnw : ∀ j u, [x, y][j]? = some u → w.cell? ((⟨vb, 0, none⟩ : Addr).add j) = some u := by
    obtain ⟨c0, c1, _, _⟩ := two_cells F
    intro j u hu
    rw [show (⟨vb, 0, none⟩ : Addr).add j = ⟨vb, 0 + j, none⟩ from by unfold Addr.add; split <;> simp_all]
    match j, hu with
    | 0, hu => simpa using c0.trans (by simpa using hu)
    | 1, hu => simpa using c1.trans (by simpa using hu)
  have h1 : ∀ u ∈ [x, y], u.oneCell' = true := by
    intro u hu
    simp at hu
    rcases hu with e | e
    · rw [e]; exact hx
    · rw [e]; exact hy
  have HNW := hide hnw
  have H1 := hide h1
  clear hnw h1 hx hy hl
  have hco : ∃ a, co = a := ⟨_, rfl⟩
  cases co with
  | none =>
    have hN0 : N = 0 := by
      rcases own.2 with ⟨_, h⟩ | ⟨g, c, cur, h, _⟩
      · exact h
      · cases h
    subst hN0
    have hd0 : d = 0 := by
      rcases own.2 with ⟨h, _⟩ | ⟨g, c, cur, h, _⟩
      · simpa using h
      · cases h
    subst hd0
    go_enter Try.func62, Try.ntmps62
    go_wp2_with (at_builtin; refine wpList_append_lies _ rfl _ _ 28 rfl base 44 i0 (.agg #[.slice none 0 0, .int .i64 0]) 2 32 Try.underlying28 hi hz0 hz1 hz2 rfl (by decide) _ _ _ rfl own ⟨vb, 0, none⟩ 1 1 [x, y] rfl rfl HNW.out H1.out (by decide) (by unfold maxLen; omega) (by omega) hbase w.heap.size rfl ?_)
    intro g cap w' ownZ grZ hatZ hltZ
    go_wp2
    go_ret
    exact ⟨g, cap, rfl, by rw [HT.out]; exact ownZ, grZ, by rcases hatZ with h | h; exact .inl h; right; omega⟩
  | some ad =>
    have had : ∃ g, ad = ⟨g, 0, none⟩ := by
      rcases own.2 with ⟨h, _⟩ | ⟨g, c, cur, h, _⟩
      · cases h
      · injection h with h1 h2 h3
        injection h1 with h1
        exact ⟨g, h1⟩
    obtain ⟨g0, rfl⟩ := had
    have hcap := (own_cap own).1
    go_enter Try.func62, Try.ntmps62
    go_wp2_with (at_builtin; refine wpList_append_lies _ rfl _ _ 28 rfl base 44 i0 (.agg #[.slice none 0 0, .int .i64 0]) 2 32 Try.underlying28 hi hz0 hz1 hz2 rfl (by decide) _ _ _ rfl own ⟨vb, 0, none⟩ 1 1 [x, y] rfl rfl HNW.out H1.out (by decide) (by unfold maxLen; omega) (by omega) hbase w.heap.size rfl ?_)
    all_goals
      intro g cap w' ownZ grZ hatZ hltZ
      go_wp2
      go_ret
      exact ⟨g, cap, rfl, by rw [HT.out]; exact ownZ, grZ, by rcases hatZ with h | h; exact .inl h; right; omega⟩

set_option maxRecDepth 100000 in
set_option maxHeartbeats 4000000 in
theorem ins_room (xs : List Value) (base N d p vb g : Nat) (x y : Value) (w : World) (own : w.ownsRow base 44 2 (.slice (some ⟨g, 0, none⟩) N d) N xs) (hp : p < N) (hN : N ≤ 8) (hd : N + 1 ≤ d) (F : w.heap[vb]? = some (.cells #[x, y] 44 (0, 0))) (hne : vb ≠ g) (hx : x.oneCell' = true) (hy : y.oneCell' = true) (h1c : ∀ u ∈ xs, u.oneCell' = true) :
    Calls Try.prog 62 #[.slice (some ⟨g, 0, none⟩) N d, .int .i64 p, .slice (some ⟨vb, 0, none⟩) 1 1] w (InsPost w base (.slice (some ⟨g, 0, none⟩) N d) N p xs [x, y]) := by
  obtain ⟨i0, hi, hz0, hz1, hz2⟩ := info_parts Try.infoCell
  have hl : xs.length = N * 2 := own.1
  obtain ⟨cur, hcur⟩ : ∃ cur, w.heap[g]? = some (.cells cur 44 (0, 0)) ∧ cur.size = d * 2 ∧ base ≤ g ∧ d ≤ maxLen := by
    rcases own.2 with ⟨h, _⟩ | ⟨g', c, cur, h, hb, hh, h2, h3, h4, _⟩
    · cases h
    · injection h with h1 _ h5
      injection h1 with h1
      injection h1 with h1 _ _
      subst h1
      subst h5
      exact ⟨cur, hh, h4, hb, h3⟩
  obtain ⟨hG, hGs, hGb, hGm⟩ := hcur
  have hcs : ∀ j, j < xs.length → w.cell? ⟨g, j, none⟩ = xs[j]? := fun j hj => own.cellAt j (by omega)
  have hsp : ∀ j, j < (N + 1) * 2 → (w.cell? ⟨g, j, none⟩).isSome = true := fun j hj => by
    simp [World.cell?, hG]
    omega
  have hfz : ∀ j, w.frozen? ⟨g, j, none⟩ = false := fun j => by simp [World.frozen?, hG]
  obtain ⟨q0, q1, q2, q3⟩ := two_cells F
  have hnw : ∀ j v, [x, y][j]? = some v → w.cell? ((⟨vb, 0, none⟩ : Addr).add j) = some v := by
    intro j u hu
    rw [show (⟨vb, 0, none⟩ : Addr).add j = ⟨vb, 0 + j, none⟩ from by unfold Addr.add; split <;> simp_all]
    match j, hu with
    | 0, hu => simpa using q0.trans (by simpa using hu)
    | 1, hu => simpa using q1.trans (by simpa using hu)
  have h1v : ∀ u ∈ [x, y], u.oneCell' = true := by
    intro u hu
    simp at hu
    rcases hu with e | e
    · rw [e]; exact hx
    · rw [e]; exact hy
  have hsz : (Try.prog.info? 44).map (·.size) = some 2 := by rw [hi]; simp [hz1]
  have hov : ∀ lb cb, (callFunc 88 #[.slice (some ⟨vb, 0, none⟩) 1 1, .slice (some ⟨g, (p + 1) * 2, none⟩) lb cb]).run Try.prog w = .ok (.value (.bool false)) w := fun lb cb => by
    rw [run_callFunc_extern Try.func88 (by kernel_rfl) (by kernel_rfl) (by kernel_rfl) (e := Extern.SlicesOverlaps.overlaps #[28, 28] #[4]) (by kernel_rfl),
      Lib.run_overlaps_apart w 28 4 44 Try.underlying28 2 (fun w => by simp [Go.sizeOf, typeInfo, hi, hz1]) ⟨vb, 0, none⟩ ⟨g, (p + 1) * 2, none⟩ 1 1 lb cb hne 44 44 2 (d * 2) (by simp [World.shape?, F]) (by simp [World.shape?, hG, hGs]) (by omega) q2 (by simp [World.frozen?, F])]
    rfl
  have hdl : (xs.drop (p * 2)).length = (N - p) * 2 := by rw [List.length_drop, hl]; omega
  have hcp1 : ∀ ty dc sc, (Builtin.copy_ #[28, 28] ty #[.slice (some ⟨g, (p + 1) * 2, none⟩) (N - p) dc, .slice (some ⟨g, p * 2, none⟩) (N + 1 - p) sc]).run Try.prog w.drew = .ok (goInt (Nat.min (N + 1 - p) (N - p))) (w.drew.setCells g ((p + 1) * 2) (xs.drop (p * 2))) := fun ty dc sc =>
    run_copy2 w.drew _ _ ty 44 g ((p + 1) * 2) (N - p) dc ⟨g, p * 2, none⟩ (N + 1 - p) sc (xs.drop (p * 2)) Try.underlying28 hsz (by rw [hdl]; simp only [Nat.min_def]; split <;> omega)
      (fun j v hj => by
        rw [Addr.add_lit]
        have hj2 : j < (xs.drop (p * 2)).length := by
          rcases Nat.lt_or_ge j (xs.drop (p * 2)).length with h | h
          · exact h
          · rw [List.getElem?_eq_none h] at hj; cases hj
        rw [List.getElem?_drop] at hj
        exact (hcs (p * 2 + j) (by omega)).trans hj)
      (fun j hj => hsp _ (by omega)) (fun j hj => hfz _) (fun v hv => h1c v (List.mem_of_mem_drop hv))
  obtain ⟨W1, hW1⟩ : ∃ W1, W1 = w.drew.setCells g ((p + 1) * 2) (xs.drop (p * 2)) := ⟨_, rfl⟩
  have hcp2 : ∀ (W : World), (∀ x, W.cell? x = W1.cell? x) → (∀ x, W.frozen? x = W1.frozen? x) → ∀ ty dc, (Builtin.copy_ #[28, 28] ty #[.slice (some ⟨g, p * 2, none⟩) (N + 1 - p) dc, .slice (some ⟨vb, 0, none⟩) 1 1]).run Try.prog W = .ok (goInt (Nat.min 1 (N + 1 - p))) (W.setCells g (p * 2) [x, y]) := fun W hWc hWf ty dc =>
    run_copy2 W _ _ ty 44 g (p * 2) (N + 1 - p) dc ⟨vb, 0, none⟩ 1 1 [x, y] Try.underlying28 hsz (by simp only [Nat.min_def]; split <;> simp; omega)
      (fun j v hj => by
        have := hnw j v hj
        rw [Addr.add_lit] at this ⊢
        rw [hWc, hW1, World.cell?_setCells_out g _ _ _ _ (fun h _ => absurd h hne)]
        exact this)
      (fun j hj => by rw [hWc, hW1]; exact isSome_setCells g _ _ w.drew (fun t ht => hsp ((p + 1) * 2 + t) (by rw [hdl] at ht; omega)) _ (hsp (p * 2 + j) (by simp at hj; omega))) (fun j hj => by rw [hWf, hW1, World.frozen?_setCells]; exact hfz _) h1v
  rw [← hW1] at hcp1
  have hw1 : IntKind.i64.wrap ((p : Int) + 1) = (p : Int) + 1 := by rw [IntKind.wrap_i64]; omega
  have hw2 : IntKind.i64.wrap ((N : Int) + 1) = (N : Int) + 1 := by rw [IntKind.wrap_i64]; omega
  have hz2' : ¬ ((p : Int) = (N : Int)) := by omega
  have htn : ((p : Int) + 1).toNat = p + 1 := by omega
  have htn2 : ((N : Int) + 1).toNat = N + 1 := by omega
  have hb1 : (0 : Int) ≤ (p : Int) + 1 := by omega
  have hb3 : (p : Int) ≤ (N : Int) + 1 := by omega
  have hb5 : (p : Int) ≤ (N : Int) := by omega
  have hb6 : p ≤ N := by omega
  have hb2 : ¬ (d = p + 1) := by omega
  have hb4 : ¬ (d = p) := by omega
  have FIN : Hid (InsPost w base (.slice (some ⟨g, 0, none⟩) N d) N p xs [x, y] (.returned (.slice (some ⟨g, 0, none⟩) (N + 1) d)) (W1.setCells g (p * 2) [x, y])) := by
    obtain ⟨c1, k1, k2⟩ := setCells_block g (xs.drop (p * 2)) ((p + 1) * 2) w.drew cur _ _ (show w.drew.heap[g]? = _ from hG)
    obtain ⟨c2, k3, k4⟩ := setCells_block g [x, y] (p * 2) _ c1 _ _ k1
    refine ⟨g, d, rfl, own_of_cells (cur := c2) (by rw [hW1]; exact k3) hGb hd hGm (by omega) ?_ ?_, ?_, .inl rfl⟩
    · simp [hl]; omega
    · intro j hj
      rw [hW1]
      refine ins_cells (w := w.drew) hl rfl (by omega) hcs hsp j ?_
      simp [hl] at hj; omega
    · rw [hW1]
      exact grown_trans (grown_trans (drew_grown w (some g)) (setCells_grown g _ _ _) (fun k hk => .inl hk)) (setCells_grown g _ _ _) (fun k hk => .inl hk)
  have HOV := hide hov
  have HC1 := hide hcp1
  have HC2 := hide hcp2
  clear hov hcp1 hcp2 hG hGs hGb hGm hcs hsp hfz hnw h1v hdl q0 q1 q2 q3 F own h1c hW1 hl
  go_enter Try.func62, Try.ntmps62
  have hov := HOV.out
  go_wp2_with (simp only [hov])
  clear hov
  go_region_law (refine step_copy_runI rfl _ _ 28 28 rfl (.slice (some ⟨g, (p + 1) * 2, none⟩) (N - p) (d - (p + 1))) (.slice (some ⟨g, p * 2, none⟩) (N + 1 - p) (d - p)) (by simp [Act.eval, Act.put]) (by simp [Act.eval, Act.put]) (HC1.out 3 (d - (p + 1)) (d - p)) ?_)
  go_wp2_with fail
  rw [HC2.out W1 (fun _ => rfl) (fun _ => rfl) 3 (d - p)]
  simp only [Result.andThen]
  rw [Oper.upon_value]
  go_wp2
  go_ret
  exact FIN.out

end Go.Proofs.Ytjgdjbphelkdoad

/-
  The walk of slices.Insert at cells: the fourth road; all roads together.
-/
namespace Go.GrainU
open Go.RowKit Go.Proofs Go.Lib

/-- the cells behind an insertion into a new row -/
theorem ins_cells2 {w : World} {g N p : Nat} {xs vs : List Value} (hl : xs.length = N * 2) (hv : vs.length = 2) (hp : p ≤ N) (hc : ∀ j, j < p * 2 → w.cell? ⟨g, j, none⟩ = xs[j]?) (hs : ∀ j, j < (N + 1) * 2 → (w.cell? ⟨g, j, none⟩).isSome = true) :
    ∀ j, j < (N + 1) * 2 → ((w.setCells g (p * 2) vs).drew.setCells g ((p + 1) * 2) (xs.drop (p * 2))).cell? ⟨g, j, none⟩ = (xs.take (p * 2) ++ (vs ++ xs.drop (p * 2)))[j]? := by
  intro j hj
  have hdl : (xs.drop (p * 2)).length = N * 2 - p * 2 := by rw [List.length_drop, hl]
  have htl : (xs.take (p * 2)).length = p * 2 := by rw [List.length_take, hl]; omega
  rcases Nat.lt_or_ge j (p * 2) with h | h
  · rw [World.cell?_setCells_out _ _ _ _ _ (fun _ _ => .inl (by show j < _; omega))]
    show (w.setCells g (p * 2) vs).cell? _ = _
    rw [World.cell?_setCells_out _ _ _ _ _ (fun _ _ => .inl h), hc j h, List.getElem?_append_left (by omega), List.getElem?_take, if_pos h]
  · rcases Nat.lt_or_ge j (p * 2 + 2) with h' | h'
    · rw [World.cell?_setCells_out _ _ _ _ _ (fun _ _ => .inl (by show j < _; omega))]
      show (w.setCells g (p * 2) vs).cell? _ = _
      have := World.cell?_setCells_in g vs (p * 2) w (fun i hi => hs _ (by omega)) (j - p * 2) (by omega)
      rw [show p * 2 + (j - p * 2) = j by omega] at this
      rw [this, List.getElem?_append_right (by omega), htl, List.getElem?_append_left (by omega), List.getElem?_eq_getElem]
    · have := World.cell?_setCells_in g (xs.drop (p * 2)) ((p + 1) * 2) (w.setCells g (p * 2) vs).drew (fun i hi => isSome_setCells _ _ _ w (fun t ht => hs _ (by omega)) _ (hs _ (by omega))) (j - (p + 1) * 2) (by omega)
      rw [show (p + 1) * 2 + (j - (p + 1) * 2) = j by omega] at this
      rw [this, List.getElem?_append_right (by omega), htl, List.getElem?_append_right (by omega), hv, ← List.getElem?_eq_getElem]
      congr 1
      omega

end Go.GrainU
namespace Go.Proofs.Ytjgdjbphelkdoad
open Go.RowKit Go.GrainU Go.Lib

set_option maxRecDepth 100000 in
set_option maxHeartbeats 4000000 in
theorem ins_grow (xs : List Value) (base N d p vb g : Nat) (x y : Value) (w : World) (own : w.ownsRow base 44 2 (.slice (some ⟨g, 0, none⟩) N d) N xs) (hp : p < N) (hN : N ≤ 8) (hd : d < N + 1) (hbase : base ≤ w.heap.size) (F : w.heap[vb]? = some (.cells #[x, y] 44 (0, 0))) (hx : x.oneCell' = true) (hy : y.oneCell' = true) (h1c : ∀ u ∈ xs, u.oneCell' = true) :
    Calls Try.prog 62 #[.slice (some ⟨g, 0, none⟩) N d, .int .i64 p, .slice (some ⟨vb, 0, none⟩) 1 1] w (InsPost w base (.slice (some ⟨g, 0, none⟩) N d) N p xs [x, y]) := by
  obtain ⟨i0, hi, hz0, hz1, hz2⟩ := info_parts Try.infoCell
  have hl : xs.length = N * 2 := own.1
  have hdN : N ≤ d := (own_cap own).1
  have hcs : ∀ j, j < xs.length → w.cell? ⟨g, j, none⟩ = xs[j]? := fun j hj => own.cellAt j (by omega)
  have hgl : g < w.heap.size := (own_block own).2
  have hvl : vb < w.heap.size := lt_of_block F
  obtain ⟨q0, q1, q2, q3⟩ := two_cells F
  have hnw : ∀ j v, [x, y][j]? = some v → w.cell? ⟨vb, 0 + j, none⟩ = some v := by
    intro j u hu
    match j, hu with
    | 0, hu => simpa using q0.trans (by simpa using hu)
    | 1, hu => simpa using q1.trans (by simpa using hu)
  have h1v : ∀ u ∈ [x, y], u.oneCell' = true := by
    intro u hu
    simp at hu
    rcases hu with e | e
    · rw [e]; exact hx
    · rw [e]; exact hy
  have hsz : (Try.prog.info? 44).map (·.size) = some 2 := by rw [hi]; simp [hz1]
  have hkk : (N : Int) + 1 - (p : Int) = ((N + 1 - p : Nat) : Int) := by omega
  have hik : p + (N + 1 - p) = N + 1 := by omega
  have hold : (Builtin.firstCells i0.size p (.slice (some ⟨g, 0, none⟩) p d)).run Try.prog w.drew = .ok (xs.take (p * 2)).toArray w.drew := by
    rw [hz1]
    exact run_firstCells_some w.drew 2 p ⟨g, 0, none⟩ p d (xs.take (p * 2)) (by rw [List.length_take]; omega) (fun j v hj => by
      rw [Addr.add_lit, Nat.zero_add]
      rw [List.getElem?_take] at hj
      split at hj
      · have hj2 : j < xs.length := by omega
        exact (hcs j hj2).trans hj
      · cases hj)
  obtain ⟨G, hG⟩ : ∃ G, G = grownCap w (N + 1) d 44 := ⟨_, rfl⟩
  obtain ⟨ROW, hROW⟩ : ∃ ROW : Array Value, ROW = (xs.take (p * 2)).toArray ++ Builtin.zeroCells (Value.agg #[.slice none 0 0, .int .i64 0]).cells (N + 1 - p) ++ Builtin.zeroCells (Value.agg #[.slice none 0 0, .int .i64 0]).cells (G - (N + 1)) := ⟨_, rfl⟩
  have hrz : ∀ ty, (Builtin.append_ #[28, 3] ty #[.slice (some ⟨g, 0, none⟩) p d, .int .i64 ((N : Int) + 1 - (p : Int))]).run Try.prog w =
      .ok (.slice (some ⟨w.heap.size, 0, none⟩) (N + 1) G) (w.drew.alloc (.cells ROW 44)) := fun ty => by
    have h := Lib.run_append_grow_zeros w 28 3 ty 44 i0 _ .i64 .i64 Try.underlying28 Try.underlying3 hi hz0 (some ⟨g, 0, none⟩) p d (xs.take (p * 2)) hold (N + 1 - p) (by omega) (by omega) (by omega) (by omega) (by rw [hz2]; omega) (by rw [hz2, hik]; exact growslice_fits hd (by omega))
    rw [hik] at h
    rw [hkk, hROW, hG]
    exact h
  have hGn : N + 1 ≤ G := by rw [hG]; exact grownCap_ge w _ _ _
  have hGm : G ≤ maxLen := by rw [hG]; exact grownCap_le_maxLen w (N + 1) d 44 (by unfold maxLen; omega)
  have hRs : ROW.size = G * 2 := by
    rw [hROW]
    simp [Builtin.zeroCells, Value.cells, hl]
    omega
  have hR0 : ∀ j, j < p * 2 → ROW[j]? = xs[j]? := fun j hj => by
    rw [hROW, Array.getElem?_append_left (by simp [Builtin.zeroCells, Value.cells, hl]; omega), Array.getElem?_append_left (by simp [hl]; omega)]
    simp [hj]
  obtain ⟨W1, hW1⟩ : ∃ W1, W1 = w.drew.alloc (.cells ROW 44) := ⟨_, rfl⟩
  have hN1 : ∀ j, j < (N + 1) * 2 → (W1.cell? ⟨w.heap.size, j, none⟩).isSome = true := fun j hj => by
    rw [hW1, World.cell?_alloc_at (w := w.drew) ROW _ w.heap.size j rfl, Array.getElem?_eq_getElem (by omega)]; rfl
  have hN0 : ∀ j, j < p * 2 → W1.cell? ⟨w.heap.size, j, none⟩ = xs[j]? := fun j hj => by
    rw [hW1, World.cell?_alloc_at (w := w.drew) ROW _ w.heap.size j rfl]; exact hR0 j hj
  have hNf : ∀ j, W1.frozen? ⟨w.heap.size, j, none⟩ = false := fun j => by rw [hW1]; exact World.frozen?_alloc_at (w := w.drew) ROW _ w.heap.size j rfl
  have hOg : ∀ j, W1.cell? ⟨g, j, none⟩ = w.cell? ⟨g, j, none⟩ := fun j => by rw [hW1, World.cell?_alloc_past (w := w.drew) _ g j hgl]; rfl
  have hOv : ∀ j, W1.cell? ⟨vb, j, none⟩ = w.cell? ⟨vb, j, none⟩ := fun j => by rw [hW1, World.cell?_alloc_past (w := w.drew) _ vb j hvl]; rfl
  have hdl : (xs.drop (p * 2)).length = (N - p) * 2 := by rw [List.length_drop, hl]; omega
  have hcpA : ∀ (W : World), (∀ x, W.cell? x = W1.cell? x) → (∀ x, W.frozen? x = W1.frozen? x) → ∀ ty dc, (Builtin.copy_ #[28, 28] ty #[.slice (some ⟨w.heap.size, p * 2, none⟩) (N + 1 - p) dc, .slice (some ⟨vb, 0, none⟩) 1 1]).run Try.prog W = .ok (goInt (Nat.min 1 (N + 1 - p))) (W.setCells w.heap.size (p * 2) [x, y]) := fun W hWc hWf ty dc =>
    run_copy2 W _ _ ty 44 w.heap.size (p * 2) (N + 1 - p) dc ⟨vb, 0, none⟩ 1 1 [x, y] Try.underlying28 hsz (by simp only [Nat.min_def]; split <;> simp; omega)
      (fun j v hj => by rw [Addr.add_lit, hWc, hOv]; exact hnw j v hj)
      (fun j hj => by rw [hWc]; exact hN1 _ (by simp at hj; omega)) (fun j hj => by rw [hWf]; exact hNf _) h1v
  have hbN : g ≠ w.heap.size := by omega
  have hcpB : ∀ (W : World), (∀ z, W.frozen? z = (W1.setCells w.heap.size (p * 2) [x, y]).frozen? z) → (∀ z, W.cell? z = (W1.setCells w.heap.size (p * 2) [x, y]).cell? z) → ∀ ty dc sc, (Builtin.copy_ #[28, 28] ty #[.slice (some ⟨w.heap.size, (p + 1) * 2, none⟩) (N - p) dc, .slice (some ⟨g, p * 2, none⟩) (N - p) sc]).run Try.prog W = .ok (goInt (Nat.min (N - p) (N - p))) (W.setCells w.heap.size ((p + 1) * 2) (xs.drop (p * 2))) := fun W hWf hWc ty dc sc =>
    run_copy2 W _ _ ty 44 w.heap.size ((p + 1) * 2) (N - p) dc ⟨g, p * 2, none⟩ (N - p) sc (xs.drop (p * 2)) Try.underlying28 hsz (by rw [hdl]; simp)
      (fun j v hj => by
        have hj2 : j < (xs.drop (p * 2)).length := by
          rcases Nat.lt_or_ge j (xs.drop (p * 2)).length with h | h
          · exact h
          · rw [List.getElem?_eq_none h] at hj; cases hj
        rw [Addr.add_lit, hWc, World.cell?_setCells_out _ _ _ _ _ (fun h _ => absurd h hbN), hOg]
        rw [List.getElem?_drop] at hj
        exact (hcs (p * 2 + j) (by omega)).trans hj)
      (fun j hj => by rw [hWc]; exact isSome_setCells _ _ _ W1 (fun t ht => hN1 (p * 2 + t) (by simp at ht; omega)) _ (hN1 ((p + 1) * 2 + j) (by omega)))
      (fun j hj => by rw [hWf, World.frozen?_setCells]; exact hNf _) (fun v hv => h1c v (List.mem_of_mem_drop hv))
  have FIN : Hid (InsPost w base (.slice (some ⟨g, 0, none⟩) N d) N p xs [x, y] (.returned (.slice (some ⟨w.heap.size, 0, none⟩) (N + 1) G)) ((W1.setCells w.heap.size (p * 2) [x, y]).drew.setCells w.heap.size ((p + 1) * 2) (xs.drop (p * 2)))) := by
    have k0 : W1.heap[w.heap.size]? = some (.cells ROW 44 (0, 0)) := by rw [hW1]; exact heap_alloc_new w.drew _
    obtain ⟨c1, k1, k2⟩ := setCells_block w.heap.size [x, y] (p * 2) W1 ROW _ _ k0
    obtain ⟨c2, k3, k4⟩ := setCells_block w.heap.size (xs.drop (p * 2)) ((p + 1) * 2) (W1.setCells w.heap.size (p * 2) [x, y]).drew c1 _ _ k1
    refine ⟨w.heap.size, G, rfl, own_of_cells (cur := c2) k3 hbase hGn hGm (by omega) ?_ ?_, ?_, .inr (Nat.le_refl _)⟩
    · simp [hl]; omega
    · intro j hj
      refine ins_cells2 (w := W1) hl rfl (by omega) hN0 hN1 j ?_
      simp [hl] at hj; omega
    · have g1 : w.grownBy W1 (some g) := by rw [hW1]; exact grown_trans (drew_grown w (some g)) (World.grownBy_alloc w.drew _ none) (fun k hk => by cases hk)
      have g2 := grown_trans g1 (setCells_grown w.heap.size [x, y] (p * 2) W1) (fun k hk => .inr (by injection hk with hk; omega))
      have g3 := grown_trans g2 (drew_grown _ none) (fun k hk => by cases hk)
      exact grown_trans g3 (setCells_grown w.heap.size (xs.drop (p * 2)) ((p + 1) * 2) _) (fun k hk => .inr (by injection hk with hk; omega))
  have HRZ := hide hrz
  have HCA := hide hcpA
  have HCB := hide hcpB
  have hw1 : IntKind.i64.wrap ((p : Int) + 1) = (p : Int) + 1 := by rw [IntKind.wrap_i64]; omega
  have hw2 : IntKind.i64.wrap ((N : Int) + 1) = (N : Int) + 1 := by rw [IntKind.wrap_i64]; omega
  have hw3 : IntKind.i64.wrap ((N : Int) + 1 - (p : Int)) = (N : Int) + 1 - (p : Int) := by rw [IntKind.wrap_i64]; omega
  have hz2' : ¬ ((p : Int) = (N : Int)) := by omega
  have hz3 : (d : Int) < (N : Int) + 1 := by omega
  have htn : ((p : Int) + 1).toNat = p + 1 := by omega
  have hb1 : (0 : Int) ≤ (p : Int) + 1 := by omega
  have hb3 : (p : Int) ≤ (N : Int) + 1 := by omega
  have hb5 : (p : Int) ≤ (N : Int) := by omega
  have hb6 : p ≤ N := by omega
  have hb7 : p ≤ d := by omega
  have hGi : ¬ (G = p) := by omega
  have hGim : ¬ (G = p + 1) := by omega
  have hci : ¬ (d = p) := by omega
  have HG := hide (And.intro hGn hGm)
  have hb8 : p ≤ N + 1 := by omega
  clear hrz hcpA hcpB hGn hGm hRs hR0 hN0 hN1 hNf hOg hOv hdl hkk hik hold hROW hG hcs hgl hvl q0 q1 q2 q3 F own h1c h1v hnw hl
  have HRW : Hid (∀ ty, (Builtin.append_ #[28, 3] ty #[.slice (some ⟨g, 0, none⟩) p d, .int .i64 ((N : Int) + 1 - (p : Int))]).run Try.prog w = .ok (.slice (some ⟨w.heap.size, 0, none⟩) (N + 1) G) W1) := fun ty => by rw [hW1]; exact HRZ.out ty
  clear HRZ hW1
  go_enter Try.func62, Try.ntmps62
  go_wp2_with (at_builtin; refine Lib.wpList_append_run _ rfl _ _ _ _ rfl _ _ rfl rfl _ _ (HRW.out _) ?_)
  rw [HCA.out W1 (fun _ => rfl) (fun _ => rfl) 3 (G - p)]
  simp only [Result.andThen]
  rw [Oper.upon_value]
  go_wp2_with fail
  have hn1 := HG.out.1
  go_region_law (refine step_copy_runI rfl _ _ 28 28 rfl (.slice (some ⟨w.heap.size, (p + 1) * 2, none⟩) (N - p) (G - (p + 1))) (.slice (some ⟨g, p * 2, none⟩) (N - p) (d - p)) (by simp [Act.eval, Act.put]) (by simp [Act.eval, Act.put]) (HCB.out (W1.setCells w.heap.size (p * 2) [x, y]).drew (fun _ => rfl) (fun _ => rfl) 3 (G - (p + 1)) (d - p)) ?_)
  go_wp2
  go_ret
  exact FIN.out

/-- Insert, whatever the room -/
theorem ins_any (l : List CT) (c : CT) (base N d p vb cn : Nat) (co : Option Addr) (w : World) (own : OwnC w base 44 (.slice co N d) N l) (hp : p ≤ N) (hN : N ≤ 8) (hbase : base ≤ w.heap.size) (F : w.heap[vb]? = some (.cells #[.slice c.sa cn c.sc, .int .i64 c.v] 44 (0, 0))) (hcn : cn = c.ser.length)
    (hne : (Value.slice co N d).ownBlock ≠ some vb) (hc : SegN w (Value.slice co N d).ownBlock c.sa (lcells c.ser)) :
    Calls Try.prog 62 #[.slice co N d, .int .i64 p, .slice (some ⟨vb, 0, none⟩) 1 1] w fun e w' => ∃ co' d', e = .returned (.slice co' (N + 1) d') ∧ OwnC w' base 44 (.slice co' (N + 1) d') (N + 1) (l.take p ++ c :: l.drop p) ∧ w.grownBy w' (Value.slice co N d).ownBlock := by
  have key : Calls Try.prog 62 #[.slice co N d, .int .i64 p, .slice (some ⟨vb, 0, none⟩) 1 1] w (InsPost w base (.slice co N d) N p (ccells l) [.slice c.sa cn c.sc, .int .i64 c.v]) := by
    by_cases he : p = N
    · rw [he]; exact ins_end (ccells l) base N d vb co _ _ w own.own hN hbase F rfl rfl
    · have hg : ∃ g, co = some ⟨g, 0, none⟩ := by
        rcases own.own.2 with ⟨_, h⟩ | ⟨g, cp, cur, h, _⟩
        · omega
        · injection h with h1 _ _
          exact ⟨g, h1⟩
      obtain ⟨g, rfl⟩ := hg
      by_cases hr : N + 1 ≤ d
      · exact ins_room (ccells l) base N d p vb g _ _ w own.own (by omega) hN hr F (fun e => hne (by simp [Value.ownBlock, e])) rfl rfl (ccells_one l)
      · exact ins_grow (ccells l) base N d p vb g _ _ w own.own (by omega) hN (by omega) hbase F rfl rfl (ccells_one l)
  refine key.mono fun e w' h => ?_
  obtain ⟨g', d', rfl, ow, gr, hat⟩ := h
  have hr : ∀ k, (Value.slice (some ⟨g', 0, none⟩) (N + 1) d').ownBlock = some k → (Value.slice co N d).ownBlock = some k ∨ w.heap.size ≤ k := fun k hk => by
    simp [Value.ownBlock] at hk
    subst hk
    exact hat
  refine ⟨some ⟨g', 0, none⟩, d', rfl, ⟨?_, fun x hx => ?_⟩, gr⟩
  · rw [ccells_append, ccells_take]
    show w'.ownsRow base 44 2 _ _ (_ ++ (.slice c.sa c.ser.length c.sc :: .int .i64 c.v :: ccells (l.drop p)))
    rw [ccells_drop, ← hcn]
    exact ow
  · rcases List.mem_append.1 hx with e | e
    · exact (own.ser x (List.mem_of_mem_take e)).grown gr hr
    · rcases List.mem_cons.1 e with e | e
      · rw [e]; exact hc.grown gr hr
      · exact (own.ser x (List.mem_of_mem_drop e)).grown gr hr

end Go.Proofs.Ytjgdjbphelkdoad

/-
  A cell among cells that rise: where it goes.
-/
namespace Go.GrainU
open Go.RowKit

theorem ct_zero (a : CT) (r : List CT) : ct (a :: r) 0 = a := rfl
theorem ct_succ (a : CT) (r : List CT) (k : Nat) : ct (a :: r) (k + 1) = ct r k := rfl

/-- the cell p with another value -/
def ctw (c : CT) (v : Int) : CT := ⟨c.ser, v, c.sa, c.sc⟩

theorem put_idx (w : ByteArray) (s : Lb) (v : Int) : ∀ l : List CT, Srt (cls l) → ∃ p, p ≤ l.length ∧ (∀ k, k < l.length → (cmpS (ct l k).ser s < 0 ↔ k < p)) ∧
    ((p < l.length ∧ cmpS (ct l p).ser s = 0 ∧ putA w s v (cls l) = if big (tog w (ct l p).v v) = true then none else some (cls (l.set p (ctw (ct l p) (tog w (ct l p).v v))))) ∨
     (¬ (p < l.length ∧ cmpS (ct l p).ser s = 0) ∧ ∀ c : CT, c.cl = (s, v) → putA w s v (cls l) = some (cls (l.take p ++ c :: l.drop p)))) := by
  intro l
  induction l with
  | nil => intro _; exact ⟨0, Nat.le_refl _, fun k hk => by simp at hk, .inr ⟨fun h => by simp at h, fun c hc => by simp [cls, putA, hc]⟩⟩
  | cons a r ih =>
    intro hs
    have hs' : (∀ x ∈ cls r, cmpS a.cl.1 x.1 = -1) ∧ Srt (cls r) := List.pairwise_cons.1 hs
    by_cases ha : cmpS a.ser s < 0
    · obtain ⟨p, hp, hk, hc⟩ := ih hs'.2
      refine ⟨p + 1, by simp; omega, ?_, ?_⟩
      · intro k hk'
        match k with
        | 0 => exact ⟨fun _ => by omega, fun _ => ha⟩
        | k + 1 =>
          rw [ct_succ]
          have := hk k (by simpa using hk')
          omega
      · rw [ct_succ]
        have e : putA w s v (cls (a :: r)) = (putA w s v (cls r)).map (a.cl :: ·) := by
          show putA w s v (a.cl :: cls r) = _
          rw [putA, if_pos (show cmpS a.cl.1 s < 0 from ha)]
        rcases hc with ⟨h1, h2, h3⟩ | ⟨h1, h2⟩
        · refine .inl ⟨by simp; omega, h2, ?_⟩
          rw [e, h3]
          split
          · rfl
          · simp [cls]
        · refine .inr ⟨fun h => h1 ⟨by have := h.1; simp at this; omega, h.2⟩, fun c hc => ?_⟩
          rw [e, h2 c hc]
          simp [cls]
    · refine ⟨0, Nat.zero_le _, ?_, ?_⟩
      · intro k hk'
        refine ⟨fun h => ?_, fun h => by omega⟩
        match k with
        | 0 => exact absurd h ha
        | k + 1 =>
          rw [ct_succ] at h
          have hk2 : k < r.length := by simpa using hk'
          have h1 : cmpS a.ser (ct r k).ser = -1 := hs'.1 (ct r k).cl (List.mem_map_of_mem (ct_mem hk2))
          have h2 : cmpS (ct r k).ser s = -1 := by rcases cmpS_cases (ct r k).ser s with e | ⟨e, _⟩ | e <;> omega
          have := cmpS_trans h1 h2
          omega
      · rw [ct_zero]
        have e : putA w s v (cls (a :: r)) = if cmpS a.ser s = 0 then (if big (tog w a.v v) = true then none else some ((a.ser, tog w a.v v) :: cls r)) else some ((s, v) :: a.cl :: cls r) := by
          show putA w s v (a.cl :: cls r) = _
          rw [putA, if_neg (show ¬ cmpS a.cl.1 s < 0 from ha)]
          rfl
        by_cases h0 : cmpS a.ser s = 0
        · refine .inl ⟨by simp, h0, ?_⟩
          rw [e, if_pos h0]
          rfl
        · refine .inr ⟨fun h => h0 h.2, fun c hc => ?_⟩
          rw [e, if_neg h0]
          simp [cls, hc]

/-- .. and what comes of it rises still -/
theorem put_srt (w : ByteArray) (s : Lb) (v : Int) : ∀ l : List Cl, Srt l → ∀ l', putA w s v l = some l' → Srt l' ∧ (∀ c ∈ l', c.1 = s ∨ c ∈ l) := by
  intro l
  induction l with
  | nil =>
    intro _ l' h
    simp [putA] at h
    subst h
    exact ⟨by simp [Srt], fun c hc => by simp at hc; left; rw [hc]⟩
  | cons a r ih =>
    intro hs l' h
    have hs' : (∀ x ∈ r, cmpS a.1 x.1 = -1) ∧ Srt r := List.pairwise_cons.1 hs
    rw [putA] at h
    split at h
    · rename_i ha
      cases hq : putA w s v r with
      | none => rw [hq] at h; cases h
      | some q =>
        rw [hq] at h
        simp at h
        subst h
        obtain ⟨i1, i2⟩ := ih hs'.2 q hq
        refine ⟨List.pairwise_cons.2 ⟨fun x hx => ?_, i1⟩, fun c hc => ?_⟩
        · rcases i2 x hx with e | e
          · rw [e]; rcases cmpS_cases a.1 s with e' | ⟨e', _⟩ | e' <;> omega
          · exact hs'.1 x e
        · rcases List.mem_cons.1 hc with e | e
          · right; rw [e]; simp
          · rcases i2 c e with e | e
            · exact .inl e
            · right; simp [e]
    · rename_i ha
      split at h
      · rename_i h0
        split at h
        · cases h
        · simp at h
          subst h
          refine ⟨List.pairwise_cons.2 ⟨fun x hx => hs'.1 x hx, hs'.2⟩, fun c hc => ?_⟩
          rcases List.mem_cons.1 hc with e | e
          · left; rw [e]; exact (cmpS_zero _ _).1 h0
          · right; simp [e]
      · rename_i h0
        simp at h
        subst h
        have h1 : cmpS s a.1 = -1 := by
          have := cmpS_back a.1 s
          rcases cmpS_cases a.1 s with e' | ⟨e', _⟩ | e' <;> omega
        refine ⟨List.pairwise_cons.2 ⟨fun x hx => ?_, hs⟩, fun c hc => ?_⟩
        · rcases List.mem_cons.1 hx with e | e
          · rw [e]; exact h1
          · exact cmpS_trans h1 (hs'.1 x e)
        · rcases List.mem_cons.1 hc with e | e
          · left; rw [e]
          · right; exact e

theorem put_fine {w : ByteArray} {s : Lb} {v : Int} (hs : s.length ≤ 4) (hv : -MC ≤ v ∧ v ≤ MC) : ∀ {l : List Cl}, (∀ c ∈ l, Fine c) → ∀ {l'}, putA w s v l = some l' → (∀ c ∈ l', Fine c) ∧ l'.length ≤ l.length + 1 := by
  intro l
  induction l with
  | nil =>
    intro _ l' h
    simp [putA] at h
    subst h
    exact ⟨fun c hc => by simp at hc; rw [hc]; exact ⟨hv.1, hv.2, hs⟩, by simp⟩
  | cons a r ih =>
    intro hf l' h
    have fa := hf a (by simp)
    have fr : ∀ c ∈ r, Fine c := fun c hc => hf c (by simp [hc])
    rw [putA] at h
    split at h
    · cases hq : putA w s v r with
      | none => rw [hq] at h; cases h
      | some q =>
        rw [hq] at h
        simp at h
        subst h
        obtain ⟨i1, i2⟩ := ih fr hq
        refine ⟨fun c hc => ?_, by simp; omega⟩
        rcases List.mem_cons.1 hc with e | e
        · rw [e]; exact fa
        · exact i1 c e
    · split at h
      · split at h
        · cases h
        · rename_i hb
          simp at h
          subst h
          refine ⟨fun c hc => ?_, by simp⟩
          rcases List.mem_cons.1 hc with e | e
          · rw [e]
            have := big_false (by simpa using hb : big (tog w a.2 v) = false)
            exact ⟨this.1, this.2, fa.2.2⟩
          · exact fr c e
      · simp at h
        subst h
        refine ⟨fun c hc => ?_, by simp⟩
        rcases List.mem_cons.1 hc with e | e
        · rw [e]; exact ⟨hv.1, hv.2, hs⟩
        · rcases List.mem_cons.1 e with e | e
          · rw [e]; exact fa
          · exact fr c e

end Go.GrainU

/-
  The walk of allOf.
-/
namespace Go.GrainU
open Go.RowKit

theorem ccells_set : ∀ (l : List CT) (p : Nat) (v : Int), p < l.length → (ccells l).set (p * 2 + 1) (.int .i64 v) = ccells (l.set p (ctw (ct l p) v))
  | [], _, _, h => by simp at h
  | a :: r, 0, v, _ => rfl
  | a :: r, p + 1, v, h => by
    have ih := ccells_set r p v (by simpa using h)
    rw [show (p + 1) * 2 + 1 = (p * 2 + 1) + 1 + 1 from by omega]
    simp only [ccells, List.set_cons_succ, ih, ct_succ]

theorem cell_set {w : World} {base e size g n cap : Nat} {xs : List Value} (h : w.ownsRow base e size (.slice (some ⟨g, 0, none⟩) n cap) n xs) (j : Nat) (u : Value) (hj : j < xs.length) :
    (w.setCell ⟨g, j, none⟩ u).ownsRow base e size (.slice (some ⟨g, 0, none⟩) n cap) n (xs.set j u) := by
  obtain ⟨cur, hG, h1, h2, h3, h4⟩ : ∃ cur, w.heap[g]? = some (.cells cur e (0, 0)) ∧ base ≤ g ∧ n ≤ cap ∧ cap ≤ maxLen ∧ cur.size = cap * size := by
    rcases h.2 with ⟨h0, _⟩ | ⟨g', c, cur, h0, hb, hh, k1, k2, k3, _⟩
    · cases h0
    · injection h0 with e1 _ e3
      injection e1 with e1
      injection e1 with e1 _ _
      subst e1
      subst e3
      exact ⟨cur, hh, hb, k1, k2, k3⟩
  have hl := h.1
  obtain ⟨c1, k1, k2⟩ := setCells_block g [u] j w cur _ _ hG
  have hs : ∀ i, i < xs.length → w.cell? ⟨g, i, none⟩ = xs[i]? := fun i hi => h.cellAt i (by omega)
  refine own_of_cells (cur := c1) k1 h1 h2 h3 (by omega) (by simpa using hl) ?_
  intro i hi
  simp at hi
  by_cases e : i = j
  · subst e
    have := World.cell?_setCells_in g [u] i w (fun t ht => by
      simp at ht
      subst ht
      rw [Nat.add_zero, hs i hi, List.getElem?_eq_getElem hi]; rfl) 0 (by simp)
    rw [Nat.add_zero] at this
    show (w.setCells g i [u]).cell? _ = _
    rw [this]
    simp [hi]
  · have := World.cell?_setCells_out g [u] j w ⟨g, i, none⟩ (fun _ _ => by show i < j ∨ j + 1 ≤ i; omega)
    show (w.setCells g j [u]).cell? _ = _
    rw [this, hs i hi, List.getElem?_set_ne (fun h => e h.symm)]

/-- a cell's value written in place -/
theorem OwnC.put {w : World} {base T N d g p : Nat} {l : List CT} (h : OwnC w base T (.slice (some ⟨g, 0, none⟩) N d) N l) (hp : p < l.length) (v : Int) :
    OwnC (w.setCell ⟨g, p * 2 + 1, none⟩ (.int .i64 v)) base T (.slice (some ⟨g, 0, none⟩) N d) N (l.set p (ctw (ct l p) v)) := by
  have gr : w.grownBy (w.setCell ⟨g, p * 2 + 1, none⟩ (.int .i64 v)) (some g) := setCells_grown g [.int .i64 v] (p * 2 + 1) w
  refine ⟨?_, fun c hc => ?_⟩
  · rw [← ccells_set l p v hp]
    exact cell_set h.own _ _ (by rw [ccells_length]; omega)
  · have hk : ∃ c' ∈ l, c.sa = c'.sa ∧ c.ser = c'.ser := by
      rcases List.mem_or_eq_of_mem_set hc with e | e
      · exact ⟨c, e, rfl, rfl⟩
      · exact ⟨ct l p, ct_mem hp, by rw [e]; rfl, by rw [e]; rfl⟩
    obtain ⟨c', hc', e1, e2⟩ := hk
    rw [e1, e2]
    exact (h.ser c' hc').grown gr (fun k hk => .inl hk)

/-- labels lie in another block than a meaning -/
theorem seg_far {w : World} {ao : Option Addr} {s : Lb} {B t o : Nat} {f : Bool} {a : Option Addr} {n c : Nat} {fr : Nat × Nat} (h : Seg w ao (lcells s)) (hB : w.heap[B]? = some (.cells #[.bool f, .slice a n c] t fr)) (v : Value) : Seg (w.setCell ⟨B, o, none⟩ v) ao (lcells s) := by
  rcases h with h | ⟨b, off, rfl, h⟩
  · exact .inl h
  · cases s with
    | nil => exact .inl rfl
    | cons x r =>
      have h0 := h 0 (by simp [lcells])
      have hne : b ≠ B := by
        intro e
        subst e
        simp [World.cell?, hB, lcells] at h0
        match off, h0 with
        | 0, h0 => simp at h0
        | 1, h0 => simp at h0
        | q + 2, h0 => simp at h0
      refine .inr ⟨b, off, rfl, fun j hj => ?_⟩
      rw [cell_of_block (setCell_far hne)]
      exact h j hj

theorem allA_no {w : ByteArray} {ks : List ByteArray} {out : List Cl} {c : Cl} {r : List Cl} (h : putA w (only c.1 ks) (one1 w c.2) out = none) : allA w ks out (c :: r) = none := by simp [allA, h]
theorem allA_yes {w : ByteArray} {ks : List ByteArray} {out out' : List Cl} {c : Cl} {r : List Cl} (h : putA w (only c.1 ks) (one1 w c.2) out = some out') : allA w ks out (c :: r) = allA w ks out' r := by simp [allA, h]

end Go.GrainU
namespace Go.Proofs.Ytjgdjbphelkdoad
open Go.RowKit Go.GrainU

/-- what allOf's loop keeps -/
structure AI (W wr : World) (co : Option Addr) (N d k : Nat) (cts : List CT) : Prop where
  bel : Below W.heap.size W wr
  own : OwnC wr W.heap.size 44 (.slice co N d) N cts
  srt : Srt (cls cts)
  fin : ∀ c ∈ cls cts, Fine c
  len : N ≤ k

theorem AI.call {W wr w' : World} {co : Option Addr} {N d k : Nat} {cts : List CT} (I : AI W wr co N d k cts) (hb : Below wr.heap.size wr w') : AI W w' co N d k cts :=
  ⟨I.bel.trans (hb.mono I.bel.size), I.own.below hb, I.srt, I.fin, I.len⟩

set_option maxRecDepth 100000 in
set_option maxHeartbeats 8000000 in
theorem mall_any (l : List CT) (ks : List ByteArray) (x : ByteArray) (ao bo : Option Addr) (n d0 m bc : Nat) (w : World) (hl : CsIn w ao l) (hk : Seg w bo (wcells ks)) (hn : n = l.length) (hm : m = ks.length) (hM : m ≤ 9223372036854775807) (hf : ∀ c ∈ cls l, Fine c) (hn8 : n ≤ 8) :
    Calls Try.prog 38 #[.slice ao n d0, .string x, .slice bo m bc] w fun e w' => MPost ((allA x ks [] (cls l)).map fun c => ⟨false, c⟩) e w' ∧ Below w.heap.size w w' := by
  have HN := hide hn
  have HM := hide hm
  have HF := hide hf
  clear hn hm hf
  obtain ⟨W, hW⟩ : ∃ W, W = w.alloc (.cells #[.bool false, .slice none 0 0] 56) := ⟨_, rfl⟩
  have bel0 : Below w.heap.size w W := by rw [hW]; exact (Below.refl _ _).alloc (Nat.le_refl _) _
  have F0 : W.heap[w.heap.size]? = some (.cells #[.bool false, .slice none 0 0] 56 (0, 0)) := by rw [hW]; exact heap_alloc_new w _
  have hlW := hl.below bel0
  have hkW := hk.below bel0
  have HW := hide hW
  clear hW hl hk
  go_enter Try.func38, Try.ntmps38
  go_wp2
  rw [← HW.out]
  go_loopw [8, 18] (fun out i wr => ∃ (k N d : Nat) (co : Option Addr) (cts : List CT), k ≤ n ∧ i = .int .i64 k ∧ out = .slice co N d ∧ AI W wr co N d k cts ∧ Hid (allA x ks [] (cls l) = allA x ks (cls cts) (cls (l.drop k)))) (fun _ i _ => n - (intOf i).toNat)
  case atStart => exact ⟨0, 0, 0, none, [], Nat.zero_le _, rfl, rfl, ⟨Below.refl _ _, OwnC.nil _ _ _, by simp [Srt, cls], fun c hc => by simp [cls] at hc, Nat.le_refl _⟩, rfl⟩
  case round =>
    obtain ⟨k, N, d, co, cts, hk, rfl, rfl, I, HA⟩ := hrel
    by_cases hlt : k < n
    · have hkl : k < l.length := by rw [← HN.out]; exact hlt
      obtain ⟨b, off, rfl, hb, hcell⟩ := seg_cell hlW.seg hkl
      obtain ⟨c, hc⟩ : ∃ c, c = ct l k := ⟨_, rfl⟩
      obtain ⟨cn, hcn⟩ : ∃ cn, cn = c.ser.length := ⟨_, rfl⟩
      have segc : Seg W c.sa (lcells c.ser) := by rw [hc]; exact hlW.ser _ (ct_mem hkl)
      have c0 : wr.cell? ⟨b, off + k * 2, none⟩ = some (.slice c.sa cn c.sc) := by rw [hcn, hc]; exact (I.bel.cell (by exact hb)).trans (hcell k hkl).1
      have c1 : wr.cell? ⟨b, off + k * 2 + 1, none⟩ = some (.int .i64 c.v) := by rw [hc]; exact (I.bel.cell (by exact hb)).trans (hcell k hkl).2
      have fc : Fine c.cl := HF.out _ (by rw [hc]; exact List.mem_map_of_mem (ct_mem hkl))
      have HD : Hid (cls (l.drop k) = c.cl :: cls (l.drop (k + 1))) := by show _ = _; rw [cls_drop hkl, hc]
      obtain ⟨v, hv⟩ : ∃ v, v = one1 x c.v := ⟨_, rfl⟩
      have hv2 : -MC ≤ v ∧ v ≤ MC := by
        rw [hv]; unfold one1
        split
        · simp [MC]
        · exact ⟨fc.1, fc.2.1⟩
      obtain ⟨V, hV⟩ : ∃ V, V = wr.alloc (.cells #[.slice c.sa cn c.sc, .int .i64 v] 44) := ⟨_, rfl⟩
      obtain ⟨X, hX⟩ : ∃ X, X = wr.heap.size := ⟨_, rfl⟩
      have F1 : V.heap[X]? = some (.cells #[.slice c.sa cn c.sc, .int .i64 v] 44 (0, 0)) := by rw [hV, hX]; exact heap_alloc_new wr _
      have belA : Below wr.heap.size wr V := by rw [hV]; exact (Below.refl _ _).alloc (Nat.le_refl _) _
      have IV := I.call belA
      have cn4 : cn ≤ 4 := by rw [hcn]; exact fc.2.2
      have HV := hide hV
      have HX := hide hX
      have HCN := hide hcn
      have Hv := hide hv
      clear hV hcn hc hkl hcell I belA hv fc
      obtain ⟨Q, hQ⟩ : ∃ Q, Q = decide (x = lit [99, 111, 117, 110, 116]) := ⟨_, rfl⟩
      have HQ := hide hQ
      clear hQ
      go_upto_region 5 with fail
      go_cut [23] from 22 to 23 (fun v23 wx => v23 = .bool Q ∧ wx = wr.alloc (.cells #[.slice c.sa cn c.sc, .int .i64 c.v] 44))
      case first =>
        by_cases hq : x = lit [99, 111, 117, 110, 116]
        · have hd : Hid (Q = true) := by show _ = _; rw [HQ.out]; simpa using hq
          have hq2 : (x.toList == [99, 111, 117, 110, 116]) = true := by rw [hq, show (lit [99, 111, 117, 110, 116]).toList = [99, 111, 117, 110, 116] from ByteArray.toList_mk _]; decide
          clear hq
          go_wp2_with fail
          go_meet
          exact ⟨by rw [hd.out], rfl⟩
        · have hd : Hid (Q = false) := by show _ = _; rw [HQ.out]; simpa using hq
          have hq2 := list_ne2 hq
          clear hq
          go_wp2_with fail
          go_meet
          exact ⟨by rw [hd.out], rfl⟩
      case rest =>
      obtain ⟨rfl, rfl⟩ := hcut
      apply_assumption
      go_cut [23] from 24 to 24 (fun v23 wx => wx = V)
      case first =>
        cases Q with
        | true =>
          have hv1 : v = 1 := by
            have := of_decide_eq_true HQ.out.symm
            rw [Hv.out, one1, if_pos this]
          subst hv1
          go_wp2_with fail
          go_meet
          exact HV.out.symm
        | false =>
          have hv1 : v = c.v := by
            have := of_decide_eq_false HQ.out.symm
            rw [Hv.out, one1, if_neg this]
          subst hv1
          go_wp2_with fail
          go_meet
          exact HV.out.symm
      case rest =>
      rw [hcut, ← HX.out]
      clear hcut HV HX hX HQ c0 c1
      obtain ⟨x0, x1, _, _⟩ := two_cells F1
      obtain ⟨S, hS⟩ : ∃ S, S = only c.ser ks := ⟨_, rfl⟩
      have hS4 : S.length ≤ 4 := by rw [hS]; have := only_len c.ser ks; rw [← HCN.out] at this; omega
      have PO : Hid (∀ w', Below V.heap.size V w' → Calls Try.prog 59 #[.slice c.sa cn c.sc, .slice bo m bc] w' fun e w'' => ∃ co N d, e = .returned (.slice co N d) ∧ w''.ownsRow w'.heap.size 51 2 (.slice co N d) N (lcells S) ∧ N = S.length ∧ Below w'.heap.size w' w'') := fun w' hb' => by
        rw [hS]; exact nonly_own c.ser ks c.sa bo cn c.sc m bc w' ((segc.below IV.bel).below hb') HCN.out (by omega) ((hkW.below IV.bel).below hb') HM.out hM
      have HD2 : Hid (∀ r, putA x S v (cls cts) = r → allA x ks [] (cls l) = match r with | none => none | some o => allA x ks o (cls (l.drop (k + 1)))) := fun r hr => by
        have e1 : putA x (only c.cl.1 ks) (one1 x c.cl.2) (cls cts) = r := by rw [← hr, hS, Hv.out]; rfl
        rw [HA.out, HD.out]
        cases r with
        | none => exact allA_no e1
        | some o => exact allA_yes e1
      clear hS HA HD
      go_wp2_with fail
      refine (PO.out V (Below.refl _ _)).mono ?_
      rintro e w1 ⟨so, sn, sd, rfl, ownS, hsn, b1⟩
      have I1 := IV.call b1
      have F2 := below_block b1 F1
      have segS : SegN w1 (Value.slice co N d).ownBlock so (lcells S) := segN_own ownS (fun g hg => (own_base IV.own.own g hg).2)
      have hNl := I1.own.len
      have hN8 : N ≤ 8 := by have := I1.len; omega
      obtain ⟨p, hp, hbd, hcase⟩ := put_idx x S v cts I1.srt
      obtain ⟨FF, hFF⟩ : ∃ FF, FF = (decide (p < N) && decide (cmpS (ct cts p).ser S = 0)) := ⟨_, rfl⟩
      have hs8 : ∀ y ∈ cts, y.ser.length ≤ 9223372036854775807 := fun y hy => by
        have := (I1.fin y.cl (List.mem_map_of_mem hy)).2.2
        have e : y.cl.1.length = y.ser.length := rfl
        omega
      have HSN := hide hsn
      have HNL := hide hNl
      have PS : Calls Try.prog 60 #[.slice co N d, .slice so sn sd, .func (.func 61) #[] #[]] w1 fun e w' => e = .returned (.tuple #[.int .i64 p, .bool FF]) ∧ Below w1.heap.size w1 w' :=
        mbsc_any cts S co so N d sn sd p FF w1 I1.own.csIn segS.seg HNL.out HSN.out (by omega) hs8 (by omega) (fun q hq => hbd q (by omega)) hFF
      have HFF := hide hFF
      have HPS := hide PS
      have HPP := hide hp
      have HCS := hide hcase
      clear x0 x1 ownS b1 F1 IV hsn hNl hs8 PS hFF PO hbd hcase hp
      go_wp2_with fail
      refine HPS.out.mono ?_
      rintro e w2 ⟨rfl, b2⟩
      have I2 := I1.call b2
      have F3 := below_block b2 F2
      have segS2 := segS.below b2
      clear HPS I1 F2 segS b2
      rcases HCS.out with ⟨h1, h2, h3⟩ | ⟨h1, h2⟩
      · have hFt : Hid (FF = true) := by
          show _ = _
          rw [HFF.out, HNL.out]
          simp [h1, h2]
        have hpN : p < N := by rw [HNL.out]; exact h1
        have hg : ∃ g, co = some ⟨g, 0, none⟩ := by
          rcases I2.own.own.2 with ⟨_, h⟩ | ⟨g, cp, cur, h, _⟩
          · omega
          · injection h with h1 _ _
            exact ⟨g, h1⟩
        obtain ⟨g, rfl⟩ := hg
        obtain ⟨q, hq⟩ : ∃ q, q = (ct cts p).v := ⟨_, rfl⟩
        have cq : w2.cell? ⟨g, p * 2 + 1, none⟩ = some (.int .i64 q) := by
          rw [hq]
          exact (I2.own.own.cellAt (p * 2 + 1) (by omega)).trans (ccells_at cts p h1).2
        have fq : w2.frozen? ⟨g, p * 2 + 1, none⟩ = false := by
          rcases I2.own.own.2 with ⟨h, _⟩ | ⟨g', cp, cur, h, _, hh, _⟩
          · cases h
          · injection h with h1 _ _
            injection h1 with h1
            injection h1 with h1 _ _
            subst h1
            simp [World.frozen?, hh]
        have fp := I2.fin (ct cts p).cl (List.mem_map_of_mem (ct_mem h1))
        have bq : -MC ≤ q ∧ q ≤ MC := by rw [hq]; exact ⟨fp.1, fp.2.1⟩
        obtain ⟨T, hT⟩ : ∃ T, T = tog x q v := ⟨_, rfl⟩
        obtain ⟨R, hR⟩ : ∃ R, R = bnd T := ⟨_, rfl⟩
        have PT : Hid (∀ w', Calls Try.prog 64 #[.string x, .int .i64 q, .int .i64 v] w' fun e w'' => e = .returned (.int .i64 T) ∧ w'' = w') := fun w' => by rw [hT]; exact mtogether_any x q v w' bq hv2
        have PBd : Hid (∀ w', Calls Try.prog 63 #[.int .i64 T] w' fun e w'' => e = .returned (.tuple #[.int .i64 (ov R), .int .i64 (oe R)]) ∧ w'' = w') := fun w' => by rw [hR]; exact mbounded_any T w'
        have HP3 : Hid (putA x S v (cls cts) = R.map fun y => cls (cts.set p (ctw (ct cts p) y))) := by
          show _ = _
          rw [h3, ← hq, ← hT, hR]
          unfold bnd
          by_cases e : big T = true
          · rw [if_pos e, if_pos e]; rfl
          · rw [if_neg e, if_neg e]; rfl
        obtain ⟨x0, x1, _, _⟩ := two_cells F3
        have HH1 := hide h1
        have hFt2 := hFt.out
        subst hFt2
        have i2 : (p : Int) < (N : Int) := by omega
        clear h1 h2 h3 HFF hq hT hR fp bq
        go_wp2_with fail
        have hnn : decide (p < N) = true := by simp; omega
        go_quiet (first | (go_at_call 64; exact Calls.quiet_of_same (PT.out _)) | (go_at_call 63; exact Calls.quiet_of_same (PBd.out _)))
        have bel3 := I2.bel
        cases R with
        | none =>
          have HE : Hid (((allA x ks [] (cls l)).map fun c => (⟨false, c⟩ : Mn)) = none) := by
            show _ = _
            rw [HD2.out _ HP3.out]; rfl
          obtain ⟨r0, r1, r2, r3⟩ := two_cells (below_block bel3 F0)
          have belw : Below w.heap.size w w2 := bel0.trans (bel3.mono bel0.size)
          simp only [ov, oe]
          clear HD2 HP3 I2
          go_wp2
          exact bodyPost_ret (v := .tuple #[.agg #[.bool false, .slice none 0 0], .int .i64 3]) (by simp [results, Try.results38, go_sem, r0, r1]) rfl ⟨.inl ⟨HE.out, rfl⟩, ((below_drewN belw _).setCell (Nat.le_refl _) _).setCell (Nat.le_refl _) _⟩
        | some y =>
          have HP4 : Hid (putA x S v (cls cts) = some (cls (cts.set p (ctw (ct cts p) y)))) := HP3.out
          have HA2 : Hid (allA x ks [] (cls l) = allA x ks (cls (cts.set p (ctw (ct cts p) y))) (cls (l.drop (k + 1)))) := HD2.out _ HP4.out
          have pf := put_fine hS4 hv2 I2.fin HP4.out
          have ps := put_srt x S v (cls cts) I2.srt _ HP4.out
          have bd : Below w2.heap.size w2 (w2.drewN nq) := below_drewN (Below.refl _ _) nq
          have I3 : AI W ((w2.drewN nq).setCell ⟨g, p * 2 + 1, none⟩ (.int .i64 y)) (some ⟨g, 0, none⟩) N d (k + 1) (cts.set p (ctw (ct cts p) y)) :=
            ⟨(below_drewN bel3 nq).setCell (own_base I2.own.own g rfl).1 _, (I2.own.below bd).put HH1.out y, ps.1, pf.1, by have := I2.len; omega⟩
          simp only [ov, oe]
          clear HD2 HP3 HP4 I2 pf ps
          go_wp2
          go_roundw
          case rel => exact ⟨k + 1, N, d, _, _, by omega, by go_num, rfl, I3, HA2⟩
          case measure => simp [intOf]; omega
      · have hFf : Hid (FF = false) := by
          show _ = _
          rw [HFF.out, HNL.out]
          simp only [Bool.and_eq_false_iff, decide_eq_false_iff_not]
          by_cases e : p < cts.length
          · right; intro e2; exact h1 ⟨e, e2⟩
          · left; exact e
        obtain ⟨x0, x1, _, _⟩ := two_cells F3
        have HP2 := hide (h2 ⟨S, v, so, sd⟩ rfl)
        have hw2 := I2.bel.size
        have hlt2 : ∀ g, (Value.slice co N d).ownBlock = some g → g < w2.heap.size := fun g hg => (own_base I2.own.own g hg).2
        have belB : Below w2.heap.size w2 (w2.alloc (.cells #[.slice so sn sd, .int .i64 v] 44)) := (Below.refl _ _).alloc (Nat.le_refl _) _
        have IB := I2.call belB
        have FB : (w2.alloc (.cells #[.slice so sn sd, .int .i64 v] 44)).heap[w2.heap.size]? = some (.cells #[.slice so sn sd, .int .i64 v] 44 (0, 0)) := heap_alloc_new _ _
        have PI := hide (ins_any cts ⟨S, v, so, sd⟩ W.heap.size N d p w2.heap.size sn co _ IB.own (by rw [HNL.out]; exact HPP.out) hN8 IB.bel.size FB HSN.out (fun e => by have := hlt2 _ e; omega) (segS2.below belB))
        have hFf2 := hFf.out
        subst hFf2
        clear h1 h2 HFF
        go_wp2_with fail
        refine PI.out.mono ?_
        rintro e w3 ⟨co', d', rfl, own3, gr3⟩
        have belC : Below W.heap.size W w3 := IB.bel.grown gr3 IB.bel.size (fun j hj => (own_base IB.own.own j hj).1)
        have pf := put_fine hS4 hv2 IB.fin HP2.out
        have ps := put_srt x S v (cls cts) IB.srt _ HP2.out
        have I3 : AI W w3 co' (N + 1) d' (k + 1) (cts.take p ++ ⟨S, v, so, sd⟩ :: cts.drop p) := ⟨belC, own3, ps.1, pf.1, by have := IB.len; omega⟩
        have HA2 : Hid (allA x ks [] (cls l) = allA x ks (cls (cts.take p ++ ⟨S, v, so, sd⟩ :: cts.drop p)) (cls (l.drop (k + 1)))) := HD2.out _ HP2.out
        clear PI own3 gr3 belC pf ps IB I2 belB FB x0 x1 F3 HD2 HP2
        go_wp2
        go_roundw
        case rel => exact ⟨k + 1, N + 1, d', co', _, by omega, by go_num, rfl, I3, HA2⟩
        case measure => simp [intOf]; omega
    · have he : k = n := by omega
      subst he
      have hd : l.drop k = [] := List.drop_eq_nil_of_le (by rw [← HN.out]; exact Nat.le_refl _)
      have HE : Hid (((allA x ks [] (cls l)).map fun c => (⟨false, c⟩ : Mn)) = some ⟨false, cls cts⟩) := by
        show _ = _
        rw [HA.out, hd]; rfl
      have bel := I.bel
      have hlen := hide I.own.len
      have own := I.own
      obtain ⟨r0, r1, r2, r3⟩ := two_cells (below_block bel F0)
      clear HA hd I HN
      go_wp2
      refine bodyPost_ret (v := .tuple #[.agg #[.bool false, .slice co N d], .int .i64 0]) (by simp [results, Try.results38, go_sem, r0, r1]) rfl ?_
      have hw0 : w.heap.size < W.heap.size := lt_of_block F0
      have belw : Below w.heap.size w wr := bel0.trans (bel.mono bel0.size)
      have bel2 : Below w.heap.size w ((wr.setCell ⟨w.heap.size, 0, none⟩ (.bool false)).setCell ⟨w.heap.size, 1, none⟩ (.slice co N d)) := (belw.setCell (Nat.le_refl _) _).setCell (Nat.le_refl _) _
      have own2 := ownsRow_setCell_below (ownsRow_setCell_below own.own (a := ⟨w.heap.size, 0, none⟩) hw0 (.bool false)) (a := ⟨w.heap.size, 1, none⟩) hw0 (.slice co N d)
      obtain ⟨ao', c', hv, hseg, _⟩ := own_open own2
      simp only [Value.slice.injEq] at hv
      obtain ⟨rfl, -, rfl⟩ := hv
      have FB := below_block bel F0
      refine ⟨.inr ⟨false, cts, co, N, d, rfl, HE.out, hlen.out, ⟨hseg, fun c hc => ?_⟩⟩, bel2⟩
      have h1 := seg_far (own.ser c hc).seg FB (o := 0) (.bool false)
      have FC : (wr.setCell ⟨w.heap.size, 0, none⟩ (.bool false)).heap[w.heap.size]? = some (.cells #[.bool false, .slice none 0 0] 56 (0, 0)) := by simp [World.setCell, Array.getElem?_modify, FB]
      exact seg_far h1 FC (.slice co N d)

end Go.Proofs.Ytjgdjbphelkdoad

/-
  What comes to something is within its bounds; the walk of Ask's window.
-/
namespace Go.GrainU
open Go.RowKit

/-- cells within their bounds; a number has one -/
structure Gd (m : Mn) : Prop where
  fine : ∀ c ∈ m.cs, Fine c
  len : m.cs.length ≤ 8
  num : m.num = true → 0 < m.cs.length

theorem winX_len (x : Ln) (h : Hd) (time : Int) : (winX x h time).length ≤ 1 := by
  unfold winX
  split
  · split <;> simp
  · simp

theorem winC_len : ∀ (l : List Ln) (h : Hd) (time : Int), (winC l h time).length ≤ l.length
  | [], _, _ => by simp [winC]
  | x :: r, h, time => by
    have h1 := winX_len x h time
    have h2 := winC_len r h time
    simp only [winC, List.length_append, List.length_cons]
    omega

theorem Grain_win_val {l : List (Int × Int)} (h : Grain.Right l) (a b : Int) : ∀ x ∈ Grain.win l a b, -1000000000 ≤ x.2 ∧ x.2 ≤ 1000000000 := by
  intro y hy
  have hy' := (List.mem_filter.1 hy).1
  obtain ⟨q, hq, rfl⟩ := List.mem_iff_getElem.1 hy'
  have := h.rng q hq
  simp [Grain.vl, List.getD, List.getElem?_eq_getElem hq] at this
  omega

theorem winV_bd {x : Ln} (h : Grain.Right x.2) (hd : Hd) (time : Int) : -W1 ≤ (winV x hd time).1 ∧ (winV x hd time).1 ≤ W1 := by
  have hl : (Grain.win x.2 (time - hd.range) time).length ≤ 500 := Nat.le_trans (Grain.win_len _ _ _) h.few
  exact valP_bd (of_ok (Grain_win_val h _ _) hl) (by omega) (by omega) _

theorem winC_fine : ∀ (l : List Ln), (∀ x ∈ l, x.1.length ≤ 4 ∧ Grain.Right x.2) → ∀ (h : Hd) (time : Int), ∀ c ∈ winC l h time, -W1 ≤ c.2 ∧ c.2 ≤ W1 ∧ c.1.length ≤ 4
  | [], _, _, _, c, hc => by simp [winC] at hc
  | x :: r, hl, h, time, c, hc => by
    simp only [winC, List.mem_append] at hc
    rcases hc with e | e
    · have hx := hl x (by simp)
      unfold winX at e
      split at e
      · split at e
        · simp at e
          rw [e]
          exact ⟨(winV_bd hx.2 h time).1, (winV_bd hx.2 h time).2, hx.1⟩
        · simp at e
      · simp at e
    · exact winC_fine r (fun y hy => hl y (by simp [hy])) h time c e

theorem W1_MC : W1 ≤ MC := by decide

theorem gd_win {l : List Ln} (hl : ∀ x ∈ l, x.1.length ≤ 4 ∧ Grain.Right x.2) (h8 : l.length ≤ 8) (h : Hd) (time : Int) : Gd ⟨false, winC l h time⟩ :=
  ⟨fun c hc => by
    have := winC_fine l hl h time c hc
    have := W1_MC
    exact ⟨by omega, by omega, by omega⟩, Nat.le_trans (winC_len l h time) h8, fun e => by cases e⟩

theorem allA_gd {w : ByteArray} {ks : List ByteArray} : ∀ (l out : List Cl), (∀ c ∈ l, Fine c) → (∀ c ∈ out, Fine c) → ∀ r, allA w ks out l = some r → (∀ c ∈ r, Fine c) ∧ r.length ≤ out.length + l.length
  | [], out, _, ho, r, h => by
    simp [allA] at h
    subst h
    exact ⟨ho, by simp⟩
  | c :: q, out, hl, ho, r, h => by
    have fc := hl c (by simp)
    have hv : -MC ≤ one1 w c.2 ∧ one1 w c.2 ≤ MC := by
      unfold one1
      split
      · simp [MC]
      · exact ⟨fc.1, fc.2.1⟩
    have hs : (only c.1 ks).length ≤ 4 := Nat.le_trans (only_len c.1 ks) fc.2.2
    rw [allA] at h
    cases hp : putA w (only c.1 ks) (one1 w c.2) out with
    | none => rw [hp] at h; cases h
    | some o =>
      rw [hp] at h
      obtain ⟨i1, i2⟩ := put_fine hs hv ho hp
      obtain ⟨j1, j2⟩ := allA_gd q o (fun x hx => hl x (by simp [hx])) i1 r h
      exact ⟨j1, by simp; omega⟩

theorem binA_gd {a b : Mn} {w : ByteArray} (fb : ∀ c ∈ b.cs, Fine c) : ∀ (l acc : List Cl), (∀ c ∈ l, Fine c) → (∀ c ∈ acc, Fine c) → ∀ r, binA a b w acc l = some r → (∀ c ∈ r, Fine c) ∧ r.length ≤ acc.length + l.length ∧ acc.length ≤ r.length
  | [], acc, _, ha, r, h => by
    simp [binA] at h
    subst h
    exact ⟨ha, by simp, Nat.le_refl _⟩
  | c :: q, acc, hl, ha, r, h => by
    have fc := hl c (by simp)
    have hq : ∀ x ∈ q, Fine x := fun x hx => hl x (by simp [hx])
    cases h1 : atM a c.1 with
    | none =>
      rw [binA_no (.inl h1)] at h
      obtain ⟨j1, j2, j3⟩ := binA_gd fb q acc hq ha r h
      exact ⟨j1, by simp; omega, j3⟩
    | some x =>
      cases h2 : atM b c.1 with
      | none =>
        rw [binA_no (.inr h2)] at h
        obtain ⟨j1, j2, j3⟩ := binA_gd fb q acc hq ha r h
        exact ⟨j1, by simp; omega, j3⟩
      | some y =>
        cases h3 : wkd w x y with
        | none => rw [binA_bad h1 h2 h3] at h; cases h
        | some v =>
          rw [binA_yes h1 h2 h3] at h
          have bv := wkd_bd (atM_fine fb h2) h3
          obtain ⟨j1, j2, j3⟩ := binA_gd fb q (acc ++ [(c.1, v)]) hq (fun z hz => by
            rcases List.mem_append.1 hz with e | e
            · exact ha z e
            · simp at e; rw [e]; exact ⟨bv.1, bv.2, fc.2.2⟩) r h
          exact ⟨j1, by simp at j2 ⊢; omega, by simp at j3; omega⟩

theorem gd_all {w : ByteArray} {ks : List ByteArray} {m r : Mn} (g : Gd m) (h : ((allA w ks [] m.cs).map fun c => (⟨false, c⟩ : Mn)) = some r) : Gd r := by
  cases hq : allA w ks [] m.cs with
  | none => rw [hq] at h; cases h
  | some q =>
    rw [hq] at h
    simp at h
    subst h
    obtain ⟨i1, i2⟩ := allA_gd m.cs [] g.fine (fun c hc => by cases hc) q hq
    exact ⟨i1, by have := g.len; simp at i2 ⊢; omega, fun e => by cases e⟩

theorem gd_bin {w : ByteArray} {a b r : Mn} (ga : Gd a) (gb : Gd b) (h : binM a b w = some r) : Gd r := by
  unfold binM at h
  cases hq : binA a b w [] (fromM a b).cs with
  | none => rw [hq] at h; cases h
  | some q =>
    rw [hq] at h
    simp at h
    subst h
    have gf : Gd (fromM a b) := by unfold fromM; split <;> assumption
    obtain ⟨i1, i2, _⟩ := binA_gd gb.fine (fromM a b).cs [] gf.fine (fun c hc => by cases hc) q hq
    refine ⟨i1, by have := gf.len; simp at i2 ⊢; omega, fun e => ?_⟩
    have hn := gf.num e
    have ha : a.num = true := by
      unfold fromM at e
      split at e
      · assumption
      · exact e
    have hb : b.num = true := by
      unfold fromM at e
      rw [if_pos ha] at e
      exact e
    cases hc : (fromM a b).cs with
    | nil => rw [hc] at hn; simp at hn
    | cons c s =>
      rw [hc] at hq
      have h1 : atM a c.1 = some (cl0 a.cs) := by simp [atM, ha]
      have h2 : atM b c.1 = some (cl0 b.cs) := by simp [atM, hb]
      cases h3 : wkd w (cl0 a.cs) (cl0 b.cs) with
      | none => rw [binA_bad h1 h2 h3] at hq; cases hq
      | some v =>
        rw [binA_yes h1 h2 h3] at hq
        have fc : Fine c := by
          have := (show Gd (fromM a b) from by unfold fromM; split <;> assumption).fine c (by rw [hc]; simp)
          exact this
        have bv := wkd_bd (atM_fine gb.fine h2) h3
        have fs : ∀ x ∈ s, Fine x := fun x hx => (show Gd (fromM a b) from by unfold fromM; split <;> assumption).fine x (by rw [hc]; simp [hx])
        obtain ⟨_, _, j3⟩ := binA_gd gb.fine s ([] ++ [(c.1, v)]) fs (fun z hz => by simp at hz; rw [hz]; exact ⟨bv.1, bv.2, fc.2.2⟩) q hq
        simp at j3
        exact j3

end Go.GrainU
namespace Go.Proofs.Ytjgdjbphelkdoad
open Go.RowKit Go.GrainU

/-- lines in memory, and a time, as Ask's window finds them -/
structure AskIn (w : World) (B1 B2 : Nat) (l : List LT) (ao : Option Addr) (n cap : Nat) (time : Int) : Prop where
  c1 : w.cell? ⟨B1, 0, none⟩ = some (.slice ao n cap)
  c2 : w.cell? ⟨B2, 0, none⟩ = some (.int .i64 time)
  seg : Seg w ao (tcells l)
  lns : LnsIn w l

theorem AskIn.below {w w' : World} {B1 B2 : Nat} {l : List LT} {ao : Option Addr} {n cap : Nat} {time : Int} (h : AskIn w B1 B2 l ao n cap time) (hb : Below w.heap.size w w') : AskIn w' B1 B2 l ao n cap time :=
  ⟨(hb.cell (p := ⟨B1, 0, none⟩) (World.block_lt_of_cell? w _ h.c1)).trans h.c1, (hb.cell (p := ⟨B2, 0, none⟩) (World.block_lt_of_cell? w _ h.c2)).trans h.c2, h.seg.below hb, h.lns.below hb⟩

set_option maxRecDepth 100000 in
set_option maxHeartbeats 1000000 in
theorem mask1_any (l : List LT) (t : ET) (time : Int) (ao : Option Addr) (n cap B1 B2 : Nat) (w : World) (hA : AskIn w B1 B2 l ao n cap time) (hR : ∀ x ∈ l, LnRt x) (hin : t.In w) (hn : n = l.length) (hn8 : n ≤ 8) (hr0 : 1 ≤ t.hd.range) (hr1 : t.hd.range ≤ 100000) (ht0 : 0 ≤ time) (ht1 : time ≤ 1000000) :
    Calls Try.prog 20 #[eval t, .pointer (some ⟨B1, 0, none⟩), .pointer (some ⟨B2, 0, none⟩)] w fun e w' => ∃ cts co N d, e = .returned (.slice co N d) ∧ N = cts.length ∧ CsIn w' co cts ∧ cls cts = winC (lns l) t.hd time ∧ Below w.heap.size w w' := by
  have P := hide (fun w' (hb : Below w.heap.size w w') => mwin_any l t time ao n cap w' (hA.seg.below hb) (hA.lns.below hb) hR (ET.In.below hb t hin) hn hn8 hr0 hr1 ht0 ht1)
  have k1 := hA.c1
  have k2 := hA.c2
  have l1 : B1 < w.heap.size := World.block_lt_of_cell? w _ k1
  have l2 : B2 < w.heap.size := World.block_lt_of_cell? w _ k2
  clear hA hR hin hn hn8 hr0 hr1 ht0 ht1
  unfold eval at P ⊢
  generalize winC (lns l) t.hd time = RR at P ⊢
  generalize t.hd.ms.length = ml at P ⊢
  generalize t.hd.bs.length = bl at P ⊢
  generalize t.kids.length = kl at P ⊢
  obtain ⟨W, hW⟩ : ∃ W, W = w.alloc (.cells #[.int .i64 t.hd.kind, .int .i64 t.hd.n, .int .i64 t.hd.range, .string t.hd.word, .slice t.sp.ma ml t.sp.mc, .slice t.sp.ba bl t.sp.bc, .slice t.sp.ka kl t.sp.kc] 27) := ⟨_, rfl⟩
  have bel0 : Below w.heap.size w W := by rw [hW]; exact (Below.refl _ _).alloc (Nat.le_refl _) _
  have HW := hide hW
  clear hW
  go_enter Try.func20, Try.ntmps20
  go_wp2_with fail
  rw [← HW.out]
  refine (P.out W bel0).mono ?_
  rintro e w1 ⟨cts, co, N, d, rfl, hN, hC, hE, b1⟩
  have b2 : Below w.heap.size w w1 := bel0.trans (b1.mono bel0.size)
  have HN := hide hN
  have HE := hide hE
  clear hN hE
  go_wp2
  go_ret
  exact ⟨cts, co, N, d, rfl, HN.out, hC, HE.out, b2⟩

end Go.Proofs.Ytjgdjbphelkdoad

/-
  The walk of comesTo.
-/
namespace Go.GrainU
open Go.RowKit

/-- cells lie in another block than a meaning -/
theorem segc_far {w : World} {ao : Option Addr} {s : List CT} {B t o : Nat} {f : Bool} {a : Option Addr} {n c : Nat} {fr : Nat × Nat} (h : Seg w ao (ccells s)) (hB : w.heap[B]? = some (.cells #[.bool f, .slice a n c] t fr)) (v : Value) : Seg (w.setCell ⟨B, o, none⟩ v) ao (ccells s) := by
  rcases h with h | ⟨b, off, rfl, h⟩
  · exact .inl h
  · cases s with
    | nil => exact .inl rfl
    | cons x r =>
      have h0 := h 0 (by simp [ccells])
      have h1 := h 1 (by simp [ccells])
      have hne : b ≠ B := by
        intro e
        subst e
        simp [World.cell?, hB, ccells] at h0 h1
        match off, h0, h1 with
        | 0, h0, h1 => simp at h0
        | 1, h0, h1 => simp at h1
        | q + 2, h0, h1 => simp at h0
      refine .inr ⟨b, off, rfl, fun j hj => ?_⟩
      rw [cell_of_block (setCell_far hne)]
      exact h j hj

theorem CsIn.far {w : World} {co : Option Addr} {s : List CT} {B t o : Nat} {f : Bool} {a : Option Addr} {n c : Nat} {fr : Nat × Nat} (h : CsIn w co s) (hB : w.heap[B]? = some (.cells #[.bool f, .slice a n c] t fr)) (v : Value) : CsIn (w.setCell ⟨B, o, none⟩ v) co s :=
  ⟨segc_far h.seg hB v, fun x hx => seg_far (h.ser x hx) hB v⟩

theorem fst_set {w : World} {B : Nat} {x y : Value} {t : TypeId} (h : w.heap[B]? = some (.cells #[x, y] t (0, 0))) (q : Value) : (w.setCell ⟨B, 0, none⟩ q).heap[B]? = some (.cells #[q, y] t (0, 0)) := by
  simp [World.setCell, Array.getElem?_modify, h]

/-- nothing stored where a meaning lies, and a block made -/
theorem err_done {w : World} {R : Nat} {t : TypeId} (h : w.heap[R]? = some (.cells #[.bool false, .slice none 0 0] t (0, 0))) (o : Obj) :
    (((w.setCell ⟨R, 0, none⟩ (.bool false)).setCell ⟨R, 1, none⟩ (.slice none 0 0)).alloc o).cell? ⟨R, 0, none⟩ = some (.bool false) ∧ (((w.setCell ⟨R, 0, none⟩ (.bool false)).setCell ⟨R, 1, none⟩ (.slice none 0 0)).alloc o).cell? ⟨R, 1, none⟩ = some (.slice none 0 0) := by
  have h1 := two_set h (.bool false) (.slice none 0 0)
  have h2 : (((w.setCell ⟨R, 0, none⟩ (.bool false)).setCell ⟨R, 1, none⟩ (.slice none 0 0)).alloc o).heap[R]? = some (.cells #[.bool false, .slice none 0 0] t (0, 0)) := by
    rw [Below.heap_alloc _ _ _ (lt_of_block h1)]; exact h1
  obtain ⟨a, b, _, _⟩ := two_cells h2
  exact ⟨a, b⟩

theorem below_err {w w1 : World} {R : Nat} (bw : Below w.heap.size w w1) (hR : w.heap.size ≤ R) (o : Obj) : Below w.heap.size w (((w1.setCell ⟨R, 0, none⟩ (.bool false)).setCell ⟨R, 1, none⟩ (.slice none 0 0)).alloc o) := by
  have b2 : Below w.heap.size w ((w1.setCell ⟨R, 0, none⟩ (.bool false)).setCell ⟨R, 1, none⟩ (.slice none 0 0)) := (bw.setCell hR _).setCell hR _
  exact b2.alloc b2.size _

/-- a meaning stored where a meaning lies: the cells are where they were -/
theorem CsIn.stored {w : World} {co : Option Addr} {s : List CT} {B t : Nat} (h : CsIn w co s) (hB : w.heap[B]? = some (.cells #[.bool false, .slice none 0 0] t (0, 0))) (f : Bool) (v : Value) : CsIn ((w.setCell ⟨B, 0, none⟩ (.bool f)).setCell ⟨B, 1, none⟩ v) co s :=
  (h.far hB (.bool f)).far (fst_set hB (.bool f)) v

theorem ev_num {l : List Ln} {time : Int} {h : Hd} {kids : List Ex} (e : h.kind = 1) : ev l time (.mk h kids) = some ⟨true, [([], h.n)]⟩ := by rw [ev, if_pos e]
theorem ev_win {l : List Ln} {time : Int} {h : Hd} {kids : List Ex} (e : h.kind = 2) : ev l time (.mk h kids) = some ⟨false, winC l h time⟩ := by rw [ev, if_neg (by omega), if_pos e]
theorem ev_all {l : List Ln} {time : Int} {h : Hd} {k : Ex} (e : h.kind = 3) : ev l time (.mk h [k]) = (ev l time k).bind fun m => (allA h.word h.bs [] m.cs).map fun c => ⟨false, c⟩ := by
  rw [ev, if_neg (by omega), if_neg (by omega), evL]
  cases ev l time k with
  | none => rfl
  | some m => simp [evL, e]
theorem ev_bin {l : List Ln} {time : Int} {h : Hd} {a b : Ex} (e : h.kind = 4) : ev l time (.mk h [a, b]) = (ev l time a).bind fun m => (ev l time b).bind fun m' => binM m m' h.word := by
  rw [ev, if_neg (by omega), if_neg (by omega), evL]
  cases ev l time a with
  | none => rfl
  | some m =>
    cases hb : ev l time b with
    | none => simp [evL, hb]
    | some m' => simp [evL, hb, e]

theorem ev_gd {l : List Ln} (hl : ∀ x ∈ l, x.1.length ≤ 4 ∧ Grain.Right x.2) (h8 : l.length ≤ 8) (time : Int) : ∀ x : Ex, Rt x → ∀ m, ev l time x = some m → Gd m := by
  refine Ex.ind ?_
  intro h kids ih hr m hm
  obtain ⟨ha, hk⟩ := hr.parts
  rcases alone_cases ha with ⟨e, k0, n0, n1⟩ | ⟨e, k0, wb⟩ | ⟨e, k0, ab⟩ | ⟨e, k0, sg⟩
  · rw [ev_num e] at hm
    simp at hm
    subst hm
    refine ⟨fun c hc => ?_, by simp, fun _ => by simp⟩
    simp at hc
    rw [hc]
    exact ⟨by simp [MC]; omega, by simp [MC]; omega, by simp⟩
  · rw [ev_win e] at hm
    simp at hm
    subst hm
    exact gd_win hl h8 h time
  · match kids, k0 with
    | [k], _ =>
      rw [ev_all e] at hm
      cases hq : ev l time k with
      | none => rw [hq] at hm; simp at hm
      | some q =>
        rw [hq] at hm
        exact gd_all (ih k (by simp) (hk k (by simp)) q hq) hm
  · match kids, k0 with
    | [a, b], _ =>
      rw [ev_bin e] at hm
      cases hq : ev l time a with
      | none => rw [hq] at hm; simp at hm
      | some q =>
        rw [hq] at hm
        cases hq' : ev l time b with
        | none => rw [hq'] at hm; simp at hm
        | some q' =>
          rw [hq'] at hm
          exact gd_bin (ih a (by simp) (hk a (by simp)) q hq) (ih b (by simp) (hk b (by simp)) q' hq') hm

end Go.GrainU
namespace Go.Proofs.Ytjgdjbphelkdoad
open Go.RowKit Go.GrainU

set_option maxRecDepth 100000 in
set_option maxHeartbeats 8000000 in
theorem mcomes_any (l : List LT) (time : Int) (ao : Option Addr) (n cap B1 B2 : Nat) (hR : ∀ x ∈ l, LnRt x) (hn : n = l.length) (hn8 : n ≤ 8) (ht0 : 0 ≤ time) (ht1 : time ≤ 1000000) : ∀ t : ET, ∀ w : World, AskIn w B1 B2 l ao n cap time → t.In w → Rt t.ex →
    Calls Try.prog 19 #[eval t, .func (.func 20) #[] #[.pointer (some ⟨B1, 0, none⟩), .pointer (some ⟨B2, 0, none⟩)]] w fun e w' => MPost (ev (lns l) time t.ex) e w' ∧ Below w.heap.size w w' := by
  have hgd := ev_gd (l := lns l) (fun x hx => by
    obtain ⟨y, hy, rfl⟩ := List.mem_map.1 hx
    exact ⟨(hR y hy).ser, (hR y hy).smp⟩) (by rw [lns_len, ← hn]; exact hn8) time
  have HGD := hide hgd
  clear hgd
  refine ET.ind ?_
  intro h s kids ih w hA hin hrt
  have P1 := hide (fun w' (hb : Below w.heap.size w w') h0 h1 => mask1_any l (.node h s kids) time ao n cap B1 B2 w' (hA.below hb) hR (ET.In.below hb _ hin) hn hn8 h0 h1 ht0 ht1)
  have HA := hide hA
  have HIN := hide hin
  have HRT := hide hrt
  clear hA hrt hR hn hn8 ht0 ht1
  obtain ⟨kd, en, rg, wd, ms, bs⟩ := h
  obtain ⟨ma, mc, ba, bc, ka, kc⟩ := s
  simp only [ET.In] at hin
  obtain ⟨⟨sm, sb, sk⟩, ⟨lm, lb, lk, -⟩, hkin⟩ := hin
  obtain ⟨halone, hkr⟩ := Rt.parts (show Rt (.mk ⟨kd, en, rg, wd, ms, bs⟩ (exL kids)) from HRT.out)
  rw [exL_length] at halone
  unfold eval at P1 ⊢
  simp only [ET.hd, ET.sp, ET.kids] at P1 ⊢
  obtain ⟨ml, hml⟩ : ∃ ml, ml = ms.length := ⟨_, rfl⟩
  obtain ⟨bl, hbl⟩ : ∃ bl, bl = bs.length := ⟨_, rfl⟩
  obtain ⟨kl, hkl⟩ : ∃ kl, kl = kids.length := ⟨_, rfl⟩
  rw [← hml, ← hbl, ← hkl] at P1 ⊢
  obtain ⟨W, hW⟩ : ∃ W, W = (w.alloc (.cells #[.int .i64 kd, .int .i64 en, .int .i64 rg, .string wd, .slice ma ml mc, .slice ba bl bc, .slice ka kl kc] 27)).alloc (.cells #[.bool false, .slice none 0 0] 56) := ⟨_, rfl⟩
  have bel0 : Below w.heap.size w W := by rw [hW]; exact ((Below.refl _ _).alloc (Nat.le_refl _) _).alloc (by simp) _
  have F0 : W.heap[w.heap.size]? = some (.cells #[.int .i64 kd, .int .i64 en, .int .i64 rg, .string wd, .slice ma ml mc, .slice ba bl bc, .slice ka kl kc] 27 (0, 0)) := by rw [hW, Below.heap_alloc _ _ _ (by simp)]; exact heap_alloc_new w _
  have G0 : W.heap[w.heap.size + 1]? = some (.cells #[.bool false, .slice none 0 0] 56 (0, 0)) := by
    have := heap_alloc_new (w.alloc (.cells #[.int .i64 kd, .int .i64 en, .int .i64 rg, .string wd, .slice ma ml mc, .slice ba bl bc, .slice ka kl kc] 27)) (.cells #[.bool false, .slice none 0 0] 56)
    rw [hW]; simpa using this
  have HW := hide hW
  have HKL := hide hkl
  have HML := hide hml
  have HBL := hide hbl
  clear hml hbl hkl hW
  rcases alone_cases halone with ⟨e, k0, n0, n1⟩ | ⟨e, k0, wb⟩ | ⟨e, k0, ab⟩ | ⟨e, k0, sg⟩
  · have HE : Hid (ev (lns l) time (ET.node ⟨kd, en, rg, wd, ms, bs⟩ ⟨ma, mc, ba, bc, ka, kc⟩ kids).ex = some ⟨true, [([], en)]⟩) := ev_num e
    simp only at e
    subst e
    rw [HE.out]
    clear HE ih P1 HA HIN HRT F0 G0 halone
    go_enter Try.func19, Try.ntmps19
    go_wp2
    refine bodyPost_ret (v := .tuple #[.agg #[.bool true, .slice (some ⟨w.heap.size + 1 + 1, 0, none⟩) 1 1], .int .i64 0]) (by simp [results, Try.results19, go_sem]) rfl ⟨.inr ⟨true, [⟨[], en, none, 0⟩], some ⟨w.heap.size + 1 + 1, 0, none⟩, 1, 1, rfl, rfl, rfl, ?_, ?_⟩, ?_⟩
    · have := seg_new ((w.alloc (.cells #[.int .i64 1, .int .i64 en, .int .i64 rg, .string wd, .slice ma ml mc, .slice ba bl bc, .slice ka kl kc] 27)).alloc (.cells #[.bool true, .slice (some ⟨w.heap.size + 1 + 1, 0, none⟩) 1 1] 56)) #[.slice none 0 0, .int .i64 en] 44
      simpa [ccells] using this
    · intro c hc
      simp at hc
      rw [hc]
      exact .inl rfl
    · exact (((Below.refl _ _).alloc (Nat.le_refl _) _).alloc (by simp) _).alloc (by simp; omega) _
  · have HE : Hid (ev (lns l) time (ET.node ⟨kd, en, rg, wd, ms, bs⟩ ⟨ma, mc, ba, bc, ka, kc⟩ kids).ex = some ⟨false, winC (lns l) ⟨kd, en, rg, wd, ms, bs⟩ time⟩) := ev_win e
    obtain ⟨_, _, _, hr0, hr1⟩ := winBad_ok wb
    have P2 := hide (fun w' (hb : Below w.heap.size w w') => P1.out w' hb hr0 hr1)
    generalize winC (lns l) ⟨kd, en, rg, wd, ms, bs⟩ time = RR at P2 HE
    simp only at e
    subst e
    rw [HE.out]
    clear HE ih P1 HA HIN HRT halone hr0 hr1
    obtain ⟨p0, p1, p2, p3, p4, p5, p6⟩ := seven_cells F0
    go_enter Try.func19, Try.ntmps19
    go_wp2_with fail
    rw [← HW.out]
    refine (P2.out W bel0).mono ?_
    rintro e w1 ⟨cts, co, N, d, rfl, hN, hC, hE, b1⟩
    have G1 := below_block b1 G0
    obtain ⟨t0, t1, t2, t3⟩ := two_cells G1
    have HN := hide hN
    have HE := hide hE
    have bw : Below w.heap.size w w1 := bel0.trans (b1.mono bel0.size)
    clear hN hE p0 p1 p2 p3 p4 p5 p6
    go_wp2
    refine bodyPost_ret (v := .tuple #[.agg #[.bool false, .slice co N d], .int .i64 0]) (by simp [results, Try.results19, go_sem, t0, t1]) rfl ⟨.inr ⟨false, cts, co, N, d, rfl, by rw [HE.out], HN.out, hC.stored G1 false _⟩, (bw.setCell (by show w.heap.size ≤ w.heap.size + 1; omega) _).setCell (by show w.heap.size ≤ w.heap.size + 1; omega) _⟩
  · match kids, k0, HKL, sk, hkin, hkr, ih, HRT with
    | [k], _, HKL, sk, hkin, hkr, ih, HRT =>
      have HE : Hid (ev (lns l) time (ET.node ⟨kd, en, rg, wd, ms, bs⟩ ⟨ma, mc, ba, bc, ka, kc⟩ [k]).ex = (ev (lns l) time k.ex).bind fun m => (allA wd bs [] m.cs).map fun c => ⟨false, c⟩) := ev_all e
      have hk1 : kl = 1 := by rw [HKL.out]; rfl
      obtain ⟨b, off, rfl, hb, hcell⟩ := seg_expr sk (k := 0) (by simp)
      have hc7 : Cells7 w b off k := by simpa using hcell 0 (by simp)
      obtain ⟨c0, c1, c2, c3, c4, c5, c6⟩ := hc7
      have PI := hide (fun w' (hb : Below w.heap.size w w') => ih k (by simp) w' (HA.out.below hb) (ET.In.below hb k (inL_mem hkin k (by simp))) (hkr k.ex (by simp [exL])))
      generalize hev : ev (lns l) time k.ex = O at PI HE
      have HO := hide hev
      have rk := hide (hkr k.ex (by simp [exL]))
      simp only at e
      subst e
      subst hk1
      rw [HE.out]
      clear ih hev HIN HRT halone P1 hkr hkin sk
      unfold eval at PI
      obtain ⟨RES, hRES⟩ : ∃ RES, RES = (O.bind fun m => (allA wd bs [] m.cs).map fun c => (⟨false, c⟩ : Mn)) := ⟨_, rfl⟩
      rw [← hRES]
      have HRES := hide hRES
      clear hRES
      go_enter Try.func19, Try.ntmps19
      go_wp2_with fail
      rw [← HW.out]
      refine (PI.out W bel0).mono ?_
      rintro e w1 ⟨hp, b1⟩
      have G1 := below_block b1 G0
      have F1 := below_block b1 F0
      have bw : Below w.heap.size w w1 := bel0.trans (b1.mono bel0.size)
      have HP := hide hp
      clear hp c0 c1 c2 c3 c4 c5 c6 PI
      obtain ⟨t0, t1, t2, t3⟩ := two_cells G1
      rcases HP.out with ⟨ho, he⟩ | ⟨nb, cts, co, N, d, he, ho, hN, hC⟩
      · rw [he]
        have HE2 : Hid (RES = none) := by show _ = _; rw [HRES.out, ho]; rfl
        have l1 : w.heap.size + 1 < w1.heap.size := lt_of_block G1
        clear HP ho HRES HE he HO
        go_wp2
        exact bodyPost_ret (v := .tuple #[.agg #[.bool false, .slice none 0 0], .int .i64 3]) (by simp [results, Try.results19, go_sem, (err_done G1 (.cells #[.bool false, .slice none 0 0] 56)).1, (err_done G1 (.cells #[.bool false, .slice none 0 0] 56)).2]) rfl ⟨.inl ⟨HE2.out, rfl⟩, below_err bw (by omega) _⟩
      · rw [he]
        have HE2 : Hid (RES = (allA wd bs [] (cls cts)).map fun c => (⟨false, c⟩ : Mn)) := by show _ = _; rw [HRES.out, ho]; rfl
        have gd := HGD.out k.ex rk.out ⟨nb, cls cts⟩ (HO.out.trans ho)
        obtain ⟨V, hV⟩ : ∃ V, V = w1.alloc (.cells #[.bool nb, .slice co N d] 56) := ⟨_, rfl⟩
        have bV : Below w1.heap.size w1 V := by rw [hV]; exact (Below.refl _ _).alloc (Nat.le_refl _) _
        have hN8 : N ≤ 8 := by rw [hN, ← cls_len]; exact gd.len
        have PAl := hide (mall_any cts bs wd co ba N d bl bc V (hC.below bV) ((sb.below bw).below bV) hN HBL.out (by rw [HBL.out]; omega) gd.fine hN8)
        have HV := hide hV
        obtain ⟨p0, p1, p2, p3, p4, p5, p6⟩ := seven_cells F1
        have l0 : w.heap.size < w1.heap.size := lt_of_block F1
        have l1 : w.heap.size + 1 < w1.heap.size := lt_of_block G1
        have G2 := below_block bV G1
        have bW : Below w.heap.size w V := bw.trans (bV.mono bw.size)
        clear HP ho HRES HE he HO hV gd hC hN
        go_wp2_with fail
        rw [← HV.out]
        refine PAl.out.mono ?_
        rintro e w2 ⟨hp, b2⟩
        have G3 := below_block b2 G2
        have bX : Below w.heap.size w w2 := bW.trans (b2.mono bW.size)
        obtain ⟨t0, t1, t2, t3⟩ := two_cells G3
        have HP := hide hp
        clear hp PAl p0 p1 p2 p3 p4 p5 p6
        rcases HP.out with ⟨ho, he⟩ | ⟨nb2, cts2, co2, N2, d2, he, ho, hN, hC⟩
        · rw [he]
          have HE3 : Hid (RES = none) := by show _ = _; rw [HE2.out, ho]
          clear HP ho he HE2
          go_wp2
          exact bodyPost_ret (v := .tuple #[.agg #[.bool false, .slice none 0 0], .int .i64 3]) (by simp [results, Try.results19, go_sem, t0, t1]) rfl ⟨.inl ⟨HE3.out, rfl⟩, (bX.setCell (by show w.heap.size ≤ w.heap.size + 1; omega) _).setCell (by show w.heap.size ≤ w.heap.size + 1; omega) _⟩
        · rw [he]
          have HE3 : Hid (RES = some ⟨nb2, cls cts2⟩) := by show _ = _; rw [HE2.out, ho]
          have HN2 := hide hN
          clear HP ho he HE2 hN
          go_wp2
          exact bodyPost_ret (v := .tuple #[.agg #[.bool nb2, .slice co2 N2 d2], .int .i64 0]) (by simp [results, Try.results19, go_sem, t0, t1]) rfl ⟨.inr ⟨nb2, cts2, co2, N2, d2, rfl, HE3.out, HN2.out, hC.stored G3 nb2 _⟩, (bX.setCell (by show w.heap.size ≤ w.heap.size + 1; omega) _).setCell (by show w.heap.size ≤ w.heap.size + 1; omega) _⟩
  · match kids, k0, HKL, sk, hkin, hkr, ih, HRT with
    | [k, j], _, HKL, sk, hkin, hkr, ih, HRT =>
      have HE : Hid (ev (lns l) time (ET.node ⟨kd, en, rg, wd, ms, bs⟩ ⟨ma, mc, ba, bc, ka, kc⟩ [k, j]).ex = (ev (lns l) time k.ex).bind fun m => (ev (lns l) time j.ex).bind fun m' => binM m m' wd) := ev_bin e
      have hk1 : kl = 2 := by rw [HKL.out]; rfl
      obtain ⟨b, off, rfl, hb, hcell⟩ := seg_expr sk (k := 0) (by simp)
      have hc7 : Cells7 w b off k := by simpa using hcell 0 (by simp)
      have hd7 : Cells7 w b (off + 7) j := by simpa using hcell 1 (by simp)
      obtain ⟨c0, c1, c2, c3, c4, c5, c6⟩ := hc7
      have PI := hide (fun w' (hb : Below w.heap.size w w') => ih k (by simp) w' (HA.out.below hb) (ET.In.below hb k (inL_mem hkin k (by simp))) (hkr k.ex (by simp [exL])))
      have PJ := hide (fun w' (hb : Below w.heap.size w w') => ih j (by simp) w' (HA.out.below hb) (ET.In.below hb j (inL_mem hkin j (by simp))) (hkr j.ex (by simp [exL])))
      generalize hev : ev (lns l) time k.ex = O at PI HE
      generalize hev2 : ev (lns l) time j.ex = O2 at PJ HE
      have HO := hide hev
      have HO2 := hide hev2
      have rk := hide (hkr k.ex (by simp [exL]))
      have rj := hide (hkr j.ex (by simp [exL]))
      simp only at e
      subst e
      subst hk1
      rw [HE.out]
      clear ih hev hev2 HIN HRT halone P1 hkr hkin sk
      unfold eval at PI PJ
      obtain ⟨RES, hRES⟩ : ∃ RES, RES = (O.bind fun m => O2.bind fun m' => binM m m' wd) := ⟨_, rfl⟩
      rw [← hRES]
      have HRES := hide hRES
      have HD7 := hide hd7
      clear hRES hd7
      go_enter Try.func19, Try.ntmps19
      go_wp2_with fail
      rw [← HW.out]
      refine (PI.out W bel0).mono ?_
      rintro e w1 ⟨hp, b1⟩
      have G1 := below_block b1 G0
      have F1 := below_block b1 F0
      have bw : Below w.heap.size w w1 := bel0.trans (b1.mono bel0.size)
      have l0 : w.heap.size < w1.heap.size := lt_of_block F1
      have l1 : w.heap.size + 1 < w1.heap.size := lt_of_block G1
      have HP := hide hp
      clear hp c0 c1 c2 c3 c4 c5 c6 PI
      obtain ⟨t0, t1, t2, t3⟩ := two_cells G1
      rcases HP.out with ⟨ho, he⟩ | ⟨nb, cts, co, N, d, he, ho, hN, hC⟩
      · rw [he]
        have HE2 : Hid (RES = none) := by show _ = _; rw [HRES.out, ho]; rfl
        clear HP ho HRES HE he HO HO2
        go_wp2
        exact bodyPost_ret (v := .tuple #[.agg #[.bool false, .slice none 0 0], .int .i64 3]) (by simp [results, Try.results19, go_sem, (err_done G1 (.cells #[.bool false, .slice none 0 0] 56)).1, (err_done G1 (.cells #[.bool false, .slice none 0 0] 56)).2]) rfl ⟨.inl ⟨HE2.out, rfl⟩, below_err bw (by omega) _⟩
      · rw [he]
        have HE2 : Hid (RES = O2.bind fun m' => binM ⟨nb, cls cts⟩ m' wd) := by show _ = _; rw [HRES.out, ho]; rfl
        have gd := HGD.out k.ex rk.out ⟨nb, cls cts⟩ (HO.out.trans ho)
        obtain ⟨V, hV⟩ : ∃ V, V = w1.alloc (.cells #[.bool nb, .slice co N d] 56) := ⟨_, rfl⟩
        obtain ⟨X, hX⟩ : ∃ X, X = w1.heap.size := ⟨_, rfl⟩
        have X0 : V.heap[X]? = some (.cells #[.bool nb, .slice co N d] 56 (0, 0)) := by rw [hV, hX]; exact heap_alloc_new w1 _
        have bV : Below w1.heap.size w1 V := by rw [hV]; exact (Below.refl _ _).alloc (Nat.le_refl _) _
        have hCV := hC.below bV
        have HV := hide hV
        have HX := hide hX
        have HN := hide hN
        have HGK := hide gd
        obtain ⟨p0, p1, p2, p3, p4, p5, p6⟩ := seven_cells F1
        have G2 := below_block bV G1
        have F2 := below_block bV F1
        have bW : Below w.heap.size w V := bw.trans (bV.mono bw.size)
        obtain ⟨d0, d1, d2, d3, d4, d5, d6⟩ := HD7.out
        have q0 := (bw.cell (p := ⟨b, off + 7, none⟩) hb).trans d0
        have q1 := (bw.cell (p := ⟨b, off + 7 + 1, none⟩) hb).trans d1
        have q2 := (bw.cell (p := ⟨b, off + 7 + 2, none⟩) hb).trans d2
        have q3 := (bw.cell (p := ⟨b, off + 7 + 3, none⟩) hb).trans d3
        have q4 := (bw.cell (p := ⟨b, off + 7 + 4, none⟩) hb).trans d4
        have q5 := (bw.cell (p := ⟨b, off + 7 + 5, none⟩) hb).trans d5
        have q6 := (bw.cell (p := ⟨b, off + 7 + 6, none⟩) hb).trans d6
        have bl1 : b < w1.heap.size := Nat.lt_of_lt_of_le hb bw.size
        clear HP ho HRES HE he HO hV gd hC hN d0 d1 d2 d3 d4 d5 d6
        go_wp2_with fail
        rw [← HV.out]
        refine (PJ.out V bW).mono ?_
        rintro e w2 ⟨hp, b2⟩
        rw [← HX.out]
        have G3 := below_block b2 G2
        have F3 := below_block b2 F2
        have X1 := below_block b2 X0
        have hC2 := hCV.below b2
        have bX : Below w.heap.size w w2 := bW.trans (b2.mono bW.size)
        have l2 : w.heap.size < w2.heap.size := lt_of_block F3
        have l3 : w.heap.size + 1 < w2.heap.size := lt_of_block G3
        have l4 : X < w2.heap.size := lt_of_block X1
        obtain ⟨t0, t1, t2, t3⟩ := two_cells G3
        have HP := hide hp
        clear hp PJ p0 p1 p2 p3 p4 p5 p6 q0 q1 q2 q3 q4 q5 q6 HX hX HV
        rcases HP.out with ⟨ho, he⟩ | ⟨nb2, cts2, co2, N2, e2, he, ho, hN, hC⟩
        · rw [he]
          have HE3 : Hid (RES = none) := by show _ = _; rw [HE2.out, ho]; rfl
          clear HP ho he HE2
          go_wp2
          exact bodyPost_ret (v := .tuple #[.agg #[.bool false, .slice none 0 0], .int .i64 3]) (by simp [results, Try.results19, go_sem, (err_done G3 (.cells #[.bool false, .slice none 0 0] 56)).1, (err_done G3 (.cells #[.bool false, .slice none 0 0] 56)).2]) rfl ⟨.inl ⟨HE3.out, rfl⟩, below_err bX (by omega) _⟩
        · rw [he]
          have HE3 : Hid (RES = binM ⟨nb, cls cts⟩ ⟨nb2, cls cts2⟩ wd) := by show _ = _; rw [HE2.out, ho]; rfl
          have gd2 := HGD.out j.ex rj.out ⟨nb2, cls cts2⟩ (HO2.out.trans ho)
          have gd1 := HGK.out
          obtain ⟨U, hU⟩ : ∃ U, U = w2.alloc (.cells #[.bool nb2, .slice co2 N2 e2] 56) := ⟨_, rfl⟩
          have bU : Below w2.heap.size w2 U := by rw [hU]; exact (Below.refl _ _).alloc (Nat.le_refl _) _
          have PB := hide (mbin_any nb nb2 cts cts2 wd co co2 N d N2 e2 U (hC2.below bU) (hC.below bU) HN.out hN gd1.fine gd2.fine (by rw [HN.out, ← cls_len]; exact gd1.len) (by rw [hN, ← cls_len]; exact gd2.len) (fun h => by rw [HN.out, ← cls_len]; exact gd1.num h) (fun h => by rw [hN, ← cls_len]; exact gd2.num h))
          have HU := hide hU
          obtain ⟨x0, x1, _, _⟩ := two_cells X1
          obtain ⟨p0, p1, p2, p3, p4, p5, p6⟩ := seven_cells F3
          have G4 := below_block bU G3
          have bY : Below w.heap.size w U := bX.trans (bU.mono bX.size)
          clear HP ho he HE2 hU hN hC gd1 gd2 HO2
          go_wp2_with fail
          rw [← HU.out]
          refine PB.out.mono ?_
          rintro e w3 ⟨hp, b3⟩
          have G5 := below_block b3 G4
          have bZ : Below w.heap.size w w3 := bY.trans (b3.mono bY.size)
          obtain ⟨t0, t1, t2, t3⟩ := two_cells G5
          have HP := hide hp
          clear hp PB p0 p1 p2 p3 p4 p5 p6 x0 x1 HU
          rcases HP.out with ⟨ho, he⟩ | ⟨nb3, cts3, co3, N3, d3, he, ho, hN, hC⟩
          · rw [he]
            have HE4 : Hid (RES = none) := by show _ = _; rw [HE3.out, ho]
            clear HP ho he HE3
            go_wp2
            exact bodyPost_ret (v := .tuple #[.agg #[.bool false, .slice none 0 0], .int .i64 3]) (by simp [results, Try.results19, go_sem, t0, t1]) rfl ⟨.inl ⟨HE4.out, rfl⟩, (bZ.setCell (by show w.heap.size ≤ w.heap.size + 1; omega) _).setCell (by show w.heap.size ≤ w.heap.size + 1; omega) _⟩
          · rw [he]
            have HE4 : Hid (RES = some ⟨nb3, cls cts3⟩) := by show _ = _; rw [HE3.out, ho]
            have HN3 := hide hN
            clear HP ho he HE3 hN
            go_wp2
            exact bodyPost_ret (v := .tuple #[.agg #[.bool nb3, .slice co3 N3 d3], .int .i64 0]) (by simp [results, Try.results19, go_sem, t0, t1]) rfl ⟨.inr ⟨nb3, cts3, co3, N3, d3, rfl, HE4.out, HN3.out, hC.stored G5 nb3 _⟩, (bZ.setCell (by show w.heap.size ≤ w.heap.size + 1; omega) _).setCell (by show w.heap.size ≤ w.heap.size + 1; omega) _⟩

end Go.Proofs.Ytjgdjbphelkdoad

/-
  The walk of Ask.
-/
namespace Go.GrainU
open Go.RowKit

/-- what is answered of what comes -/
def askOf (o : Option Mn) : List Cl × Int := match o with | none => ([], 3) | some m => (m.cs, 0)

theorem wrLF_zero (l : List Ln) (n : Nat) : ∀ k, (wrLF l n k).1 = 0 → ∀ j, k ≤ j → j < k + n → lnBad l j = 0 := by
  induction n with
  | zero => intro k _ j h1 h2; omega
  | succ n ih =>
    intro k h j h1 h2
    by_cases hb : lnBad l k = 0
    · rw [wrLF_ok hb] at h
      rcases Nat.lt_or_ge k j with h3 | h3
      · exact ih (k + 1) h j h3 (by omega)
      · rw [show j = k from by omega]; exact hb
    · rw [wrLF_no hb] at h; exact absurd h hb

theorem wrLn_zero {l : List Ln} (h : (wrLn l).1 = 0) : l.length ≤ 8 ∧ ∀ k, k < l.length → lnBad l k = 0 := by
  unfold wrLn at h
  by_cases h8 : 8 < l.length
  · rw [if_pos h8] at h; simp at h
  · rw [if_neg h8] at h
    exact ⟨by omega, fun k hk => wrLF_zero l l.length 0 h k (Nat.zero_le _) (by omega)⟩

theorem lnBad_zero {l : List Ln} {k : Nat} (h : lnBad l k = 0) : wrongS (lser l k) = 0 ∧ (Grain.wrong (lsmp l k)).1 = 0 := by
  unfold lnBad at h
  by_cases h1 : lnAlone (lser l k, lsmp l k) = 0
  · unfold lnAlone at h1
    by_cases h2 : wrongS (lser l k) = 0
    · rw [if_pos h2] at h1; exact ⟨h2, h1⟩
    · rw [if_neg h2] at h1; exact absurd h1 h2
  · rw [if_neg h1] at h; exact absurd h h1

theorem wrongS_len {s : Lb} (h : wrongS s = 0) : s.length ≤ 4 := by
  unfold wrongS at h
  by_cases h4 : 4 < s.length
  · rw [if_pos h4] at h; simp at h
  · omega

theorem right_lines {l : List LT} (h : (wrLn (lns l)).1 = 0) : l.length ≤ 8 ∧ ∀ x ∈ l, LnRt x := by
  obtain ⟨h8, hk⟩ := wrLn_zero h
  rw [lns_len] at h8 hk
  refine ⟨h8, fun x hx => ?_⟩
  obtain ⟨k, hk', rfl⟩ := List.mem_iff_getElem.1 hx
  have hb := lnBad_zero (hk k hk')
  rw [lser_lt hk', lsmp_lt hk'] at hb
  have e : lt l k = l[k] := by simp [lt, List.getD, List.getElem?_eq_getElem hk']
  rw [e] at hb
  exact ⟨wrongS_len hb.1, Grain.right_of hb.2⟩

theorem chk_zero {e : Ex} {time : Int} (h : chk e time = 0) : Rt e ∧ 0 ≤ time ∧ time ≤ 1000000 := by
  unfold chk at h
  by_cases h1 : (wr e 1 0).1 = 0
  · rw [if_pos h1] at h
    by_cases h2 : typ e = 0
    · rw [if_pos h2] at h
      by_cases h3 : time < 0 ∨ 1000000 < time
      · rw [if_pos h3] at h; simp at h
      · exact ⟨(wr_ok e 1 0 (by omega) h1).1, by omega, by omega⟩
    · rw [if_neg h2] at h; exact absurd h h2
  · rw [if_neg h1] at h; exact absurd h h1

end Go.GrainU
namespace Go.Proofs.Ytjgdjbphelkdoad
open Go.RowKit Go.GrainU

set_option maxRecDepth 100000 in
set_option maxHeartbeats 4000000 in
theorem mask_any (l : List LT) (t : ET) (time : Int) (ao : Option Addr) (n cap : Nat) (w : World) (hs : Seg w ao (tcells l)) (hl : LnsIn w l) (hin : t.In w) (hn : n = l.length) :
    Calls Try.prog 7 #[.slice ao n cap, eval t, .int .i64 time] w fun e w' => ∃ cts co N d, e = .returned (.tuple #[.slice co N d, .int .i64 (GrainU.ask (lns l) t.ex time).2]) ∧ cls cts = (GrainU.ask (lns l) t.ex time).1 ∧ N = cts.length ∧ CsIn w' co cts ∧ Below w.heap.size w w' := by
  obtain ⟨E, hE⟩ : ∃ E, E = (wrLn (lns l)).1 := ⟨_, rfl⟩
  obtain ⟨A, hA⟩ : ∃ A, A = (wrLn (lns l)).2 := ⟨_, rfl⟩
  obtain ⟨C, hC⟩ : ∃ C, C = chk t.ex time := ⟨_, rfl⟩
  obtain ⟨R, hR⟩ : ∃ R, R = GrainU.ask (lns l) t.ex time := ⟨_, rfl⟩
  have HR : Hid (R = if E = 0 then (if C = 0 then askOf (ev (lns l) time t.ex) else ([], C)) else ([], E)) := by
    show _ = _
    rw [hR, hE, hC]; rfl
  rw [← hR]
  clear hR
  have PW := hide (fun w' (hb : Below w.heap.size w w') => mwrong_any l ao n cap w' (hs.below hb) (hl.below hb) hn)
  have PC := hide (fun w' (hb : Below w.heap.size w w') => mcheck_any t time w' (ET.In.below hb t hin))
  rw [← hE, ← hA] at PW
  rw [← hC] at PC
  have PM := hide (fun (h0 : E = 0) (h1 : C = 0) B1 B2 w' (hb : Below w.heap.size w w') (k1 : w'.cell? ⟨B1, 0, none⟩ = some (.slice ao n cap)) (k2 : w'.cell? ⟨B2, 0, none⟩ = some (.int .i64 time)) => by
    have r1 := right_lines (hE.symm.trans h0)
    have r2 := chk_zero (hC.symm.trans h1)
    exact mcomes_any l time ao n cap B1 B2 r1.2 hn (by rw [hn]; exact r1.1) r2.2.1 r2.2.2 t w' ⟨k1, k2, hs.below hb, hl.below hb⟩ (ET.In.below hb t hin) r2.1)
  generalize hev : ev (lns l) time t.ex = O at PM HR
  clear hev hE hA hC hs hl hin hn
  unfold eval at PC PM ⊢
  generalize t.hd.ms.length = ml at PC PM ⊢
  generalize t.hd.bs.length = bl at PC PM ⊢
  generalize t.kids.length = kl at PC PM ⊢
  obtain ⟨W, hW⟩ : ∃ W, W = ((w.alloc (.cells #[.slice ao n cap] 22)).alloc (.cells #[.int .i64 t.hd.kind, .int .i64 t.hd.n, .int .i64 t.hd.range, .string t.hd.word, .slice t.sp.ma ml t.sp.mc, .slice t.sp.ba bl t.sp.bc, .slice t.sp.ka kl t.sp.kc] 27)).alloc (.cells #[.int .i64 time] 3) := ⟨_, rfl⟩
  have bel0 : Below w.heap.size w W := by rw [hW]; exact (((Below.refl _ _).alloc (Nat.le_refl _) _).alloc (by simp) _).alloc (by simp; omega) _
  have A0 : W.heap[w.heap.size]? = some (.cells #[.slice ao n cap] 22 (0, 0)) := by rw [hW, Below.heap_alloc _ _ _ (by simp; omega), Below.heap_alloc _ _ _ (by simp)]; exact heap_alloc_new w _
  have F0 : W.heap[w.heap.size + 1]? = some (.cells #[.int .i64 t.hd.kind, .int .i64 t.hd.n, .int .i64 t.hd.range, .string t.hd.word, .slice t.sp.ma ml t.sp.mc, .slice t.sp.ba bl t.sp.bc, .slice t.sp.ka kl t.sp.kc] 27 (0, 0)) := by
    rw [hW, Below.heap_alloc _ _ _ (by simp)]
    have := heap_alloc_new (w.alloc (.cells #[.slice ao n cap] 22)) (.cells #[.int .i64 t.hd.kind, .int .i64 t.hd.n, .int .i64 t.hd.range, .string t.hd.word, .slice t.sp.ma ml t.sp.mc, .slice t.sp.ba bl t.sp.bc, .slice t.sp.ka kl t.sp.kc] 27)
    simpa using this
  have T0 : W.heap[w.heap.size + 1 + 1]? = some (.cells #[.int .i64 time] 3 (0, 0)) := by
    have := heap_alloc_new ((w.alloc (.cells #[.slice ao n cap] 22)).alloc (.cells #[.int .i64 t.hd.kind, .int .i64 t.hd.n, .int .i64 t.hd.range, .string t.hd.word, .slice t.sp.ma ml t.sp.mc, .slice t.sp.ba bl t.sp.bc, .slice t.sp.ka kl t.sp.kc] 27)) (.cells #[.int .i64 time] 3)
    rw [hW]; simpa using this
  have HW := hide hW
  clear hW
  go_enter Try.func7, Try.ntmps7
  go_wp2_with fail
  rw [← HW.out]
  refine (PW.out W bel0).mono ?_
  rintro e w1 ⟨rfl, b1⟩
  have A1 := below_block b1 A0
  have F1 := below_block b1 F0
  have T1 := below_block b1 T0
  have bw : Below w.heap.size w w1 := bel0.trans (b1.mono bel0.size)
  obtain ⟨V, hV⟩ : ∃ V, V = w1.alloc (.cells #[.int .i64 E, .int .i64 A] 34) := ⟨_, rfl⟩
  have bV : Below w1.heap.size w1 V := by rw [hV]; exact (Below.refl _ _).alloc (Nat.le_refl _) _
  have bW : Below w.heap.size w V := bw.trans (bV.mono bw.size)
  have HV := hide hV
  clear hV PW
  by_cases h0 : E = 0
  · have HR1 : Hid (R = if C = 0 then askOf O else ([], C)) := by show _ = _; rw [HR.out, if_pos h0]
    subst h0
    clear HR
    obtain ⟨p0, p1, p2, p3, p4, p5, p6⟩ := seven_cells F1
    have q0 : w1.cell? ⟨w.heap.size + 1 + 1, 0, none⟩ = some (.int .i64 time) := by simp [World.cell?, T1]
    have l1 : w.heap.size + 1 < w1.heap.size := lt_of_block F1
    have l2 : w.heap.size + 1 + 1 < w1.heap.size := lt_of_block T1
    go_wp2_with fail
    rw [← HV.out]
    refine (PC.out V bW).mono ?_
    rintro e w2 ⟨rfl, b2⟩
    have A2 := below_block b2 (below_block bV A1)
    have F2 := below_block b2 (below_block bV F1)
    have T2 := below_block b2 (below_block bV T1)
    have bX : Below w.heap.size w w2 := bW.trans (b2.mono bW.size)
    clear p0 p1 p2 p3 p4 p5 p6 q0 l1 l2 PC
    by_cases h1 : C = 0
    · subst h1
      have k1 : w2.cell? ⟨w.heap.size, 0, none⟩ = some (.slice ao n cap) := by simp [World.cell?, A2]
      have k2 : w2.cell? ⟨w.heap.size + 1 + 1, 0, none⟩ = some (.int .i64 time) := by simp [World.cell?, T2]
      have HR2 : Hid (R = askOf O) := by show _ = _; rw [HR1.out, if_pos rfl]
      have PM2 := hide (PM.out (by first | trivial | rfl) (by first | trivial | rfl) w.heap.size (w.heap.size + 1 + 1) w2 bX k1 k2)
      obtain ⟨p0, p1, p2, p3, p4, p5, p6⟩ := seven_cells F2
      clear HR1 PM
      go_wp2_with fail
      refine PM2.out.mono ?_
      rintro e w3 ⟨hp, b3⟩
      have bY : Below w.heap.size w w3 := bX.trans (b3.mono bX.size)
      have HP := hide hp
      clear hp PM2 p0 p1 p2 p3 p4 p5 p6
      rcases HP.out with ⟨ho, he⟩ | ⟨nb, cts, co, N, d, he, ho, hN, hC⟩
      · rw [he]
        have HE2 : Hid (R = ([], 3)) := by show _ = _; rw [HR2.out, ho]; rfl
        clear HP ho he HR2
        go_wp2
        go_ret2
        exact ⟨[], none, 0, 0, by rw [HE2.out]; rfl, by rw [HE2.out]; rfl, rfl, ⟨.inl rfl, fun c hc => by cases hc⟩, bY.alloc bY.size _⟩
      · rw [he]
        have HE2 : Hid (R = (cls cts, 0)) := by show _ = _; rw [HR2.out, ho]; rfl
        have HN := hide hN
        have bz : Below w3.heap.size w3 (w3.alloc (.cells #[.bool nb, .slice co N d] 56)) := (Below.refl _ _).alloc (Nat.le_refl _) _
        have hC2 := hC.below bz
        clear HP ho he HR2 hN
        go_wp2
        go_ret2
        exact ⟨cts, co, N, d, by rw [HE2.out]; rfl, by rw [HE2.out], HN.out, hC2, bY.alloc bY.size _⟩
    · have HR2 : Hid (R = ([], C)) := by show _ = _; rw [HR1.out, if_neg h1]
      have hd : (C != 0) = true := by simpa using h1
      clear h1 HR1 PM
      go_wp2
      go_ret2
      exact ⟨[], none, 0, 0, by rw [HR2.out]; rfl, by rw [HR2.out]; rfl, rfl, ⟨.inl rfl, fun c hc => by cases hc⟩, bX⟩
  · have HR1 : Hid (R = ([], E)) := by show _ = _; rw [HR.out, if_neg h0]
    have hd : (E != 0) = true := by simpa using h0
    clear h0 HR PC PM
    go_wp2
    go_quiet (fail)
    go_wp2
    go_ret2
    exact ⟨[], none, 0, 0, by rw [HR1.out]; rfl, by rw [HR1.out]; rfl, rfl, ⟨.inl rfl, fun c hc => by cases hc⟩, by first | exact below_drewN (bw.alloc bw.size _) _ | exact (below_drewN bw _).alloc (below_drewN bw _).size _⟩

end Go.Proofs.Ytjgdjbphelkdoad

/-
  The walk of SameSeries.
-/
namespace Go.Proofs.Ytjgdjbphelkdoad
open Go.RowKit Go.GrainU

set_option maxHeartbeats 1000000 in
theorem sames_any (a b : List (ByteArray × ByteArray)) (ao bo : Option Addr) (n m c c' : Nat) (w : World) (ha : Seg w ao (lcells a)) (hb : Seg w bo (lcells b)) (hn : n = a.length) (hm : m = b.length) (hc : n ≤ 9223372036854775807) :
    Calls Try.prog 17 #[.slice ao n c, .slice bo m c'] w fun e w' => e = .returned (.bool (decide (a = b))) ∧ Below w.heap.size w w' := by
  have HN := hide hn
  have HM := hide hm
  clear hn hm
  by_cases hl : n = m
  · subst hl
    have hz : ((n : Int) != (n : Int)) = false := by simp
    go_enter Try.func17, Try.ntmps17
    go_wp2
    go_loopw [13] (fun i wr => ∃ (k : Nat), k ≤ n ∧ i = .int .i64 k ∧ Hid (a.take k = b.take k) ∧ Below w.heap.size w wr) (fun i _ => n - (intOf i).toNat)
    case atStart => exact ⟨0, Nat.zero_le _, rfl, rfl, Below.refl _ _⟩
    case round =>
      obtain ⟨k, hk, rfl, HT, bel⟩ := hrel
      by_cases hlt : k < n
      · have h1 : k < a.length := by rw [← HN.out]; exact hlt
        have h2 : k < b.length := by rw [← HM.out]; exact hlt
        obtain ⟨p, off, rfl, hbl, hcell⟩ := seg_label ha h1
        obtain ⟨p', off', rfl, hbl', hcell'⟩ := seg_label hb h2
        obtain ⟨x, hx⟩ : ∃ x, x = lk a k := ⟨_, rfl⟩
        obtain ⟨y, hy⟩ : ∃ y, y = lv a k := ⟨_, rfl⟩
        obtain ⟨x', hx'⟩ : ∃ x, x = lk b k := ⟨_, rfl⟩
        obtain ⟨y', hy'⟩ : ∃ y, y = lv b k := ⟨_, rfl⟩
        have c0 : wr.cell? ⟨p, off + k * 2, none⟩ = some (.string x) := by rw [hx]; exact (bel.cell (by exact hbl)).trans (hcell k h1).1
        have c1 : wr.cell? ⟨p, off + k * 2 + 1, none⟩ = some (.string y) := by rw [hy]; exact (bel.cell (by exact hbl)).trans (hcell k h1).2
        have d0 : wr.cell? ⟨p', off' + k * 2, none⟩ = some (.string x') := by rw [hx']; exact (bel.cell (by exact hbl')).trans (hcell' k h2).1
        have d1 : wr.cell? ⟨p', off' + k * 2 + 1, none⟩ = some (.string y') := by rw [hy']; exact (bel.cell (by exact hbl')).trans (hcell' k h2).2
        clear hcell hcell'
        have HA := take_lab h1
        have HB := take_lab h2
        rw [← hx, ← hy] at HA
        rw [← hx', ← hy'] at HB
        have HA' := hide HA
        have HB' := hide HB
        have NO : Hid ((x, y) ≠ (x', y') → decide (a = b) = false) := by
          intro hne
          have : a ≠ b := by
            intro e
            have e2 := congrArg (List.take (k + 1)) e
            rw [HA'.out, HB'.out] at e2
            have e3 := (List.append_inj' e2 rfl).2
            simp at e3
            exact hne (by rw [e3.1, e3.2])
          simpa using this
        clear HA HB h1 h2 hx hy hx' hy'
        by_cases e1 : x = x'
        · subst e1
          obtain ⟨v1, v2⟩ := word_self x
          by_cases e2 : y = y'
          · subst e2
            obtain ⟨v3, v4⟩ := word_self y
            have HT' : Hid (a.take (k + 1) = b.take (k + 1)) := by
              show a.take (k + 1) = b.take (k + 1)
              rw [HA'.out, HB'.out, HT.out]
            clear HA' HB' HT NO
            go_wp2
            go_quiet (fail)
            go_wp2
            go_roundw
            case rel => exact ⟨k + 1, by omega, by go_num, HT', below_drewN bel _⟩
            case measure => simp [intOf]; omega
          · obtain ⟨v3, v4⟩ := word_ne e2
            have NN := hide (NO.out (by intro h; simp at h; exact e2 h))
            clear HA' HB' HT NO e2
            go_wp2
            go_quiet (fail)
            go_wp2
            go_ret
            exact ⟨ret_bool NN.out.symm, below_drewN bel _⟩
        · obtain ⟨v1, v2⟩ := word_ne e1
          have NN := hide (NO.out (by intro h; simp at h; exact e1 h.1))
          clear HA' HB' HT NO e1
          go_wp2
          go_quiet (fail)
          go_wp2
          go_ret
          exact ⟨ret_bool NN.out.symm, below_drewN bel _⟩
      · have he : k = n := by omega
        subst he
        have hab : a = b := by
          have := HT.out
          rwa [List.take_of_length_le (by rw [← HN.out]; omega), List.take_of_length_le (by rw [← HM.out]; omega)] at this
        clear HT
        go_wp2
        go_ret
        exact ⟨ret_bool (by simp [hab]), bel⟩
  · have hz : ((n : Int) != (m : Int)) = true := by simp; omega
    have hab : Hid (decide (a = b) = false) := by
      show decide (a = b) = false
      have : a ≠ b := by
        intro e
        apply hl
        rw [HN.out, HM.out, e]
      simpa using this
    clear hl
    go_enter Try.func17, Try.ntmps17
    go_wp2
    go_ret
    exact ⟨ret_bool hab.out.symm, Below.refl _ _⟩

end Go.Proofs.Ytjgdjbphelkdoad

/-
  The walk of the document's SameCells, at cells that are the same.
-/
namespace Go.Proofs.Ytjgdjbphelkdoad
open Go.RowKit Go.GrainU

theorem cls_ct {a b : List CT} (h : cls a = cls b) {k : Nat} (hk : k < a.length) (hk' : k < b.length) : (ct a k).ser = (ct b k).ser ∧ (ct a k).v = (ct b k).v := by
  have e : (cls a)[k]? = (cls b)[k]? := by rw [h]
  simp [cls, List.getElem?_eq_getElem hk, List.getElem?_eq_getElem hk', CT.cl] at e
  have e1 : ct a k = a[k] := by simp [ct, List.getD, List.getElem?_eq_getElem hk]
  have e2 : ct b k = b[k] := by simp [ct, List.getD, List.getElem?_eq_getElem hk']
  rw [e1, e2]
  exact e

set_option maxRecDepth 100000 in
set_option maxHeartbeats 4000000 in
theorem rsamec_any (a b : List CT) (ao bo : Option Addr) (n m c c' : Nat) (w : World) (ha : CsIn w ao a) (hb : CsIn w bo b) (hn : n = a.length) (hm : m = b.length) (h : cls a = cls b) (h8 : ∀ x ∈ a, x.ser.length ≤ 9223372036854775807) (hn8 : n ≤ 9223372036854775806) :
    Calls Try.prog 9 #[.slice ao n c, .slice bo m c'] w fun e w' => e = .returned (.bool true) ∧ Below w.heap.size w w' := by
  have hnm : m = n := by rw [hn, hm, ← cls_len, ← cls_len, h]
  subst hnm
  have HN := hide hn
  have HM := hide hm
  have HH := hide h
  have H8 := hide h8
  clear hn hm h h8
  have hd : ((m : Int) != (m : Int)) = false := by simp
  go_enter Try.func9, Try.ntmps9
  go_wp2
  go_loopw [13] (fun i wr => ∃ k : Nat, k ≤ m ∧ i = .int .i64 k ∧ Below w.heap.size w wr) (fun i _ => m - (intOf i).toNat)
  case atStart => exact ⟨0, Nat.zero_le _, rfl, Below.refl _ _⟩
  case round =>
    obtain ⟨k, hk, rfl, bel⟩ := hrel
    have hsz := bel.size
    by_cases hlt : k < m
    · have hka : k < a.length := by rw [← HN.out]; exact hlt
      have hkb : k < b.length := by rw [← HM.out]; exact hlt
      obtain ⟨p, off, rfl, hbl, hcell⟩ := seg_cell ha.seg hka
      obtain ⟨p', off', rfl, hbl', hcell'⟩ := seg_cell hb.seg hkb
      obtain ⟨x, hx⟩ : ∃ x, x = ct a k := ⟨_, rfl⟩
      obtain ⟨y, hy⟩ : ∃ y, y = ct b k := ⟨_, rfl⟩
      obtain ⟨es, ev⟩ := cls_ct HH.out hka hkb
      rw [← hx, ← hy] at es ev
      obtain ⟨xn, hxn⟩ : ∃ xn, xn = x.ser.length := ⟨_, rfl⟩
      obtain ⟨v, hv⟩ : ∃ v, v = x.v := ⟨_, rfl⟩
      have sx : Seg w x.sa (lcells x.ser) := by rw [hx]; exact ha.ser _ (ct_mem hka)
      have sy : Seg w y.sa (lcells x.ser) := by rw [es, hy]; exact hb.ser _ (ct_mem hkb)
      have c0 : wr.cell? ⟨p, off + k * 2, none⟩ = some (.slice x.sa xn x.sc) := by rw [hxn, hx]; exact (bel.cell (by exact hbl)).trans (hcell k hka).1
      have c1 : wr.cell? ⟨p, off + k * 2 + 1, none⟩ = some (.int .i64 v) := by rw [hv, hx]; exact (bel.cell (by exact hbl)).trans (hcell k hka).2
      have d0 : wr.cell? ⟨p', off' + k * 2, none⟩ = some (.slice y.sa xn y.sc) := by rw [hxn, es, hy]; exact (bel.cell (by exact hbl')).trans (hcell' k hkb).1
      have d1 : wr.cell? ⟨p', off' + k * 2 + 1, none⟩ = some (.int .i64 v) := by rw [hv, ev, hy]; exact (bel.cell (by exact hbl')).trans (hcell' k hkb).2
      have x8 : xn ≤ 9223372036854775807 := by rw [hxn, hx]; exact H8.out _ (ct_mem hka)
      have hp1 : p < wr.heap.size := World.block_lt_of_cell? wr _ c0
      have hp2 : p' < wr.heap.size := World.block_lt_of_cell? wr _ d0
      have PS : Hid (∀ w', Below w.heap.size w w' → Calls Try.prog 17 #[.slice x.sa xn x.sc, .slice y.sa xn y.sc] w' fun e w'' => e = .returned (.bool true) ∧ Below w'.heap.size w' w'') := fun w' hb' => by
        have := sames_any x.ser x.ser x.sa y.sa xn xn x.sc y.sc w' (sx.below hb') (sy.below hb') hxn hxn x8
        simpa using this
      have HS : Hid (∀ w', Below wr.heap.size wr w' → w'.cell? ⟨p, off + k * 2, none⟩ = some (.slice x.sa xn x.sc) ∧ w'.cell? ⟨p, off + k * 2 + 1, none⟩ = some (.int .i64 v) ∧ w'.cell? ⟨p', off' + k * 2, none⟩ = some (.slice y.sa xn y.sc) ∧ w'.cell? ⟨p', off' + k * 2 + 1, none⟩ = some (.int .i64 v)) := fun w' hb' =>
        ⟨(hb'.cell (by exact hp1)).trans c0, (hb'.cell (by exact hp1)).trans c1, (hb'.cell (by exact hp2)).trans d0, (hb'.cell (by exact hp2)).trans d1⟩
      have R0 : Below wr.heap.size wr wr.drew := below_drewN (Below.refl _ _) 1
      have hvv : (v != v) = false := by simp
      clear hcell hcell' hx hy es ev hxn hv hka hkb c0 c1 d0 d1
      go_wp2_with fail
      have i7 : k < m := hlt
      have i2 : (k : Int) < (m : Int) := by omega
      go_region_held3 (fun w' => w'.cell? ⟨p, off + k * 2, none⟩ = some (.slice x.sa xn x.sc) ∧ w'.cell? ⟨p, off + k * 2 + 1, none⟩ = some (.int .i64 v) ∧ w'.cell? ⟨p', off' + k * 2, none⟩ = some (.slice y.sa xn y.sc) ∧ w'.cell? ⟨p', off' + k * 2 + 1, none⟩ = some (.int .i64 v)) (exact HS.out _ (by with_reducible assumption))
        (first | (go_at_call 17; refine (PS.out _ (bel.trans (Below.mono (by with_reducible assumption) bel.size))).mono ?_; rintro e w3 ⟨rfl, b3⟩; have R4 := below_step b3 (by with_reducible assumption)))
      all_goals
        have bel3 : Below w.heap.size w w3 := bel.trans (R4.mono bel.size)
        clear R4 b3 R0 HS PS bel
        go_wp2
        go_roundw
        case rel => exact ⟨k + 1, by omega, by go_num, bel3⟩
        case measure => simp [intOf]; omega
    · go_wp2
      go_ret
      exact ⟨rfl, bel⟩

end Go.Proofs.Ytjgdjbphelkdoad

/-
  The closed fact that is asked first.
-/
namespace Go.GrainU
open Go.RowKit

def aLines : List Ln := [([(⟨#[104, 111, 115, 116]⟩, ⟨#[97]⟩)], [(5, 7), (15, 9)]), ([(⟨#[104, 111, 115, 116]⟩, ⟨#[98]⟩)], [(8, 1)])]
def aSum : Hd := ⟨2, 0, 100, ⟨#[115, 117, 109]⟩, [], []⟩
def aAll : Hd := ⟨3, 0, 0, ⟨#[115, 117, 109]⟩, [], []⟩
def aEx : Ex := .mk aAll [.mk aSum []]

set_option maxRecDepth 100000 in
theorem a_ask : GrainU.ask aLines aEx 20 = ([([], 17)], 0) := by kernel_rfl

end Go.GrainU
namespace Go.Proofs.Ytjgdjbphelkdoad
open Go.RowKit Go.GrainU

/-- the lines, as they lie behind w -/
def aLT (A : Nat) : List LT := [⟨[(⟨#[104, 111, 115, 116]⟩, ⟨#[97]⟩)], [(5, 7), (15, 9)], some ⟨A, 0, none⟩, 1, some ⟨A + 1, 0, none⟩, 2⟩, ⟨[(⟨#[104, 111, 115, 116]⟩, ⟨#[98]⟩)], [(8, 1)], some ⟨A + 1 + 1, 0, none⟩, 1, some ⟨A + 1 + 1 + 1, 0, none⟩, 1⟩]

theorem aLT_lns (A : Nat) : lns (aLT A) = aLines := rfl

theorem seg_al {w : World} {ao : Option Addr} {xs : List Value} (h : Seg w ao xs) (o : Obj) : Seg (w.alloc o) ao xs := h.below ((Below.refl _ _).alloc (Nat.le_refl _) _)

theorem seg_at (w : World) (A : Nat) (hA : w.heap.size = A) (cs : Array Value) (t : TypeId) : Seg (w.alloc (.cells cs t)) (some ⟨A, 0, none⟩) cs.toList := by subst hA; exact seg_new w cs t

theorem fits_one (a b : ByteArray) (ha : a.size ≤ 12) (hb : b.size ≤ 12) : Fits [(a, b)] := by
  intro k hk
  simp at hk
  subst hk
  exact ⟨by show a.size ≤ _; omega, by show b.size ≤ _; omega⟩

set_option maxRecDepth 100000 in
set_option maxHeartbeats 2000000 in
theorem alines_any (w : World) : Calls Try.prog 36 #[] w fun e w' => ∃ g, e = .returned (.slice (some ⟨g, 0, none⟩) 2 2) ∧ Seg w' (some ⟨g, 0, none⟩) (tcells (aLT w.heap.size)) ∧ LnsIn w' (aLT w.heap.size) ∧ Below w.heap.size w w' := by
  go_enter Try.func36, Try.ntmps36
  go_wp2
  go_ret
  have s1 := seg_at w w.heap.size rfl #[.string ⟨#[104, 111, 115, 116]⟩, .string ⟨#[97]⟩] 51
  have s2 := seg_at (w.alloc (.cells #[.string ⟨#[104, 111, 115, 116]⟩, .string ⟨#[97]⟩] 51)) (w.heap.size + 1) (by simp) #[.int .i64 5, .int .i64 7, .int .i64 15, .int .i64 9] 54
  have s3 := seg_at ((w.alloc (.cells #[.string ⟨#[104, 111, 115, 116]⟩, .string ⟨#[97]⟩] 51)).alloc (.cells #[.int .i64 5, .int .i64 7, .int .i64 15, .int .i64 9] 54)) (w.heap.size + 1 + 1) (by simp) #[.string ⟨#[104, 111, 115, 116]⟩, .string ⟨#[98]⟩] 51
  have s4 := seg_at (((w.alloc (.cells #[.string ⟨#[104, 111, 115, 116]⟩, .string ⟨#[97]⟩] 51)).alloc (.cells #[.int .i64 5, .int .i64 7, .int .i64 15, .int .i64 9] 54)).alloc (.cells #[.string ⟨#[104, 111, 115, 116]⟩, .string ⟨#[98]⟩] 51)) (w.heap.size + 1 + 1 + 1) (by simp) #[.int .i64 8, .int .i64 1] 54
  have s5 := seg_at ((((w.alloc (.cells #[.string ⟨#[104, 111, 115, 116]⟩, .string ⟨#[97]⟩] 51)).alloc (.cells #[.int .i64 5, .int .i64 7, .int .i64 15, .int .i64 9] 54)).alloc (.cells #[.string ⟨#[104, 111, 115, 116]⟩, .string ⟨#[98]⟩] 51)).alloc (.cells #[.int .i64 8, .int .i64 1] 54)) (w.heap.size + 1 + 1 + 1 + 1) (by simp) #[.slice (some ⟨w.heap.size, 0, none⟩) 1 1, .slice (some ⟨w.heap.size + 1, 0, none⟩) 2 2, .slice (some ⟨w.heap.size + 1 + 1, 0, none⟩) 1 1, .slice (some ⟨w.heap.size + 1 + 1 + 1, 0, none⟩) 1 1] 49
  refine ⟨_, rfl, s5, ?_, ?_⟩
  · intro x hx
    simp only [aLT, List.mem_cons, List.not_mem_nil, or_false] at hx
    rcases hx with e | e
    · subst e
      exact ⟨seg_al (seg_al (seg_al (seg_al s1 _) _) _) _, seg_al (seg_al (seg_al s2 _) _) _, fits_one _ _ (by decide) (by decide), (by simp), (by simp), fun h => (by cases h), (by simp), fun h => (by cases h)⟩
    · subst e
      exact ⟨seg_al (seg_al s3 _) _, seg_al s4 _, fits_one _ _ (by decide) (by decide), (by simp), (by simp), fun h => (by cases h), (by simp), fun h => (by cases h)⟩
  · exact (((((Below.refl _ _).alloc (Nat.le_refl _) _).alloc (by simp) _).alloc (by simp; omega) _).alloc (by simp; omega) _).alloc (by simp; omega) _

set_option maxRecDepth 100000 in
set_option maxHeartbeats 2000000 in
theorem asum_any (w : World) : Calls Try.prog 37 #[] w fun e w' => e = .returned (.agg #[.int .i64 2, .int .i64 0, .int .i64 100, .string ⟨#[115, 117, 109]⟩, .slice none 0 0, .slice none 0 0, .slice none 0 0]) ∧ Below w.heap.size w w' := by
  go_enter Try.func37, Try.ntmps37
  go_wp2
  exact bodyPost_ret (v := .agg #[.int .i64 2, .int .i64 0, .int .i64 100, .string ⟨#[115, 117, 109]⟩, .slice none 0 0, .slice none 0 0, .slice none 0 0]) (by simp [results, Try.results37, go_sem]) rfl ⟨rfl, by go_grown⟩

/-- the expression, its kid in block K -/
def aKid : ET := .node aSum ⟨none, 0, none, 0, none, 0⟩ []
def aET (K : Nat) : ET := .node aAll ⟨none, 0, none, 0, some ⟨K, 0, none⟩, 1⟩ [aKid]

set_option maxRecDepth 100000 in
set_option maxHeartbeats 4000000 in
theorem malive_any (w : World) : Calls Try.prog 14 #[] w fun e w' => e = .returned (.bool true) ∧ Below w.heap.size w w' := by
  go_enter Try.func14, Try.ntmps14
  go_wp2_with fail
  refine (alines_any w).mono ?_
  rintro e w1 ⟨g, rfl, hs, hl, b1⟩
  generalize hA : aLT w.heap.size = LL at hs hl
  have HLL : Hid (lns LL = aLines ∧ LL.length = 2) := by rw [← hA]; exact ⟨rfl, rfl⟩
  clear hA
  go_wp2_with fail
  refine (asum_any w1).mono ?_
  rintro e w2 ⟨rfl, b2⟩
  have b12 : Below w.heap.size w w2 := b1.trans (b2.mono b1.size)
  obtain ⟨V, hV⟩ : ∃ V, V = w2.alloc (.cells #[.int .i64 2, .int .i64 0, .int .i64 100, .string ⟨#[115, 117, 109]⟩, .slice none 0 0, .slice none 0 0, .slice none 0 0] 27) := ⟨_, rfl⟩
  have bV : Below w2.heap.size w2 V := by rw [hV]; exact (Below.refl _ _).alloc (Nat.le_refl _) _
  have sk : Seg V (some ⟨w2.heap.size, 0, none⟩) (ecells [aKid]) := by rw [hV]; exact seg_at w2 w2.heap.size rfl _ _
  have hin : (aET w2.heap.size).In V := by
    simp only [aET, aKid, ET.In, InL, aAll, aSum, mcells, wcells, ecells, List.map_nil]
    refine ⟨⟨.inl rfl, .inl rfl, sk⟩, ⟨by decide, by decide, by decide, by decide, fun m hm => (by cases hm), fun b hb => (by cases hb), by decide, fun m hm => (by cases hm)⟩, ⟨⟨.inl rfl, .inl rfl, .inl rfl⟩, ⟨by decide, by decide, by decide, by decide, fun m hm => (by cases hm), fun b hb => (by cases hb), by decide, fun m hm => (by cases hm)⟩, trivial⟩, trivial⟩
  have PM := mask_any LL (aET w2.heap.size) 20 (some ⟨g, 0, none⟩) 2 2 V ((hs.below b2).below bV) ((hl.below b2).below bV) hin HLL.out.2.symm
  have hask : GrainU.ask (lns LL) (aET w2.heap.size).ex 20 = ([([], 17)], 0) := by rw [HLL.out.1]; exact a_ask
  rw [hask] at PM
  have HPM := hide PM
  have HV := hide hV
  clear hV PM hask sk hin hs hl HLL
  go_wp2_with fail
  rw [← HV.out]
  refine HPM.out.mono ?_
  rintro e w3 ⟨cts, co, N, d, rfl, hc, hN, hC, b3⟩
  have b4 : Below w.heap.size w w3 := b12.trans ((bV.trans (b3.mono bV.size)).mono b12.size)
  obtain ⟨c, rfl⟩ : ∃ c, cts = [c] := by
    have := congrArg List.length hc
    simp [cls] at this
    exact List.length_eq_one_iff.1 this
  simp [cls, CT.cl] at hc
  obtain ⟨h1, h2⟩ := hc
  obtain ⟨b, off, rfl, hb, hcell⟩ := seg_cell hC.seg (k := 0) (by simp)
  have k0 := (hcell 0 (by simp)).1
  have k1 := (hcell 0 (by simp)).2
  simp [ct, h1, h2] at k0 k1
  simp at hN
  subst hN
  clear hcell hC h1 h2 HPM
  go_wp2
  go_ret
  exact ⟨rfl, b4⟩

end Go.Proofs.Ytjgdjbphelkdoad

/-
  All later is the same, later. No program is named here.
-/
namespace Go.GrainU
open Go.RowKit

/-- what comes hangs on the windows alone -/
theorem ev_same {l l' : List Ln} {time time' : Int} (hw : ∀ h, winC l h time = winC l' h time') : ∀ x : Ex, ev l time x = ev l' time' x := by
  refine Ex.ind ?_
  intro h kids ih
  have hL : ∀ ks : List Ex, (∀ k ∈ ks, ev l time k = ev l' time' k) → evL l time ks = evL l' time' ks := by
    intro ks
    induction ks with
    | nil => intro _; rfl
    | cons a r ihr =>
      intro hk
      rw [evL, evL, hk a (by simp), ihr (fun k hk' => hk k (by simp [hk']))]
  rw [ev, ev, hw h, hL kids ih]

/-- samples so much later -/
def latS (b : Int) (s : List (Int × Int)) : List (Int × Int) := s.map fun x => (x.1 + b, x.2)
def latL (b : Int) (l : List Ln) : List Ln := l.map fun x => (x.1, latS b x.2)

theorem latS_tm {b : Int} {s : List (Int × Int)} {k : Nat} (hk : k < s.length) : Grain.tm (latS b s) k = Grain.tm s k + b := by
  simp [Grain.tm, latS, List.getD, List.getElem?_eq_getElem hk]
theorem latS_vl {b : Int} {s : List (Int × Int)} (k : Nat) : Grain.vl (latS b s) k = Grain.vl s k := by
  simp only [Grain.vl, latS, List.getD, List.getElem?_map]
  cases s[k]? <;> rfl
theorem latS_len (b : Int) (s : List (Int × Int)) : (latS b s).length = s.length := by simp [latS]

theorem lat_ofN (b : Int) (s : List (Int × Int)) : ∀ k, Grain.ofN (latS b s) k = Grain.ofN s k
  | 0 => rfl
  | k + 1 => by rw [Grain.ofN, Grain.ofN, lat_ofN b s k, latS_vl]

theorem lat_of (b : Int) (s : List (Int × Int)) : Grain.of (latS b s) = Grain.of s := by
  unfold Grain.of
  rw [latS_len, lat_ofN]

theorem lat_win (b f t : Int) (s : List (Int × Int)) : Grain.win (latS b s) (f + b) (t + b) = latS b (Grain.win s f t) := by
  unfold Grain.win latS
  rw [List.filter_map]
  congr 1
  apply List.filter_congr
  intro x _
  simp

theorem lat_winC (b : Int) (h : Hd) (time : Int) : ∀ l : List Ln, winC (latL b l) h (time + b) = winC l h time
  | [] => rfl
  | x :: r => by
    have e : winX (x.1, latS b x.2) h (time + b) = winX x h time := by
      have hv : winV (x.1, latS b x.2) h (time + b) = winV x h time := by
        unfold winV
        rw [show time + b - h.range = (time - h.range) + b from by omega]
        simp only [lat_win, lat_of]
      unfold winX
      rw [hv]
    show winX (x.1, latS b x.2) h (time + b) ++ winC (latL b r) h (time + b) = _
    rw [e, lat_winC b h time r]
    rfl

/-- times that stay in their range -/
def LatOk (b : Int) (s : List (Int × Int)) : Prop := ∀ x ∈ s, 0 ≤ x.1 ∧ x.1 + b ≤ 1000000

theorem lat_bad {b : Int} (hb : 0 ≤ b) {s : List (Int × Int)} (h : LatOk b s) {k : Nat} (hk : k < s.length) : Grain.bad (latS b s) k = Grain.bad s k := by
  have hx := h s[k] (List.getElem_mem hk)
  have e1 : Grain.tm s k = (s[k]).1 := tm_get hk
  have hr : Grain.inR (Grain.tm (latS b s) k) (Grain.vl (latS b s) k) = Grain.inR (Grain.tm s k) (Grain.vl s k) := by
    rw [latS_tm hk, latS_vl, e1]
    unfold Grain.inR
    rw [decide_eq_decide]
    omega
  unfold Grain.bad
  rw [hr]
  have ht : (0 < k ∧ Grain.tm (latS b s) k ≤ Grain.tm (latS b s) (k - 1)) ↔ (0 < k ∧ Grain.tm s k ≤ Grain.tm s (k - 1)) := by
    rw [latS_tm hk, latS_tm (show k - 1 < s.length by omega)]
    omega
  simp only [ht]

theorem lat_wrongF {b : Int} (hb : 0 ≤ b) {s : List (Int × Int)} (h : LatOk b s) : ∀ n k, k + n ≤ s.length → Grain.wrongF (latS b s) n k = Grain.wrongF s n k
  | 0, _, _ => rfl
  | n + 1, k, hk => by
    rw [Grain.wrongF, Grain.wrongF, lat_bad hb h (by omega), lat_wrongF hb h n (k + 1) (by omega)]

theorem lat_wrong {b : Int} (hb : 0 ≤ b) {s : List (Int × Int)} (h : LatOk b s) : Grain.wrong (latS b s) = Grain.wrong s := by
  unfold Grain.wrong
  rw [latS_len, lat_wrongF hb h _ _ (by omega)]

theorem latL_ser (b : Int) (l : List Ln) (k : Nat) : lser (latL b l) k = lser l k := by
  simp only [lser, latL, List.getD, List.getElem?_map]
  cases l[k]? <;> rfl
theorem latL_smp (b : Int) (l : List Ln) (k : Nat) : lsmp (latL b l) k = latS b (lsmp l k) := by
  simp only [lsmp, latL, List.getD, List.getElem?_map]
  cases l[k]? <;> rfl

theorem lat_lnBad {b : Int} (hb : 0 ≤ b) {l : List Ln} (h : ∀ x ∈ l, LatOk b x.2) (k : Nat) : lnBad (latL b l) k = lnBad l k := by
  have ho : LatOk b (lsmp l k) := by
    unfold lsmp
    simp only [List.getD]
    cases hq : l[k]? with
    | none => intro x hx; cases hx
    | some q => exact h q (List.mem_of_getElem? hq)
  unfold lnBad lnAlone
  simp only [latL_ser, latL_smp, lat_wrong hb ho]

theorem lat_wrLF {b : Int} (hb : 0 ≤ b) {l : List Ln} (h : ∀ x ∈ l, LatOk b x.2) : ∀ n k, wrLF (latL b l) n k = wrLF l n k
  | 0, _ => rfl
  | n + 1, k => by rw [wrLF, wrLF, lat_lnBad hb h k, lat_wrLF hb h n (k + 1)]

theorem lat_wrLn {b : Int} (hb : 0 ≤ b) {l : List Ln} (h : ∀ x ∈ l, LatOk b x.2) : wrLn (latL b l) = wrLn l := by
  unfold wrLn
  rw [lat_wrLF hb h]
  simp [latL]

/-- ALL LATER IS THE SAME, LATER -/
theorem lat_ask {b time : Int} (hb : 0 ≤ b) (h0 : 0 ≤ time) (h1 : time + b ≤ 1000000) {l : List Ln} (h : ∀ x ∈ l, LatOk b x.2) (e : Ex) : GrainU.ask (latL b l) e (time + b) = GrainU.ask l e time := by
  have hc : chk e (time + b) = chk e time := by
    unfold chk
    rw [if_neg (show ¬ (time + b < 0 ∨ 1000000 < time + b) by omega), if_neg (show ¬ (time < 0 ∨ 1000000 < time) by omega)]
  unfold GrainU.ask
  rw [lat_wrLn hb h, hc, ev_same (fun hd => lat_winC b hd time l) e]

end Go.GrainU

/-
  Lines that are made anew: a row of lines, each with a row of samples of its own.
-/
namespace Go.GrainU
open Go.RowKit

/-- what is asked has few cells, of few labels -/
theorem ask_gd (l : List LT) (e : Ex) (time : Int) : (∀ c ∈ (GrainU.ask (lns l) e time).1, c.1.length ≤ 4) ∧ (GrainU.ask (lns l) e time).1.length ≤ 8 := by
  unfold GrainU.ask
  by_cases h1 : (wrLn (lns l)).1 = 0
  · rw [if_pos h1]
    by_cases h2 : chk e time = 0
    · rw [if_pos h2]
      cases hev : ev (lns l) time e with
      | none => exact ⟨fun c hc => (by cases hc), by simp⟩
      | some m =>
        have r1 := right_lines h1
        have g := ev_gd (l := lns l) (fun x hx => by
          obtain ⟨y, hy, rfl⟩ := List.mem_map.1 hx
          exact ⟨(r1.2 y hy).ser, (r1.2 y hy).smp⟩) (by rw [lns_len]; exact r1.1) time e (chk_zero h2).1 m hev
        exact ⟨fun c hc => (g.fine c hc).2.2, g.len⟩
    · rw [if_neg h2]; exact ⟨fun c hc => (by cases hc), by simp⟩
  · rw [if_neg h1]; exact ⟨fun c hc => (by cases hc), by simp⟩

theorem tcells_append (a b : List LT) : tcells (a ++ b) = tcells a ++ tcells b := by
  induction a with
  | nil => rfl
  | cons x r ih => simp [tcells, ih]

/-- a row's block is none of another type -/
theorem mown_far {w : World} {base e size n : Nat} {v : Value} {xs : List Value} (h : w.ownsRow base e size v n xs) {k : Nat} {c : Array Value} {t : TypeId} {fr : Nat × Nat} (hk : w.heap[k]? = some (.cells c t fr)) (ht : t ≠ e) : v.ownBlock ≠ some k := by
  intro hv
  rcases h.2 with ⟨h2, _⟩ | ⟨g, cap, cur, h2, _, hg, _⟩
  · rw [h2] at hv; simp [Value.ownBlock] at hv
  · rw [h2] at hv
    simp [Value.ownBlock] at hv
    subst hv
    rw [hk] at hg
    simp at hg
    exact ht hg.2.1

theorem mown_keep {w w' : World} {base e size n : Nat} {v : Value} {xs : List Value} {r : Option Nat} (h : w.ownsRow base e size v n xs) (hg : w.grownBy w' r) (hne : ∀ k, v.ownBlock = some k → r ≠ some k) : w'.ownsRow base e size v n xs := by
  obtain ⟨h1, h2⟩ := h
  refine ⟨h1, ?_⟩
  rcases h2 with h2 | ⟨g, cap, cur, hv, hb, hh, rest⟩
  · exact Or.inl h2
  · have hl : g < w.heap.size := by
      rcases Nat.lt_or_ge g w.heap.size with h | h
      · exact h
      · rw [Array.getElem?_eq_none h] at hh; cases hh
    refine Or.inr ⟨g, cap, cur, hv, hb, ?_, rest⟩
    rw [hg.block g hl (fun e => hne g (by rw [hv]; rfl) e.symm)]; exact hh

theorem mown_types {w : World} {base base' e e' size size' n n' : Nat} {v v' : Value} {xs xs' : List Value} (h : w.ownsRow base e size v n xs) (h' : w.ownsRow base' e' size' v' n' xs') (ht : e ≠ e') : ∀ k, v.ownBlock = some k → v'.ownBlock ≠ some k := by
  intro k hk
  rcases h.2 with ⟨h2, _⟩ | ⟨g, cap, cur, h2, _, hg, _⟩
  · rw [h2] at hk; simp [Value.ownBlock] at hk
  · rw [h2] at hk
    simp [Value.ownBlock] at hk
    subst hk
    exact mown_far h' hg ht

theorem mown_down {w : World} {base base' e size n : Nat} {v : Value} {xs : List Value} (h : w.ownsRow base e size v n xs) (hb : base' ≤ base) : w.ownsRow base' e size v n xs := by
  obtain ⟨h1, h2⟩ := h
  refine ⟨h1, ?_⟩
  rcases h2 with h2 | ⟨g, cap, cur, hv, hg, r⟩
  · exact Or.inl h2
  · exact Or.inr ⟨g, cap, cur, hv, Nat.le_trans hb hg, r⟩

theorem mown_facts {w : World} {base e size n c : Nat} {ao : Option Addr} {xs : List Value} (h : w.ownsRow base e size (.slice ao n c) n xs) : Seg w ao xs ∧ (ao = none → n = 0 ∧ c = 0) ∧ n ≤ c ∧ c ≤ 9223372036854775807 := by
  obtain ⟨ao', c', hv, hs, hc⟩ := own_open h
  simp at hv
  obtain ⟨rfl, rfl⟩ := hv
  refine ⟨hs, ?_, hc, ?_⟩
  · intro hn
    subst hn
    rcases h.2 with ⟨h2, _⟩ | ⟨g, cap, cur, hv, _⟩
    · simp at h2; exact h2
    · simp at hv
  · rcases h.2 with ⟨h2, _⟩ | ⟨g, cap, cur, hv, _, _, _, hm, _⟩
    · simp at h2; omega
    · simp at hv
      obtain ⟨_, rfl⟩ := hv
      unfold maxLen at hm
      exact hm

end Go.GrainU
namespace Go.Proofs.Ytjgdjbphelkdoad
open Go.RowKit Go.GrainU

theorem Try.infoLine : (Try.prog.info? 49).map (fun i => (i.zero, i.size, i.bytes)) = some (some (.agg #[.slice none 0 0, .slice none 0 0]), 2, 48) := by kernel_rfl
theorem Try.infoSmpX : (Try.prog.info? 54).map (fun i => (i.zero, i.size, i.bytes)) = some (some (.agg #[.int .i64 0, .int .i64 0]), 2, 16) := by kernel_rfl

/-- what a new line keeps of an old one -/
structure SerOk (w : World) (x : LT) : Prop where
  ser : Seg w x.sa (lcells x.ser)
  fit : Fits x.ser
  ls : x.ser.length ≤ 9223372036854775806
  nil : x.sa = none → x.ser.length = 0 ∧ x.sc = 0

/-- the row of new lines -/
structure LI (w wr : World) (mo : Option Addr) (M mc : Nat) (ms : List LT) : Prop where
  row : wr.ownsRow w.heap.size 49 2 (.slice mo M mc) M (tcells ms)
  each : ∀ x ∈ ms, SerOk w x ∧ x.smp.length * 16 ≤ 140737488355328 ∧ wr.ownsRow w.heap.size 54 2 (.slice x.pa x.smp.length x.pc) x.smp.length (scells x.smp)
  bel : Below w.heap.size w wr

theorem LI.call {w wr w' : World} {mo : Option Addr} {M mc : Nat} {ms : List LT} (h : LI w wr mo M mc ms) (hb : Below wr.heap.size wr w') : LI w w' mo M mc ms :=
  ⟨own_below h.row hb, fun x hx => ⟨(h.each x hx).1, (h.each x hx).2.1, own_below (h.each x hx).2.2 hb⟩, h.bel.trans (hb.mono h.bel.size)⟩

theorem LI.lns {w wr : World} {mo : Option Addr} {M mc : Nat} {ms : List LT} (h : LI w wr mo M mc ms) : LnsIn wr ms := by
  intro x hx
  obtain ⟨s, hb, o⟩ := h.each x hx
  obtain ⟨f1, f2, f3, f4⟩ := mown_facts o
  exact ⟨s.ser.below h.bel, f1, s.fit, s.ls, by omega, s.nil, ⟨f3, f4⟩, f2⟩

/-- a new line put behind the others -/
theorem LI.push {w W w5 : World} {mo : Option Addr} {M mc g' cp' : Nat} {ms : List LT} (h : LI w W mo M mc ms) (x : LT) (hs : SerOk w x) (hx : x.smp.length * 16 ≤ 140737488355328) (ho : W.ownsRow w.heap.size 54 2 (.slice x.pa x.smp.length x.pc) x.smp.length (scells x.smp))
    (own : w5.ownsRow w.heap.size 49 2 (.slice (some ⟨g', 0, none⟩) (M + 1) cp') (M + 1) (tcells ms ++ [.slice x.sa x.ser.length x.sc, .slice x.pa x.smp.length x.pc])) (gr : W.grownBy w5 (Value.slice mo M mc).ownBlock) :
    LI w w5 (some ⟨g', 0, none⟩) (M + 1) cp' (ms ++ [x]) := by
  refine ⟨by rw [tcells_append]; exact own, fun y hy => ?_, h.bel.grown gr h.bel.size (fun j hj => (h.row.lt j hj).1)⟩
  rcases List.mem_append.1 hy with e | e
  · obtain ⟨p, q, o⟩ := h.each y e
    exact ⟨p, q, mown_keep o gr (mown_types o h.row (by decide))⟩
  · simp at e
    subst e
    exact ⟨hs, hx, mown_keep ho gr (mown_types ho h.row (by decide))⟩

/-- a new line that is being made: the old one lies in a block, the new one in the next -/
structure DI (wk wr : World) (c0 c1 : Value) (po : Option Addr) (p pc : Nat) (s : List (Int × Int)) : Prop where
  cb : wr.heap[wk.heap.size]? = some (.cells #[c0, c1] 49 (0, 0))
  db : wr.heap[wk.heap.size + 1]? = some (.cells #[c0, .slice po p pc] 49 (0, 0))
  own : wr.ownsRow (wk.heap.size + 2) 54 2 (.slice po p pc) p (scells s)
  bel : Below wk.heap.size wk wr

theorem DI.start (wk : World) (c0 c1 : Value) : DI wk ((wk.alloc (.cells #[c0, c1] 49)).alloc (.cells #[c0, .slice none 0 0] 49)) c0 c1 none 0 0 [] := by
  refine ⟨?_, ?_, World.ownsRow_nil _ _ _ _, ((Below.refl _ _).alloc (Nat.le_refl _) _).alloc (by simp) _⟩
  · rw [Below.heap_alloc _ _ _ (by simp)]; exact heap_alloc_new _ _
  · have e : wk.heap.size + 1 = (wk.alloc (.cells #[c0, c1] 49)).heap.size := by simp
    rw [e]; exact heap_alloc_new _ _

theorem DI.call {wk wr w' : World} {c0 c1 : Value} {po : Option Addr} {p pc : Nat} {s : List (Int × Int)} (h : DI wk wr c0 c1 po p pc s) (hb : Below wr.heap.size wr w') : DI wk w' c0 c1 po p pc s :=
  ⟨below_block hb h.cb, below_block hb h.db, own_below h.own hb, h.bel.trans (hb.mono h.bel.size)⟩

theorem DI.grown {wk wr w' : World} {c0 c1 : Value} {po : Option Addr} {p pc : Nat} {s : List (Int × Int)} (h : DI wk wr c0 c1 po p pc s) (gr : wr.grownBy w' (Value.slice po p pc).ownBlock) :
    w'.heap[wk.heap.size]? = some (.cells #[c0, c1] 49 (0, 0)) ∧ w'.heap[wk.heap.size + 1]? = some (.cells #[c0, .slice po p pc] 49 (0, 0)) ∧ Below wk.heap.size wk w' := by
  refine ⟨?_, ?_, h.bel.grown gr h.bel.size (fun j hj => by have := (h.own.lt j hj).1; omega)⟩
  · rw [gr.block _ (lt_of_block h.cb) (fun e => mown_far h.own h.cb (by decide) e.symm)]; exact h.cb
  · rw [gr.block _ (lt_of_block h.db) (fun e => mown_far h.own h.db (by decide) e.symm)]; exact h.db

/-- a sample put behind the others -/
theorem DI.push {wk wr w' : World} {c0 c1 : Value} {po : Option Addr} {p pc g' cp' : Nat} {s : List (Int × Int)} (h : DI wk wr c0 c1 po p pc s) (t v : Int)
    (own : w'.ownsRow (wk.heap.size + 2) 54 2 (.slice (some ⟨g', 0, none⟩) (p + 1) cp') (p + 1) (scells s ++ [.int .i64 t, .int .i64 v])) (gr : wr.grownBy w' (Value.slice po p pc).ownBlock) :
    DI wk (w'.setCell ⟨wk.heap.size + 1, 1, none⟩ (.slice (some ⟨g', 0, none⟩) (p + 1) cp')) c0 c1 (some ⟨g', 0, none⟩) (p + 1) cp' (s ++ [(t, v)]) := by
  obtain ⟨k1, k2, k3⟩ := h.grown gr
  refine ⟨by rw [setCell_far (by omega)]; exact k1, two_snd k2 _, ?_, k3.setCell (by show wk.heap.size ≤ wk.heap.size + 1; omega) _⟩
  rw [scells_append]
  exact ownsRow_setCell_below own (by show wk.heap.size + 1 < wk.heap.size + 2; omega) _

end Go.Proofs.Ytjgdjbphelkdoad

/-
  Signs are numbers': what comes of an expression and itself. No program is named here.
-/
namespace Go.GrainU
open Go.RowKit

/-- a number, and two things with a sign -/
def numE (k : Int) : Ex := .mk ⟨1, k, 0, ⟨#[]⟩, [], []⟩ []
def twoE (w : ByteArray) (a b : Ex) : Ex := .mk ⟨4, 0, 0, w, [], []⟩ [a, b]

/-! what is wrong with them -/

theorem wr_err : ∀ x : Ex, Rt x → ∀ d n, (wr x d n).1 = 0 ∨ (wr x d n).1 = 4 := by
  refine Ex.ind ?_
  intro h kids ih hr d n
  obtain ⟨ha, hk⟩ := hr.parts
  have hL : ∀ l : List Ex, (∀ k ∈ l, k ∈ kids) → ∀ m, (wrL l (d + 1) m).1 = 0 ∨ (wrL l (d + 1) m).1 = 4 := by
    intro l
    induction l with
    | nil => intro _ m; left; rfl
    | cons a r ihr =>
      intro hm m
      rw [wrL]
      split
      · exact ihr (fun k hk' => hm k (by simp [hk'])) _
      · exact ih a (hm a (by simp)) (hk a (hm a (by simp))) _ _
  rw [wr]
  split
  · right; rfl
  · exact hL kids (fun k hk' => hk') _

theorem cnt_pos (x : Ex) : 1 ≤ cnt x := by cases x; rw [cnt]; omega

theorem wr_move : ∀ x : Ex, ∀ d n n' : Int, 0 ≤ n → 0 ≤ n' → (wr x d n).1 = 0 → n' + cnt x ≤ 100 → (wr x d n').1 = 0 := by
  refine Ex.ind ?_
  intro h kids ih d n n' hn hn' h0 hc
  rw [wr] at h0 ⊢
  split at h0
  · simp at h0
  · rename_i hg
    rw [cnt] at hc
    have hg' : ¬ (100 < n' + 1 ∨ 20 < d) := by omega
    rw [if_neg hg']
    split at h0
    · rename_i ha
      rw [if_pos ha]
      have hL : ∀ l : List Ex, (∀ k ∈ l, k ∈ kids) → ∀ m m' : Int, 0 ≤ m → 0 ≤ m' → (wrL l (d + 1) m).1 = 0 → m' + cntL l ≤ 100 → (wrL l (d + 1) m').1 = 0 := by
        intro l
        induction l with
        | nil => intro _ m m' _ _ _ _; rfl
        | cons a r ihr =>
          intro hm m m' h1 h2 h3 h4
          rw [wrL] at h3
          rw [cntL] at h4
          split at h3
          · rename_i hz
            have e1 := ih a (hm a (by simp)) (d + 1) m m' h1 h2 hz (by omega)
            have e2 := (wr_ok a (d + 1) m' h2 e1).2.1
            have e3 := (wr_ok a (d + 1) m h1 hz).2.1
            rw [wrL, if_pos e1, e2]
            rw [e3] at h3
            exact ihr (fun k hk => hm k (by simp [hk])) _ _ (by omega) (by omega) h3 (by omega)
          · rename_i hz; exact absurd h3 hz
      exact hL kids (fun k hk => hk) (n + 1) (n' + 1) (by omega) (by omega) h0 (by omega)
    · rename_i ha; exact absurd h0 ha

theorem wr_num {k : Int} (h0 : 0 ≤ k) (h1 : k ≤ 1000000) {d n : Int} (hd : d ≤ 20) (hn : n + 1 ≤ 100) : wr (numE k) d n = (0, n + 1) := by
  unfold numE
  rw [wr, if_neg (by omega)]
  have : alone ⟨1, k, 0, ⟨#[]⟩, [], []⟩ ([] : List Ex).length = 0 := by
    simp [alone]
    omega
  rw [if_pos this]
  rfl

/-- what is wrong with two things and a sign -/
theorem chk_two {w : ByteArray} (hw : has signs3 w = true) {a b : Ex} (ta : typ a = 0) (tb : typ b = 0) {time : Int} (h0 : 0 ≤ time) (h1 : time ≤ 1000000) : chk (twoE w a b) time = (wrL [a, b] 2 1).1 := by
  have e : wr (twoE w a b) 1 0 = wrL [a, b] 2 1 := by
    unfold twoE
    rw [wr, if_neg (by omega)]
    have : alone ⟨4, 0, 0, w, [], []⟩ [a, b].length = 0 := by
      simp [alone, hw]
    rw [if_pos this]
    rfl
  have et : typ (twoE w a b) = 0 := by
    unfold twoE
    rw [typ, if_neg (by simp), typL, if_pos ta, typL, if_pos tb, typL]
  unfold chk
  rw [e, et]
  by_cases hz : (wrL [a, b] 2 1).1 = 0
  · rw [if_pos hz, if_pos rfl, if_neg (by omega), hz]
  · rw [if_neg hz]

theorem two_err {a b : Ex} (ra : Rt a) (rb : Rt b) : (wrL [a, b] 2 1).1 = 0 ∨ (wrL [a, b] 2 1).1 = 4 := by
  rw [wrL]
  split
  · rw [wrL]
    split
    · left; rw [wrL]
    · exact wr_err b rb _ _
  · exact wr_err a ra _ _

theorem two_self {e : Ex} (h : (wrL [e, e] 2 1).1 = 0) (k : Int) (h0 : 0 ≤ k) (h1 : k ≤ 1000000) : (wrL [e, numE k] 2 1).1 = 0 ∧ (wrL [numE k, e] 2 1).1 = 0 := by
  rw [wrL] at h
  split at h
  · rename_i hz
    have e1 := (wr_ok e 2 1 (by omega) hz).2.1
    rw [e1, wrL] at h
    split at h
    · rename_i hy
      have e2 := (wr_ok e 2 (1 + cnt e) (by omega) hy).2.2.1
      have hp := cnt_pos e
      constructor
      · rw [wrL, if_pos hz, e1, wrL, wr_num h0 h1 (by omega) (by omega), if_pos rfl, wrL]
      · have hm := wr_move e 2 1 2 (by omega) (by omega) hz (by omega)
        rw [wrL, wr_num h0 h1 (by omega) (by omega), if_pos rfl, wrL]
        rw [if_pos (by simpa using hm), wrL]
    · rename_i hy; exact absurd h hy
  · rename_i hz; exact absurd h hz

theorem typ_num (k : Int) : typ (numE k) = 0 := by
  unfold numE
  rw [typ, if_neg (by simp), typL]

/-! cells rise -/

def LS (l : List Ln) : Prop := l.Pairwise fun a b => cmpS a.1 b.1 = -1

theorem ls_of {l : List Ln} (h : (wrLn l).1 = 0) : LS l := by
  unfold wrLn at h
  by_cases h8 : 8 < l.length
  · rw [if_pos h8] at h; exact absurd h (by decide)
  · rw [if_neg h8] at h
    have hall : ∀ n k, (wrLF l n k).1 = 0 → ∀ j, k ≤ j → j < k + n → lnBad l j = 0 := by
      intro n
      induction n with
      | zero => intro k _ j h1 h2; omega
      | succ n ih =>
        intro k hk j h1 h2
        by_cases hb : lnBad l k = 0
        · rw [wrLF_ok hb] at hk
          rcases (show j = k ∨ k + 1 ≤ j from by omega) with e | e
          · subst e; exact hb
          · exact ih (k + 1) hk j e (by omega)
        · rw [wrLF_no hb] at hk; exact absurd hk hb
    have hstep : ∀ k, k + 1 < l.length → cmpS (lser l k) (lser l (k + 1)) = -1 := by
      intro k hk
      have hb := hall l.length 0 h (k + 1) (by omega) (by omega)
      unfold lnBad at hb
      split at hb
      · split at hb
        · simp at hb
        · rename_i hc
          have : ¬ (0 ≤ cmpS (lser l k) (lser l (k + 1))) := fun hh => hc ⟨by omega, by simpa using hh⟩
          rcases cmpS_cases (lser l k) (lser l (k + 1)) with e | ⟨e, _⟩ | e <;> omega
      · rename_i ha; exact absurd hb ha
    have hfar : ∀ d i, i + d + 1 < l.length → cmpS (lser l i) (lser l (i + d + 1)) = -1 := by
      intro d
      induction d with
      | zero => intro i hi; exact hstep i hi
      | succ d ih =>
        intro i hi
        exact cmpS_trans (ih i (by omega)) (hstep (i + d + 1) (by omega))
    refine List.pairwise_iff_getElem.2 fun i j hi hj hij => ?_
    obtain ⟨d, rfl⟩ : ∃ d, j = i + d + 1 := ⟨j - i - 1, by omega⟩
    have := hfar d i hj
    simpa [lser, List.getD, List.getElem?_eq_getElem hi, List.getElem?_eq_getElem hj] using this

theorem winC_from (h : Hd) (time : Int) : ∀ (l : List Ln), ∀ c ∈ winC l h time, ∃ y ∈ l, c.1 = y.1
  | [], c, hc => by cases hc
  | x :: r, c, hc => by
    rw [winC] at hc
    rcases List.mem_append.1 hc with e | e
    · refine ⟨x, by simp, ?_⟩
      unfold winX at e
      split at e
      · split at e
        · simp at e; rw [e]
        · cases e
      · cases e
    · obtain ⟨y, hy, ey⟩ := winC_from h time r c e
      exact ⟨y, by simp [hy], ey⟩

theorem winC_srt (h : Hd) (time : Int) : ∀ l : List Ln, LS l → Srt (winC l h time)
  | [], _ => List.Pairwise.nil
  | x :: r, hl => by
    have hl' := List.pairwise_cons.1 hl
    rw [winC]
    refine List.pairwise_append.2 ⟨?_, winC_srt h time r hl'.2, fun a ha b hb => ?_⟩
    · unfold winX
      split
      · split <;> simp
      · simp
    · have ea : a.1 = x.1 := by
        unfold winX at ha
        split at ha
        · split at ha
          · simp at ha; rw [ha]
          · cases ha
        · cases ha
      obtain ⟨y, hy, ey⟩ := winC_from h time r b hb
      rw [ea, ey]
      exact hl'.1 y hy

theorem allA_srt {w : ByteArray} {ks : List ByteArray} : ∀ (l out : List Cl), Srt out → ∀ r, allA w ks out l = some r → Srt r
  | [], out, ho, r, h => by simp [allA] at h; subst h; exact ho
  | c :: q, out, ho, r, h => by
    rw [allA] at h
    cases hp : putA w (only c.1 ks) (one1 w c.2) out with
    | none => rw [hp] at h; cases h
    | some o => rw [hp] at h; exact allA_srt q o (put_srt _ _ _ _ ho _ hp).1 r h

theorem binA_srt {a b : Mn} {w : ByteArray} : ∀ (l acc : List Cl), ((acc ++ l).map Prod.fst).Pairwise (fun s t => cmpS s t = -1) → ∀ r, binA a b w acc l = some r → (r.map Prod.fst).Pairwise (fun s t => cmpS s t = -1)
  | [], acc, hp, r, h => by simp [binA] at h; subst h; simpa using hp
  | c :: q, acc, hp, r, h => by
    have hskip : ((acc ++ q).map Prod.fst).Pairwise (fun s t => cmpS s t = -1) := by
      refine List.Pairwise.sublist ?_ hp
      exact List.Sublist.map _ (List.Sublist.append (List.Sublist.refl _) (List.sublist_cons_self _ _))
    cases h1 : atM a c.1 with
    | none => rw [binA_no (.inl h1)] at h; exact binA_srt q acc hskip r h
    | some x =>
      cases h2 : atM b c.1 with
      | none => rw [binA_no (.inr h2)] at h; exact binA_srt q acc hskip r h
      | some y =>
        cases h3 : wkd w x y with
        | none => rw [binA_bad h1 h2 h3] at h; cases h
        | some v =>
          rw [binA_yes h1 h2 h3] at h
          exact binA_srt q (acc ++ [(c.1, v)]) (by simpa using hp) r h

theorem srt_map (l : List Cl) : Srt l ↔ (l.map Prod.fst).Pairwise (fun s t => cmpS s t = -1) := by
  unfold Srt
  rw [List.pairwise_map]

/-- a number is one cell of no label -/
def NumOk (m : Mn) : Prop := m.num = true → ∃ v, m.cs = [([], v)]

theorem ev_srt {l : List Ln} (hl : LS l) (time : Int) : ∀ x : Ex, Rt x → ∀ m, ev l time x = some m → Srt m.cs ∧ NumOk m := by
  refine Ex.ind ?_
  intro h kids ih hr m hm
  obtain ⟨ha, hk⟩ := hr.parts
  rcases alone_cases ha with ⟨e, k0, _⟩ | ⟨e, k0, wb⟩ | ⟨e, k0, ab⟩ | ⟨e, k0, sg⟩
  · rw [ev_num e] at hm
    simp at hm
    subst hm
    exact ⟨by simp [Srt], fun _ => ⟨_, rfl⟩⟩
  · rw [ev_win e] at hm
    simp at hm
    subst hm
    exact ⟨winC_srt h time l hl, fun hn => by cases hn⟩
  · match kids, k0 with
    | [k], _ =>
      rw [ev_all e] at hm
      cases hq : ev l time k with
      | none => rw [hq] at hm; simp at hm
      | some q =>
        rw [hq] at hm
        simp only [Option.bind_some] at hm
        cases hr' : allA h.word h.bs [] q.cs with
        | none => rw [hr'] at hm; cases hm
        | some r =>
          rw [hr'] at hm
          simp at hm
          subst hm
          exact ⟨allA_srt _ _ List.Pairwise.nil _ hr', fun hn => by cases hn⟩
  · match kids, k0 with
    | [a, b], _ =>
      rw [ev_bin e] at hm
      cases hq : ev l time a with
      | none => rw [hq] at hm; simp at hm
      | some q =>
        rw [hq] at hm
        cases hq' : ev l time b with
        | none => rw [hq'] at hm; simp at hm
        | some q' =>
          rw [hq'] at hm
          simp only [Option.bind_some] at hm
          have ga := ih a (by simp) (hk a (by simp)) q hq
          have gb := ih b (by simp) (hk b (by simp)) q' hq'
          unfold binM at hm
          cases hr' : binA q q' h.word [] (fromM q q').cs with
          | none => rw [hr'] at hm; cases hm
          | some r =>
            rw [hr'] at hm
            simp at hm
            subst hm
            have gf : Srt (fromM q q').cs := by unfold fromM; split; exact gb.1; exact ga.1
            refine ⟨(srt_map _).2 (binA_srt _ [] (by simpa using (srt_map _).1 gf) r hr'), fun hn => ?_⟩
            have hqa : q.num = true := by
              unfold fromM at hn
              split at hn
              · assumption
              · rename_i hc; exact absurd hn hc
            have hqb : q'.num = true := by unfold fromM at hn; rw [if_pos hqa] at hn; exact hn
            obtain ⟨v, ev'⟩ := gb.2 hqb
            have hf : fromM q q' = q' := by unfold fromM; rw [if_pos hqa]
            rw [hf, ev'] at hr'
            have a1 : atM q [] = some (cl0 q.cs) := by unfold atM; rw [if_pos hqa]
            have a2 : atM q' [] = some (cl0 q'.cs) := by unfold atM; rw [if_pos hqb]
            cases h3 : wkd h.word (cl0 q.cs) (cl0 q'.cs) with
            | none => rw [binA_bad a1 a2 h3] at hr'; cases hr'
            | some u =>
              rw [binA_yes a1 a2 h3] at hr'
              simp [binA] at hr'
              exact ⟨u, hr'.symm⟩

/-! values with signs -/

theorem cellOf_srt : ∀ {l : List Cl}, Srt l → ∀ c ∈ l, cellOf l c.1 = some c.2
  | [], _, c, hc => by cases hc
  | a :: r, hs, c, hc => by
    have hs' := List.pairwise_cons.1 hs
    rw [cellOf]
    rcases List.mem_cons.1 hc with e | e
    · rw [e, if_pos (cmpS_self _)]
    · rw [if_neg (by rw [hs'.1 c e]; decide)]; exact cellOf_srt hs'.2 c e

theorem wkd_twice {v : Int} : wkd (lit [42]) v 2 = wkd (lit [43]) v v := by
  unfold wkd
  rw [if_neg (by decide), if_neg (by decide), if_pos rfl]
  by_cases hv : v = 0
  · subst hv; decide
  · have hm : 0 < max v (-v) := by omega
    have key : (v ≠ 0 ∧ MC / max v (-v) < max 2 (-2)) ↔ big (v + v) = true := by
      unfold big
      rw [decide_eq_true_eq, Int.ediv_lt_iff_lt_mul hm, show max (2 : Int) (-2) = 2 from by decide]
      unfold MC
      omega
    by_cases hb : big (v + v) = true
    · rw [if_pos (key.2 hb), if_pos hb]
    · rw [if_neg (fun h => hb (key.1 h)), if_neg hb, show v * 2 = v + v from by omega]

theorem wkd_less (v : Int) : wkd (lit [45]) v v = some 0 := by
  unfold wkd
  rw [if_neg (by decide), if_pos rfl, show v - v = 0 from by omega, if_neg (by decide)]

theorem wkd_none {v : Int} (h1 : -MC ≤ v) (h2 : v ≤ MC) : wkd (lit [43]) 0 v = some v := by
  unfold wkd
  rw [if_pos rfl, show 0 + v = v from by omega, if_neg]
  unfold big
  rw [decide_eq_true_eq]
  omega

theorem binA_same {a b a' b' : Mn} {w w' : ByteArray} (f g f' g' : Cl → Int) : ∀ (l acc : List Cl), (∀ c ∈ l, atM a c.1 = some (f c) ∧ atM b c.1 = some (g c) ∧ atM a' c.1 = some (f' c) ∧ atM b' c.1 = some (g' c) ∧ wkd w (f c) (g c) = wkd w' (f' c) (g' c)) →
    binA a b w acc l = binA a' b' w' acc l
  | [], acc, _ => rfl
  | c :: r, acc, h => by
    obtain ⟨h1, h2, h3, h4, h5⟩ := h c (by simp)
    cases hk : wkd w (f c) (g c) with
    | none => rw [binA_bad h1 h2 hk, binA_bad h3 h4 (h5 ▸ hk)]
    | some v => rw [binA_yes h1 h2 hk, binA_yes h3 h4 (h5 ▸ hk), binA_same f g f' g' r _ (fun c hc => h c (by simp [hc]))]

theorem binA_val {a b : Mn} {w : ByteArray} (f g u : Cl → Int) : ∀ (l acc : List Cl), (∀ c ∈ l, atM a c.1 = some (f c) ∧ atM b c.1 = some (g c) ∧ wkd w (f c) (g c) = some (u c)) →
    binA a b w acc l = some (acc ++ l.map fun c => (c.1, u c))
  | [], acc, _ => by simp [binA]
  | c :: r, acc, h => by
    obtain ⟨h1, h2, h3⟩ := h c (by simp)
    rw [binA_yes h1 h2 h3, binA_val f g u r _ (fun c hc => h c (by simp [hc]))]
    simp

/-- what is at a cell's series, of a meaning of its own -/
theorem at_self {m : Mn} (hs : Srt m.cs) (hn : NumOk m) : ∀ c ∈ m.cs, atM m c.1 = some c.2 := by
  intro c hc
  unfold atM
  by_cases h : m.num = true
  · rw [if_pos h]
    obtain ⟨v, e⟩ := hn h
    rw [e] at hc ⊢
    simp at hc
    rw [hc]; rfl
  · rw [if_neg h]; exact cellOf_srt hs c hc

def numM (k : Int) : Mn := ⟨true, [([], k)]⟩

theorem bin_signs {m : Mn} (hs : Srt m.cs) (hn : NumOk m) (hf : ∀ c ∈ m.cs, Fine c) :
    (binM m (numM 2) (lit [42])).map (·.cs) = (binM m m (lit [43])).map (·.cs) ∧ (binM m m (lit [45])).map (·.cs) = some (m.cs.map fun c => (c.1, 0)) ∧ (binM (numM 0) m (lit [43])).map (·.cs) = some m.cs := by
  have hself := at_self hs hn
  have ff : fromM m m = m := by unfold fromM; split <;> rfl
  have f0 : fromM (numM 0) m = m := by unfold fromM numM; rw [if_pos rfl]
  have an : ∀ (k : Int) (s : Lb), atM (numM k) s = some k := fun k s => by unfold atM numM; rw [if_pos rfl]; rfl
  refine ⟨?_, ?_, ?_⟩
  · unfold binM
    rw [ff]
    by_cases h : m.num = true
    · have fm : fromM m (numM 2) = numM 2 := by unfold fromM; rw [if_pos h]
      obtain ⟨v, e⟩ := hn h
      rw [fm]
      have a1 : atM m [] = some v := by have := hself ([], v) (by rw [e]; simp); exact this
      have e2 : (numM 2).cs = [([], 2)] := rfl
      rw [e2, e]
      cases hk : wkd (lit [42]) v 2 with
      | none => rw [binA_bad a1 (an 2 []) hk, binA_bad a1 a1 (wkd_twice ▸ hk)]; rfl
      | some u => rw [binA_yes a1 (an 2 []) hk, binA_yes a1 a1 (wkd_twice ▸ hk)]; simp [binA]
    · have fm : fromM m (numM 2) = m := by unfold fromM; rw [if_neg h]
      rw [fm, binA_same (a := m) (b := numM 2) (a' := m) (b' := m) (w := lit [42]) (w' := lit [43]) (fun c => c.2) (fun _ => 2) (fun c => c.2) (fun c => c.2) m.cs [] (fun c hc => ⟨hself c hc, an 2 _, hself c hc, hself c hc, wkd_twice⟩)]
  · unfold binM
    rw [ff, binA_val (fun c => c.2) (fun c => c.2) (fun _ => 0) m.cs [] (fun c hc => ⟨hself c hc, hself c hc, wkd_less _⟩)]
    simp
  · unfold binM
    rw [f0, binA_val (fun _ => 0) (fun c => c.2) (fun c => c.2) m.cs [] (fun c hc => ⟨an 0 _, hself c hc, wkd_none (hf c hc).1 (hf c hc).2.1⟩)]
    simp

/-- SIGNS ARE NUMBERS' -/
theorem signs_ask {l : List LT} {e : Ex} {time : Int} (hok : (GrainU.ask (lns l) e time).2 = 0) :
    (GrainU.ask (lns l) (twoE (lit [43]) e e) time).2 = 4 ∨
    ((GrainU.ask (lns l) (twoE (lit [42]) e (numE 2)) time).2 = (GrainU.ask (lns l) (twoE (lit [43]) e e) time).2 ∧ (GrainU.ask (lns l) (twoE (lit [42]) e (numE 2)) time).1 = (GrainU.ask (lns l) (twoE (lit [43]) e e) time).1 ∧
     (GrainU.ask (lns l) (twoE (lit [45]) e e) time) = ((GrainU.ask (lns l) e time).1.map fun c => (c.1, 0), 0) ∧ (GrainU.ask (lns l) (twoE (lit [43]) (numE 0) e) time) = ((GrainU.ask (lns l) e time).1, 0)) := by
  have h1 : (wrLn (lns l)).1 = 0 := by
    by_cases h : (wrLn (lns l)).1 = 0
    · exact h
    · unfold GrainU.ask at hok; rw [if_neg h] at hok; exact absurd hok h
  have h2 : chk e time = 0 := by
    by_cases h : chk e time = 0
    · exact h
    · unfold GrainU.ask at hok; rw [if_pos h1, if_neg h] at hok; exact absurd hok h
  obtain ⟨m, hm⟩ : ∃ m, ev (lns l) time e = some m := by
    cases hev : ev (lns l) time e with
    | none => unfold GrainU.ask at hok; rw [if_pos h1, if_pos h2, hev] at hok; exact absurd hok (by decide)
    | some m => exact ⟨m, rfl⟩
  obtain ⟨rt, t0, t1⟩ := chk_zero h2
  have ty : typ e = 0 := by
    unfold chk at h2
    split at h2
    · split at h2
      · assumption
      · rename_i h; exact absurd h2 h
    · rename_i h; exact absurd h2 h
  have hA : GrainU.ask (lns l) e time = (m.cs, 0) := by unfold GrainU.ask; rw [if_pos h1, if_pos h2, hm]
  have r1 := right_lines h1
  have gd := ev_gd (l := lns l) (fun x hx => by
    obtain ⟨y, hy, rfl⟩ := List.mem_map.1 hx
    exact ⟨(r1.2 y hy).ser, (r1.2 y hy).smp⟩) (by rw [lns_len]; exact r1.1) time e rt m hm
  obtain ⟨sr, no⟩ := ev_srt (ls_of h1) time e rt m hm
  obtain ⟨b1, b2, b3⟩ := bin_signs sr no gd.fine
  have s1 : has signs3 (lit [43]) = true := by decide
  have s2 : has signs3 (lit [42]) = true := by decide
  have s3 : has signs3 (lit [45]) = true := by decide
  rcases two_err rt rt with hz | hz
  · right
    obtain ⟨w1, _⟩ := two_self hz 2 (by decide) (by decide)
    obtain ⟨_, w2⟩ := two_self hz 0 (by decide) (by decide)
    have en : ∀ k, ev (lns l) time (numE k) = some (numM k) := fun k => ev_num rfl
    have eb : ∀ w a b ma mb, ev (lns l) time a = some ma → ev (lns l) time b = some mb → ev (lns l) time (twoE w a b) = binM ma mb w := fun w a b ma mb ha hb => by
      unfold twoE
      rw [ev_bin rfl, ha, hb]; rfl
    have ask2 : ∀ w a b ma mb, has signs3 w = true → typ a = 0 → typ b = 0 → (wrL [a, b] 2 1).1 = 0 → ev (lns l) time a = some ma → ev (lns l) time b = some mb →
        GrainU.ask (lns l) (twoE w a b) time = (match (binM ma mb w).map (·.cs) with | none => ([], 3) | some c => (c, 0)) := fun w a b ma mb hw ta tb hwr ha hb => by
      unfold GrainU.ask
      rw [if_pos h1, if_pos ((chk_two hw ta tb t0 t1).trans hwr), eb w a b ma mb ha hb]
      cases binM ma mb w <;> rfl
    have p := ask2 (lit [42]) e (numE 2) m (numM 2) s2 ty (typ_num 2) w1 hm (en 2)
    have q := ask2 (lit [43]) e e m m s1 ty ty hz hm hm
    have r := ask2 (lit [45]) e e m m s3 ty ty hz hm hm
    have s := ask2 (lit [43]) (numE 0) e (numM 0) m s1 (typ_num 0) ty w2 (en 0) hm
    rw [b1] at p
    rw [b2] at r
    rw [b3] at s
    rw [p, ← q, r, s, hA]
    exact ⟨rfl, rfl, rfl, rfl⟩
  · left
    unfold GrainU.ask
    rw [if_pos h1, chk_two s1 ty ty t0 t1, if_neg (by rw [hz]; decide)]
    exact hz

end Go.GrainU

/-
  The walks of the closures of MeanSigns: a number, two things with a sign.
-/
namespace Go.GrainU
open Go.RowKit

def numT (k : Int) : ET := .node ⟨1, k, 0, ⟨#[]⟩, [], []⟩ ⟨none, 0, none, 0, none, 0⟩ []
def twoT (s : ByteArray) (K : Nat) (a b : ET) : ET := .node ⟨4, 0, 0, s, [], []⟩ ⟨none, 0, none, 0, some ⟨K, 0, none⟩, 2⟩ [a, b]

theorem numT_ex (k : Int) : (numT k).ex = numE k := rfl
theorem twoT_ex (s : ByteArray) (K : Nat) (a b : ET) : (twoT s K a b).ex = twoE s a.ex b.ex := rfl

theorem numT_in (w : World) (k : Int) : (numT k).In w := by
  simp only [numT, ET.In, InL, mcells, wcells, ecells, List.map_nil]
  exact ⟨⟨.inl rfl, .inl rfl, .inl rfl⟩, ⟨by decide, by decide, by decide, by decide, fun m hm => (by cases hm), fun b hb => (by cases hb), by decide, fun m hm => (by cases hm)⟩, trivial⟩

theorem twoT_in {w : World} {s : ByteArray} (hs : s.size ≤ 9223372036854775806) {K : Nat} {a b : ET} (ha : a.In w) (hb : b.In w) (hk : Seg w (some ⟨K, 0, none⟩) (ecells [a, b])) : (twoT s K a b).In w := by
  simp only [twoT, ET.In, InL, mcells, wcells, List.map_nil]
  exact ⟨⟨.inl rfl, .inl rfl, hk⟩, ⟨by decide, by decide, by simp, hs, fun m hm => (by cases hm), fun b hb => (by cases hb), by decide, fun m hm => (by cases hm)⟩, ha, hb, trivial⟩

/-- what fails has no cells -/
theorem ask_no {l : List Ln} {e : Ex} {time : Int} (h : (GrainU.ask l e time).2 ≠ 0) : (GrainU.ask l e time).1 = [] := by
  unfold GrainU.ask at *
  split
  · split
    · rename_i h1 h2
      rw [if_pos h1, if_pos h2] at h
      cases hev : ev l time e with
      | none => rfl
      | some m => rw [hev] at h; simp at h
    · rfl
  · rfl

end Go.GrainU
namespace Go.Proofs.Ytjgdjbphelkdoad
open Go.RowKit Go.GrainU

theorem below_set7' {w w' : World} {base B : Nat} (h : Below base w w') (hb : base ≤ B) (v0 v1 v2 v3 v4 v5 v6 : Value) : Below base w (((((((w'.setCell ⟨B, 0, none⟩ v0).setCell ⟨B, 1, none⟩ v1).setCell ⟨B, 2, none⟩ v2).setCell ⟨B, 3, none⟩ v3).setCell ⟨B, 4, none⟩ v4).setCell ⟨B, 5, none⟩ v5).setCell ⟨B, 6, none⟩ v6) :=
  ((((((h.setCell hb _).setCell hb _).setCell hb _).setCell hb _).setCell hb _).setCell hb _).setCell hb _

set_option maxHeartbeats 1000000 in
theorem snum_any (k : Int) (w : World) : Calls Try.prog 15 #[.int .i64 k] w fun e w' => e = .returned (eval (numT k)) ∧ Below w.heap.size w w' := by
  have bel : ∀ o, Below w.heap.size w (w.alloc o) := fun o => (Below.refl _ _).alloc (Nat.le_refl _) _
  have BE := hide bel
  clear bel
  go_enter Try.func15, Try.ntmps15
  go_wp2
  refine bodyPost_ret (v := .agg #[.int .i64 1, .int .i64 k, .int .i64 0, .string ⟨#[]⟩, .slice none 0 0, .slice none 0 0, .slice none 0 0]) (by simp [results, Try.results15, go_sem]) rfl ⟨rfl, ?_⟩
  first | exact BE.out _ | exact below_set7' (BE.out _) (Nat.le_refl _) _ _ _ _ _ _ _

set_option maxHeartbeats 2000000 in
theorem stwo_any (s : ByteArray) (a b : ET) (w : World) (ha : a.In w) (hb : b.In w) (hs : s.size ≤ 9223372036854775806) :
    Calls Try.prog 16 #[.string s, eval a, eval b] w fun e w' => ∃ t : ET, e = .returned (eval t) ∧ t.ex = twoE s a.ex b.ex ∧ t.In w' ∧ Below w.heap.size w w' := by
  have HA := hide ha
  have HB := hide hb
  have Ha : Hid (eval a = .agg #[.int .i64 a.hd.kind, .int .i64 a.hd.n, .int .i64 a.hd.range, .string a.hd.word, .slice a.sp.ma a.hd.ms.length a.sp.mc, .slice a.sp.ba a.hd.bs.length a.sp.bc, .slice a.sp.ka a.kids.length a.sp.kc]) := rfl
  have Hb : Hid (eval b = .agg #[.int .i64 b.hd.kind, .int .i64 b.hd.n, .int .i64 b.hd.range, .string b.hd.word, .slice b.sp.ma b.hd.ms.length b.sp.mc, .slice b.sp.ba b.hd.bs.length b.sp.bc, .slice b.sp.ka b.kids.length b.sp.kc]) := rfl
  rw [Ha.out, Hb.out]
  clear ha hb
  go_enter Try.func16, Try.ntmps16
  go_wp2
  have bel : ∀ o1 o2 o3 o4, Below w.heap.size w ((((w.alloc o1).alloc o2).alloc o3).alloc o4) := fun o1 o2 o3 o4 => ((((Below.refl _ _).alloc (Nat.le_refl _) _).alloc (by simp) _).alloc (by simp; omega) _).alloc (by simp; omega) _
  refine bodyPost_ret (v := .agg #[.int .i64 4, .int .i64 0, .int .i64 0, .string s, .slice none 0 0, .slice none 0 0, .slice (some ⟨w.heap.size + 1 + 1 + 1, 0, none⟩) 2 2]) (by simp [results, Try.results16, go_sem]) rfl ?_
  refine ⟨twoT s (w.heap.size + 1 + 1 + 1) a b, rfl, rfl, ?_, bel _ _ _ _⟩
  exact twoT_in hs (ET.In.below (bel _ _ _ _) a HA.out) (ET.In.below (bel _ _ _ _) b HB.out) (seg_at _ _ (by simp) _ _)

end Go.Proofs.Ytjgdjbphelkdoad

/-
  The walk of MeanSigns.
-/
namespace Go.GrainU
open Go.RowKit

/-- what an ask answered, as it lies in memory -/
def AskAt (w0 : World) (R : List Cl × Int) (va ve : Value) (wx : World) : Prop :=
  ∃ (cts : List CT) (co : Option Addr) (N d : Nat), va = .slice co N d ∧ ve = .int .i64 R.2 ∧ cls cts = R.1 ∧ N = cts.length ∧ CsIn wx co cts ∧ Below w0.heap.size w0 wx

end Go.GrainU
namespace Go.Proofs.Ytjgdjbphelkdoad
open Go.RowKit Go.GrainU

set_option maxRecDepth 100000 in
set_option maxHeartbeats 8000000 in
theorem msigns_any (l : List LT) (t : ET) (time : Int) (ao : Option Addr) (n cap : Nat) (w : World) (hs : Seg w ao (tcells l)) (hl : LnsIn w l) (hin : t.In w) (hn : n = l.length) :
    Calls Try.prog 4 #[.slice ao n cap, eval t, .int .i64 time] w fun e w' => e = .returned (.bool true) ∧ Below w.heap.size w w' := by
  obtain ⟨V, hV⟩ : ∃ V, V = w.alloc (.cells #[.int .i64 t.hd.kind, .int .i64 t.hd.n, .int .i64 t.hd.range, .string t.hd.word, .slice t.sp.ma t.hd.ms.length t.sp.mc, .slice t.sp.ba t.hd.bs.length t.sp.bc, .slice t.sp.ka t.kids.length t.sp.kc] 27) := ⟨_, rfl⟩
  obtain ⟨X, hX⟩ : ∃ X, X = w.heap.size := ⟨_, rfl⟩
  have bel : Below w.heap.size w V := by rw [hV]; exact (Below.refl _ _).alloc (Nat.le_refl _) _
  have F0 : V.heap[X]? = some (.cells #[.int .i64 t.hd.kind, .int .i64 t.hd.n, .int .i64 t.hd.range, .string t.hd.word, .slice t.sp.ma t.hd.ms.length t.sp.mc, .slice t.sp.ba t.hd.bs.length t.sp.bc, .slice t.sp.ka t.kids.length t.sp.kc] 27 (0, 0)) := by rw [hV, hX]; exact heap_alloc_new w _
  have He : Hid (eval t = .agg #[.int .i64 t.hd.kind, .int .i64 t.hd.n, .int .i64 t.hd.range, .string t.hd.word, .slice t.sp.ma t.hd.ms.length t.sp.mc, .slice t.sp.ba t.hd.bs.length t.sp.bc, .slice t.sp.ka t.kids.length t.sp.kc]) := rfl
  have HV := hide hV
  have HX := hide hX
  have HN := hide hn
  rw [He.out]
  clear hV hX hn
  go_enter Try.func4, Try.ntmps4
  go_wp2_with fail
  rw [← HV.out, ← HX.out]
  refine (malive_any V).mono ?_
  rintro e wa ⟨rfl, hba⟩
  have bela : Below w.heap.size w wa := bel.trans (hba.mono bel.size)
  have Fa := below_block hba F0
  have hsa := hs.below bela
  have hla := hl.below bela
  have hina := ET.In.below bela t hin
  clear HV hba F0 hs hl hin bel
  obtain ⟨p0, p1, p2, p3, p4, p5, p6⟩ := seven_cells Fa
  have xla : X < wa.heap.size := lt_of_block Fa
  go_wp2_with fail
  rw [← He.out]
  refine (mask_any l t time ao n cap wa hsa hla hina HN.out).mono ?_
  rintro e w0 ⟨ca, co, Na, da, rfl, hca, hNa, csa, hb6⟩
  rw [He.out]
  obtain ⟨A, hA⟩ : ∃ A, A = GrainU.ask (lns l) t.ex time := ⟨_, rfl⟩
  rw [← hA] at hca ⊢
  obtain ⟨E0, hE0⟩ : ∃ E, E = A.2 := ⟨_, rfl⟩
  rw [← hE0]
  have HAA := hide hA
  have HE0 := hide hE0
  have F1 := below_block hb6 Fa
  have bel0 : Below w.heap.size w w0 := bela.trans (hb6.mono bela.size)
  have hs0 := hsa.below hb6
  have hl0 := hla.below hb6
  have hin0 := ET.In.below hb6 t hina
  have HCA := hide hca
  have HNA := hide hNa
  clear hA hE0 hca hNa p0 p1 p2 p3 p4 p5 p6 hb6 Fa hsa hla hina bela xla
  by_cases g : E0 = 0
  · subst g
    have SG := hide (signs_ask (l := l) (e := t.ex) (time := time) (by rw [← HAA.out]; exact HE0.out.symm))
    have HS : Hid (∀ W : World, Below w0.heap.size w0 W → W.cell? ⟨X, 0, none⟩ = some (.int .i64 t.hd.kind) ∧ W.cell? ⟨X, 1, none⟩ = some (.int .i64 t.hd.n) ∧ W.cell? ⟨X, 2, none⟩ = some (.int .i64 t.hd.range) ∧ W.cell? ⟨X, 3, none⟩ = some (.string t.hd.word) ∧ W.cell? ⟨X, 4, none⟩ = some (.slice t.sp.ma t.hd.ms.length t.sp.mc) ∧ W.cell? ⟨X, 5, none⟩ = some (.slice t.sp.ba t.hd.bs.length t.sp.bc) ∧ W.cell? ⟨X, 6, none⟩ = some (.slice t.sp.ka t.kids.length t.sp.kc)) := fun W hb => seven_cells (below_block hb F1)
    have PA : Hid (∀ (B W : World) (t' : ET) (R : List Cl × Int), Below w0.heap.size w0 B → Below B.heap.size B W → t'.In W → GrainU.ask (lns l) t'.ex time = R → Calls Try.prog 7 #[.slice ao n cap, eval t', .int .i64 time] W fun e w' => ∃ cts co N d, e = .returned (.tuple #[.slice co N d, .int .i64 R.2]) ∧ cls cts = R.1 ∧ Hid (N = cts.length) ∧ CsIn w' co cts ∧ Below B.heap.size B w') := by
      intro B W t' R h0 hb hi hR
      subst hR
      have hb0 : Below w0.heap.size w0 W := h0.trans (hb.mono h0.size)
      refine (mask_any l t' time ao n cap W (hs0.below hb0) (hl0.below hb0) hi HN.out).mono ?_
      rintro e w' ⟨c, o, N, d, h1, h2, h3, h4, h5⟩
      exact ⟨c, o, N, d, h1, h2, h3, h4, hb.trans (h5.mono hb.size)⟩
    have PN : Hid (∀ (k : Int) (B W : World), Below B.heap.size B W → Calls Try.prog 15 #[.int .i64 k] W fun e w' => e = .returned (eval (numT k)) ∧ Below B.heap.size B w') := by
      intro k B W hb
      refine (snum_any k W).mono ?_
      rintro e w' ⟨h1, h2⟩
      exact ⟨h1, hb.trans (h2.mono hb.size)⟩
    have PT : Hid (∀ (s : ByteArray) (a b : ET) (B W : World), Below B.heap.size B W → a.In B → b.In B → s.size ≤ 9223372036854775806 → Calls Try.prog 16 #[.string s, eval a, eval b] W fun e w' => ∃ t : ET, e = .returned (eval t) ∧ Hid (t.ex = twoE s a.ex b.ex) ∧ t.In w' ∧ Below B.heap.size B w') := by
      intro s a b B W hb ha hb' hs
      refine (stwo_any s a b W (ET.In.below hb a ha) (ET.In.below hb b hb') hs).mono ?_
      rintro e w' ⟨t, h1, h2, h3, h4⟩
      exact ⟨t, h1, h2, h3, hb.trans (h4.mono hb.size)⟩
    obtain ⟨P, hP⟩ : ∃ P, P = GrainU.ask (lns l) (twoE (lit [42]) t.ex (numE 2)) time := ⟨_, rfl⟩
    obtain ⟨Q, hQ⟩ : ∃ P, P = GrainU.ask (lns l) (twoE (lit [43]) t.ex t.ex) time := ⟨_, rfl⟩
    obtain ⟨R, hR⟩ : ∃ P, P = GrainU.ask (lns l) (twoE (lit [45]) t.ex t.ex) time := ⟨_, rfl⟩
    obtain ⟨S, hS⟩ : ∃ P, P = GrainU.ask (lns l) (twoE (lit [43]) (numE 0) t.ex) time := ⟨_, rfl⟩
    rw [← hP, ← hQ, ← hR, ← hS, ← HAA.out] at SG
    have HP := hide hP
    have HQ := hide hQ
    have HR := hide hR
    have HS' := hide hS
    clear hP hQ hR hS
    have xl0 : X < w0.heap.size := lt_of_block F1
    have b00 : Below w0.heap.size w0 w0 := Below.refl _ _
    go_upto_region 8 with fail
    go_cut [8, 11] from 34 to 44 (fun ve va wx => AskAt w0 P va ve wx)
    case first =>
      have R0 : Below w0.heap.size w0 w0.drew := below_drewN (Below.refl _ w0) 1
      have HSB : Hid (∀ W : World, Below w0.heap.size w0 W → (fun W => W.cell? ⟨X, 0, none⟩ = some (.int .i64 t.hd.kind) ∧ W.cell? ⟨X, 1, none⟩ = some (.int .i64 t.hd.n) ∧ W.cell? ⟨X, 2, none⟩ = some (.int .i64 t.hd.range) ∧ W.cell? ⟨X, 3, none⟩ = some (.string t.hd.word) ∧ W.cell? ⟨X, 4, none⟩ = some (.slice t.sp.ma t.hd.ms.length t.sp.mc) ∧ W.cell? ⟨X, 5, none⟩ = some (.slice t.sp.ba t.hd.bs.length t.sp.bc) ∧ W.cell? ⟨X, 6, none⟩ = some (.slice t.sp.ka t.kids.length t.sp.kc)) W) := fun W hb => HS.out W (b00.trans (hb.mono b00.size))
      obtain ⟨c0, c1, c2, c3, c4, c5, c6⟩ := HSB.out _ R0
      go_region_held3 (fun W => W.cell? ⟨X, 0, none⟩ = some (.int .i64 t.hd.kind) ∧ W.cell? ⟨X, 1, none⟩ = some (.int .i64 t.hd.n) ∧ W.cell? ⟨X, 2, none⟩ = some (.int .i64 t.hd.range) ∧ W.cell? ⟨X, 3, none⟩ = some (.string t.hd.word) ∧ W.cell? ⟨X, 4, none⟩ = some (.slice t.sp.ma t.hd.ms.length t.sp.mc) ∧ W.cell? ⟨X, 5, none⟩ = some (.slice t.sp.ba t.hd.bs.length t.sp.bc) ∧ W.cell? ⟨X, 6, none⟩ = some (.slice t.sp.ka t.kids.length t.sp.kc)) (first | exact HSB.out _ (by with_reducible assumption) | go_keep)
        (first
          | (go_at_call 15; refine (PN.out 2 w0 _ (by with_reducible assumption)).mono ?_; rintro e u1 ⟨rfl, hbu1⟩)
          | (go_at_call 16; rw [← He.out]; refine (PT.out _ t (numT 2) w0 _ (by with_reducible assumption) hin0 (numT_in _ _) (by decide)).mono ?_; rintro e u2 ⟨t2, rfl, hex2, in2, hbu2⟩)
          | (go_at_call 7; refine (PA.out w0 _ t2 P b00 (by with_reducible assumption) in2 (by rw [hex2.out, HP.out]; rfl)).mono ?_; rintro e u3 ⟨cp, cpo, Np, dp, rfl, hcp, hNp, csp, hb0p⟩))
      all_goals
        rw [He.out]
        go_wp2_with fail
        go_meet
        exact ⟨cp, cpo, Np, dp, rfl, rfl, hcp, hNp.out, csp, hb0p⟩
    case rest =>
    obtain ⟨cp, cpo, Np, dp, rfl, rfl, hcp, hNp, csp, blp⟩ := hcut
    obtain ⟨W1, hW⟩ : ∃ W, W = wc := ⟨_, rfl⟩
    rw [← hW] at csp blp ⊢
    have HCp := hide hcp
    have HNp := hide hNp
    obtain ⟨P2, hr2⟩ : ∃ z, z = P.2 := ⟨_, rfl⟩
    rw [← hr2]
    have HP2 := hide hr2
    have bW1 : Below w0.heap.size w0 W1 := b00.trans (blp.mono b00.size)
    have inW1 := ET.In.below bW1 t hin0
    clear hW hcp hNp hr2
    obtain ⟨c0, c1, c2, c3, c4, c5, c6⟩ := HS.out _ bW1
    have xlW2 : X < W1.heap.size := Nat.lt_of_lt_of_le xl0 bW1.size
    go_wp2_with fail
    have k1 := PT.out ⟨#[43]⟩ t t W1 W1 (Below.refl _ _) inW1 inW1 (by decide)
    rw [He.out] at k1
    refine k1.mono ?_
    rintro e uW2 ⟨tq, rfl, hexq, inq, bq1⟩
    clear k1 c0 c1 c2 c3 c4 c5 c6
    go_wp2_with fail
    refine (PA.out W1 uW2 tq Q bW1 bq1 inq (by rw [hexq.out, HQ.out]; rfl)).mono ?_
    rintro e W2 ⟨cq, cqo, Nq, dq, rfl, hcq, HNq, csq, blq⟩
    have HCq := hide hcq
    obtain ⟨Q2, hr2⟩ : ∃ z, z = Q.2 := ⟨_, rfl⟩
    rw [← hr2]
    have HQ2 := hide hr2
    have bW2 : Below w0.heap.size w0 W2 := bW1.trans (blq.mono bW1.size)
    have inW2 := ET.In.below bW2 t hin0
    clear hcq hr2 inq hexq bq1
    obtain ⟨c0, c1, c2, c3, c4, c5, c6⟩ := HS.out _ bW2
    have xlW3 : X < W2.heap.size := Nat.lt_of_lt_of_le xl0 bW2.size
    go_wp2_with fail
    have k1 := PT.out ⟨#[45]⟩ t t W2 W2 (Below.refl _ _) inW2 inW2 (by decide)
    rw [He.out] at k1
    refine k1.mono ?_
    rintro e uW3 ⟨tq, rfl, hexq, inq, bq1⟩
    clear k1 c0 c1 c2 c3 c4 c5 c6
    go_wp2_with fail
    refine (PA.out W2 uW3 tq R bW2 bq1 inq (by rw [hexq.out, HR.out]; rfl)).mono ?_
    rintro e W3 ⟨cr, cro, Nr, dr, rfl, hcr, HNr, csr, blr⟩
    have HCr := hide hcr
    obtain ⟨R2, hr2⟩ : ∃ z, z = R.2 := ⟨_, rfl⟩
    rw [← hr2]
    have HR2 := hide hr2
    have bW3 : Below w0.heap.size w0 W3 := bW2.trans (blr.mono bW2.size)
    have inW3 := ET.In.below bW3 t hin0
    clear hcr hr2 inq hexq bq1
    go_upto_region 11 with fail
    go_cut [17, 16] from 65 to 75 (fun ve va wx => AskAt W3 S va ve wx)
    case first =>
      have R0 : Below W3.heap.size W3 W3.drew := below_drewN (Below.refl _ W3) 1
      have HSB : Hid (∀ W : World, Below W3.heap.size W3 W → (fun W => W.cell? ⟨X, 0, none⟩ = some (.int .i64 t.hd.kind) ∧ W.cell? ⟨X, 1, none⟩ = some (.int .i64 t.hd.n) ∧ W.cell? ⟨X, 2, none⟩ = some (.int .i64 t.hd.range) ∧ W.cell? ⟨X, 3, none⟩ = some (.string t.hd.word) ∧ W.cell? ⟨X, 4, none⟩ = some (.slice t.sp.ma t.hd.ms.length t.sp.mc) ∧ W.cell? ⟨X, 5, none⟩ = some (.slice t.sp.ba t.hd.bs.length t.sp.bc) ∧ W.cell? ⟨X, 6, none⟩ = some (.slice t.sp.ka t.kids.length t.sp.kc)) W) := fun W hb => HS.out W (bW3.trans (hb.mono bW3.size))
      obtain ⟨c0, c1, c2, c3, c4, c5, c6⟩ := HSB.out _ R0
      go_region_held3 (fun W => W.cell? ⟨X, 0, none⟩ = some (.int .i64 t.hd.kind) ∧ W.cell? ⟨X, 1, none⟩ = some (.int .i64 t.hd.n) ∧ W.cell? ⟨X, 2, none⟩ = some (.int .i64 t.hd.range) ∧ W.cell? ⟨X, 3, none⟩ = some (.string t.hd.word) ∧ W.cell? ⟨X, 4, none⟩ = some (.slice t.sp.ma t.hd.ms.length t.sp.mc) ∧ W.cell? ⟨X, 5, none⟩ = some (.slice t.sp.ba t.hd.bs.length t.sp.bc) ∧ W.cell? ⟨X, 6, none⟩ = some (.slice t.sp.ka t.kids.length t.sp.kc)) (first | exact HSB.out _ (by with_reducible assumption) | go_keep)
        (first
          | (go_at_call 15; refine (PN.out 0 W3 _ (by with_reducible assumption)).mono ?_; rintro e u1 ⟨rfl, hbu1⟩)
          | (go_at_call 16; rw [← He.out]; refine (PT.out _ (numT 0) t W3 _ (by with_reducible assumption) (numT_in _ _) inW3 (by decide)).mono ?_; rintro e u2 ⟨t2, rfl, hex2, in2, hbu2⟩)
          | (go_at_call 7; refine (PA.out W3 _ t2 S bW3 (by with_reducible assumption) in2 (by rw [hex2.out, HS'.out]; rfl)).mono ?_; rintro e u3 ⟨cp, cpo, Np, dp, rfl, hcp, hNp, csp, hb0p⟩))
      all_goals
        rw [He.out]
        go_wp2_with fail
        go_meet
        exact ⟨cp, cpo, Np, dp, rfl, rfl, hcp, hNp.out, csp, hb0p⟩
    case rest =>
    obtain ⟨cs, cso, Ns, ds, rfl, rfl, hcs, hNs, css, bls⟩ := hcut
    obtain ⟨W4, hW⟩ : ∃ W, W = wc := ⟨_, rfl⟩
    rw [← hW] at css bls ⊢
    have HCs := hide hcs
    have HNs := hide hNs
    obtain ⟨S2, hr2⟩ : ∃ z, z = S.2 := ⟨_, rfl⟩
    rw [← hr2]
    have HS2 := hide hr2
    have bW4 : Below w0.heap.size w0 W4 := bW3.trans (bls.mono bW3.size)
    have inW4 := ET.In.below bW4 t hin0
    clear hW hcs hNs hr2
    have bw4 : Below w.heap.size w W4 := bel0.trans (bW4.mono bel0.size)
    rcases SG.out with z4 | ⟨s1, s2, s3, s4⟩
    · have hq4 : Q2 = 4 := HQ2.out.trans z4
      rw [hq4]
      clear hq4 z4
      go_wp2
      all_goals
        go_ret
        exact ⟨rfl, bw4⟩
    · have hPQ : P2 = Q2 := by rw [HP2.out, HQ2.out, s1]
      subst hPQ
      have hR2 : R2 = 0 := by rw [HR2.out, s3]
      have hS2 : S2 = 0 := by rw [HS2.out, s4]
      subst hR2 hS2
      have gP := ask_gd l (twoE (lit [42]) t.ex (numE 2)) time
      rw [← HP.out, ← HCp.out] at gP
      have gS := ask_gd l (twoE (lit [43]) (numE 0) t.ex) time
      rw [← HS'.out, ← HCs.out] at gS
      have fewP : (∀ z ∈ cp, z.ser.length ≤ 9223372036854775807) ∧ Np ≤ 9223372036854775806 := by
        refine ⟨fun z hz => ?_, ?_⟩
        · have h2 : z.ser.length ≤ 4 := gP.1 z.cl (List.mem_map_of_mem hz)
          omega
        · have := gP.2; rw [cls_len, ← HNp.out] at this; omega
      have fewS : (∀ z ∈ cs, z.ser.length ≤ 9223372036854775807) ∧ Ns ≤ 9223372036854775806 := by
        refine ⟨fun z hz => ?_, ?_⟩
        · have h2 : z.ser.length ≤ 4 := gS.1 z.cl (List.mem_map_of_mem hz)
          omega
        · have := gS.2; rw [cls_len, ← HNs.out] at this; omega
      have csp4 := ((csp.below blq).below blr).below bls
      have csq4 := (csq.below blr).below bls
      have csr4 := csr.below bls
      have csa4 := csa.below bW4
      have PQ := hide (rsamec_any cp cq cpo cqo Np Nq dp dq W4 csp4 csq4 HNp.out HNq.out (by rw [HCp.out, HCq.out, s2]) fewP.1 fewP.2)
      have hNr : Nr = Na := by
        have h1 := congrArg List.length HCr.out
        rw [s3, cls_len, ← HNr.out] at h1
        have h2 := congrArg List.length HCA.out
        rw [cls_len, ← HNA.out] at h2
        simp at h1
        omega
      have hRA : ∀ k, k < cr.length → k < ca.length ∧ (ct cr k).v = 0 ∧ (ct cr k).ser = (ct ca k).ser := by
        intro k hk
        have hka : k < ca.length := by rw [← HNA.out, ← hNr, HNr.out]; exact hk
        have e1 : (cls cr)[k]? = some ((ct cr k).ser, (ct cr k).v) := by simp [cls, ct, CT.cl, List.getD, List.getElem?_eq_getElem hk]
        have e2 : (cls ca)[k]? = some ((ct ca k).ser, (ct ca k).v) := by simp [cls, ct, CT.cl, List.getD, List.getElem?_eq_getElem hka]
        rw [HCr.out, s3] at e1
        rw [HCA.out] at e2
        simp only [List.getElem?_map, e2, Option.map_some, Option.some.injEq, Prod.mk.injEq] at e1
        exact ⟨hka, e1.2.symm, e1.1.symm⟩
      have few4 : ∀ k, k < cr.length → (ct cr k).ser.length ≤ 4 := by
        intro k hk
        have g := ask_gd l t.ex time
        rw [← HAA.out, ← HCA.out] at g
        obtain ⟨h1, _, h3⟩ := hRA k hk
        rw [h3]
        exact g.1 (ct ca k).cl (List.mem_map_of_mem (by simp only [ct, List.getD, List.getElem?_eq_getElem h1, Option.getD_some]; exact List.getElem_mem h1))
      have SA : Hid (∀ W : World, Below W4.heap.size W4 W → Calls Try.prog 9 #[.slice cso Ns ds, .slice co Na da] W fun e w' => e = .returned (.bool true) ∧ Below W.heap.size W w') := fun W hb =>
        rsamec_any cs ca cso co Ns Na ds da W (css.below hb) (csa4.below hb) HNs.out HNA.out (by rw [HCs.out, s4, HCA.out]) fewS.1 fewS.2
      have HRA := hide hRA
      have HF4 := hide few4
      have hsmall : Nr ≤ 8 := by
        have g := ask_gd l t.ex time
        rw [← HAA.out, ← HCA.out, cls_len, ← HNA.out] at g
        omega
      clear SG s1 s2 s3 s4 gP gS fewP fewS csp csq csr csa csp4 csq4 css hRA few4
      by_cases h4 : P2 = 4
      · rw [h4]
        go_wp2
        all_goals
          go_ret
          exact ⟨rfl, bw4⟩
      · have n4 : (P2 == 4) = false := by simpa using h4
        have n0 : (P2 == P2) = true := by simp
        subst hNr
        have nl : ((Nr : Int) == (Nr : Int)) = true := by simp
        go_wp2_with fail
        refine PQ.out.mono ?_
        rintro e w5 ⟨rfl, hb5⟩
        go_wp2_with fail
        refine (SA.out w5 hb5).mono ?_
        rintro e w6 ⟨rfl, hb56⟩
        have hb6 : Below W4.heap.size W4 w6 := hb5.trans (hb56.mono hb5.size)
        have csr6 := csr4.below hb6
        have csa6 := csa4.below hb6
        have bw6 : Below w.heap.size w w6 := bw4.trans (hb6.mono bw4.size)
        clear PQ SA hb5 hb56 hb6 csr4 csa4
        go_wp2_with fail
        go_loopw [114] (fun i wr => ∃ k : Nat, k ≤ Nr ∧ i = .int .i64 k ∧ Below w6.heap.size w6 wr) (fun i _ => Nr - (intOf i).toNat)
        case atStart => exact ⟨0, Nat.zero_le _, rfl, Below.refl _ _⟩
        case round =>
          obtain ⟨k, hk, rfl, belr⟩ := hrel
          by_cases hlt : k < Nr
          · have hkr : k < cr.length := by rw [← HNr.out]; exact hlt
            obtain ⟨hka, hv0, hser⟩ := HRA.out k hkr
            obtain ⟨b1, o1, hro, hbl1, hcell1⟩ := seg_cell csr6.seg hkr
            obtain ⟨b2, o2, hao, hbl2, hcell2⟩ := seg_cell csa6.seg hka
            obtain ⟨x, hx⟩ : ∃ x, x = ct cr k := ⟨_, rfl⟩
            obtain ⟨y, hy⟩ : ∃ y, y = ct ca k := ⟨_, rfl⟩
            have sx : Seg w6 x.sa (lcells x.ser) := by rw [hx]; exact csr6.ser _ (by simp only [ct, List.getD, List.getElem?_eq_getElem hkr, Option.getD_some]; exact List.getElem_mem hkr)
            have sy : Seg w6 y.sa (lcells y.ser) := by rw [hy]; exact csa6.ser _ (by simp only [ct, List.getD, List.getElem?_eq_getElem hka, Option.getD_some]; exact List.getElem_mem hka)
            obtain ⟨sn, hsn⟩ : ∃ m, m = x.ser.length := ⟨_, rfl⟩
            have hyx : y.ser = x.ser := by rw [hx, hy, hser]
            have hl4 : sn ≤ 4 := by rw [hsn, hx]; exact HF4.out k hkr
            have e0 : wr.cell? ⟨b1, o1 + k * 2, none⟩ = some (.slice x.sa sn x.sc) := by rw [hsn, hx]; exact (belr.cell (by exact hbl1)).trans (hcell1 k hkr).1
            have e1 : wr.cell? ⟨b1, o1 + k * 2 + 1, none⟩ = some (.int .i64 0) := by rw [(belr.cell (p := ⟨b1, o1 + k * 2 + 1, none⟩) (by exact hbl1)).trans (hcell1 k hkr).2, hv0]
            obtain ⟨W7, hW7⟩ : ∃ W, W = wr.alloc (.cells #[.slice x.sa sn x.sc, .int .i64 0] 44) := ⟨_, rfl⟩
            obtain ⟨Y, hY⟩ : ∃ Y, Y = wr.heap.size := ⟨_, rfl⟩
            have hb7 : Below wr.heap.size wr W7 := by rw [hW7]; exact (Below.refl _ _).alloc (Nat.le_refl _) _
            have bel7 : Below w6.heap.size w6 W7 := belr.trans (hb7.mono belr.size)
            have F7 : W7.heap[Y]? = some (.cells #[.slice x.sa sn x.sc, .int .i64 0] 44 (0, 0)) := by rw [hW7, hY]; exact heap_alloc_new wr _
            have f0 : W7.cell? ⟨b2, o2 + k * 2, none⟩ = some (.slice y.sa sn y.sc) := by rw [hsn, ← hyx, hy]; exact (bel7.cell (by exact hbl2)).trans (hcell2 k hka).1
            have SS : Hid (∀ W : World, Below W7.heap.size W7 W → Calls Try.prog 17 #[.slice x.sa sn x.sc, .slice y.sa sn y.sc] W fun e w' => e = .returned (.bool true) ∧ Below W7.heap.size W7 w') := by
              intro W hbW
              have hb : Below w6.heap.size w6 W := bel7.trans (hbW.mono bel7.size)
              refine (sames_any x.ser y.ser x.sa y.sa sn sn x.sc y.sc W (sx.below hb) (sy.below hb) hsn (by rw [hyx]; exact hsn) (by omega)).mono ?_
              rintro e w' ⟨h1, h2⟩
              refine ⟨?_, hbW.trans (h2.mono hbW.size)⟩
              rw [h1, hyx]; simp
            have HW7 := hide hW7
            have HY := hide hY
            have HSn := hide hsn
            clear hW7 hY hx hy hser hv0 hcell1 hcell2 sx sy hyx hsn hb7
            subst hro hao
            obtain ⟨g0, g1, _, _⟩ := two_cells F7
            go_upto_region 19 with fail
            rw [← HW7.out, ← HY.out]
            have hl2 : b2 < W7.heap.size := Nat.lt_of_lt_of_le hbl2 bel7.size
            have hki : (k : Int) < (Nr : Int) := by omega
            have R0 : Below W7.heap.size W7 W7.drew := below_drewN (Below.refl _ W7) 1
            have HSB : Hid (∀ W : World, Below W7.heap.size W7 W → W.cell? ⟨Y, 0, none⟩ = some (.slice x.sa sn x.sc) ∧ W.cell? ⟨Y, 1, none⟩ = some (.int .i64 0) ∧ W.cell? ⟨b2, o2 + k * 2, none⟩ = some (.slice y.sa sn y.sc)) := fun W hb => ⟨(two_cells (below_block hb F7)).1, (two_cells (below_block hb F7)).2.1, (hb.cell (p := ⟨b2, o2 + k * 2, none⟩) hl2).trans f0⟩
            obtain ⟨h0, h1, h2⟩ := HSB.out _ R0
            go_region_held3 (fun W => W.cell? ⟨Y, 0, none⟩ = some (.slice x.sa sn x.sc) ∧ W.cell? ⟨Y, 1, none⟩ = some (.int .i64 0) ∧ W.cell? ⟨b2, o2 + k * 2, none⟩ = some (.slice y.sa sn y.sc)) (first | exact HSB.out _ (by with_reducible assumption) | go_keep)
              (first | (go_at_call 17; refine (SS.out _ (by with_reducible assumption)).mono ?_; rintro e w9 ⟨rfl, hb9⟩))
            all_goals
              go_wp2
              go_roundw
              case rel => exact ⟨k + 1, by omega, by go_num, bel7.trans (hb9.mono bel7.size)⟩
              case measure => simp [intOf]; omega
          · have he : k = Nr := by omega
            subst he
            go_wp2
            go_ret
            exact ⟨rfl, bw6.trans (belr.mono bw6.size)⟩
  · have hA1 : A.1 = [] := by rw [HAA.out]; exact ask_no (by rw [← HAA.out, ← HE0.out]; exact g)
    have hN0 : Na = 0 := by
      have := HCA.out
      rw [hA1] at this
      have h2 := congrArg List.length this
      rw [cls_len, ← HNA.out] at h2
      exact h2
    subst hN0
    have q1 : (E0 == 0) = false := by simpa using g
    clear g hA1
    go_wp2
    go_ret
    exact ⟨rfl, bel0⟩

end Go.Proofs.Ytjgdjbphelkdoad

/-
  For every input, MeanSigns returns true: twice a thing is it and itself; a thing less itself is nothing; nothing more is it; of the same series. No condition.
-/
namespace Go.Proofs.Ytjgdjbphelkdoad
open Go.ChangeShapes Go.WideShapes Go.ChangeAt Go.RowKit Go.GrainU

theorem mstrodAll_three {H : Type} {enc : TypeId × Value → H} {P : Program} {w : World} {base : Nat} {sp : Nat → Bool} {held : Bool} {t0 t1 t2 : TypeId} {args : Array Value} {ds : List (DataW H)} {p : List MemPlace} (h : DataW.TrodAll enc P w base sp held [t0, t1, t2] args.toList ds p) :
    ∃ v0 v1 v2 d0 d1 d2 p0 p1 p2, args = #[v0, v1, v2] ∧ ds = [d0, d1, d2] ∧ p = p0 ++ (p1 ++ (p2 ++ [])) ∧ DataW.Trod enc P w base sp held t0 v0 d0 p0 ∧ DataW.Trod enc P w base sp held t1 v1 d1 p1 ∧ DataW.Trod enc P w base sp held t2 v2 d2 p2 := by
  obtain ⟨v0, vs0, d0, ds0, p0, q0, e0, rfl, rfl, h0, r0⟩ := trodAll_cons h
  obtain ⟨v1, vs1, d1, ds1, p1, q1, e1, rfl, rfl, h1, r1⟩ := trodAll_cons r0
  obtain ⟨v2, vs2, d2, ds2, p2, q2, e2, rfl, rfl, h2, r2⟩ := trodAll_cons r1
  obtain ⟨rfl, rfl, rfl⟩ := trodAll_nil r2
  refine ⟨v0, v1, v2, d0, d1, d2, p0, p1, p2, ?_, rfl, rfl, h0, h1, h2⟩
  cases args
  simp_all

theorem ms_array {cs : Array Value} {l : List Value} (h : cs.toList = l) : cs = l.toArray := by rw [← h]

set_option maxRecDepth 100000 in
theorem msigns_lifted (os : Os) (started : os.Started) (H : Type) (enc : TypeId × Value → H) :
    ReturnsInHanded {} Try.checked os 4 .any (Rows.meanSignsSpec.pre6 enc Try.prog Try.f4 Rows.meanSignsRow.domain false) (Rows.meanSignsSpec.post enc Try.prog Try.f4 false true false false) := by
  refine returnsInHanded_of_change_sized (C := Try.checked) Try.own started (by kernel_rfl) Try.func4
    (ChangeSpec.witness6 (enc := enc) (C := Try.checked) false ⟨#[], #[.slice none 0 0, .agg #[.int .i64 0, .int .i64 0, .int .i64 0, .string ⟨#[]⟩, .slice none 0 0, .slice none 0 0, .slice none 0 0], .int .i64 0], []⟩ 8 (by kernel_rfl) (by kernel_rfl) (by kernel_rfl) (by kernel_rfl)) ?_
  intro W base args ds gs before hval0 hW hcnd hsz0 _
  have hval : ∀ (j : Nat) t v, Try.f4.params[j]? = some t → args[j]? = some v → Value.okWide Try.prog W .any base t v := hval0
  have hsz : (DataW.weightsEach Try.prog (Try.f4.params.toList ++ Rows.meanSignsSpec.plain.varTypes Try.prog) (ds ++ gs)).all (· ≤ reachBytes) = true := hsz0
  have hW' := hW
  obtain ⟨p, q, hA0, hV, rfl, hfz, hnd⟩ := hW
  have hA : DataW.TrodAll enc Try.prog W 0 (fun _ => true) true Try.f4.params.toList args.toList ds p := hA0
  rw [Try.params4] at hA hval hsz
  obtain ⟨v0, v1, v2, d0, d1, d2, p0, p1, p2, rfl, rfl, rfl, h0, h1, h2⟩ := mstrodAll_three hA
  obtain ⟨rfl, rfl⟩ := trodVars_none hV
  have lt0 : ∀ x ∈ p0, x.block < W.heap.size := by obtain ⟨m, hm⟩ := h0; exact DataW.trod_lt m _ _ _ hm
  have lt1 : ∀ x ∈ p1, x.block < W.heap.size := by obtain ⟨m, hm⟩ := h1; exact DataW.trod_lt m _ _ _ hm
  obtain ⟨a0, len0, cap0, rfl⟩ := okWide_slice Try.underlying22 (hval 0 22 v0 rfl rfl)
  obtain ⟨cs, rfl, hcs⟩ := okWide_struct Try.underlying27 (hval 1 27 v1 rfl rfl)
  obtain ⟨z2, rfl, rfl, rfl, w2⟩ := open_int Try.underlying3 (hval 2 3 v2 rfl rfl) h2
  have k0 := h0
  have k1 := h1
  obtain ⟨f0, hf0⟩ := h0
  obtain ⟨f1, hf1⟩ := h1
  obtain ⟨l, ao, cap, e0, sg, ln, hb⟩ := open_lines hf0 (fun k hk => of_decide_eq_true (List.all_eq_true.1 hsz k (DataW.weights_mem_each (j := 0) rfl rfl k hk)))
  obtain ⟨t, ht, hin⟩ := open_expr f1 _ _ hf1 (fun k hk => of_decide_eq_true (List.all_eq_true.1 hsz k (DataW.weights_mem_each (j := 1) rfl rfl k hk)))
  simp only [Value.cells, List.cons.injEq, Value.slice.injEq, and_true] at e0
  obtain ⟨rfl, rfl, rfl⟩ := e0
  have hv : Value.agg cs = eval t := by
    simp only [Value.cells] at ht
    rw [ms_array ht]
    rfl
  clear hA0 hval0 hsz0 hsz
  rw [hv] at hW' k1 ⊢
  refine (msigns_any l t z2 a0 l.length cap0 W sg (fun x hx => (ln x hx).ok) hin rfl).mono fun e W' ⟨he, bel⟩ => ?_
  subst he
  exact ⟨_, rfl, _, _, _, [], _, [], hW', trodAll_mk1 (shut_bool Try.underlying4 _), (trodAll_cons_mk (Below.trod Try.laidOut (by kernel_rfl) (of_decide_eq_true (by kernel_rfl)) k0 bel lt0) (trodAll_cons_mk (Below.trod Try.laidOut (by kernel_rfl) (of_decide_eq_true (by kernel_rfl)) k1 bel lt1) (trodAll_cons_mk (shut_int Try.underlying3 w2) trodAll_mk0))), rfl, bel.frame _, fun h => by cases h⟩

theorem msigns_holds : Rows.MeanSignsSaid :=
  OpenClaim.holds_of_wide 4 Try.f4 rfl rfl rfl rfl rfl rfl rfl ⟨rfl, rfl, rfl, rfl, rfl⟩ rfl rfl rfl rfl rfl (by kernel_rfl) Try.func4 (by kernel_rfl)
    (of_decide_eq_true (by kernel_rfl)) (by unfold Func.isWrapper; first | (rw [if_pos (by decide +kernel)]; kernel_rfl) | (rw [if_neg (by decide +kernel)]; exact ⟨rfl, rfl⟩))
    (fun os started H enc _ => msigns_lifted os started H enc)

end Go.Proofs.Ytjgdjbphelkdoad
