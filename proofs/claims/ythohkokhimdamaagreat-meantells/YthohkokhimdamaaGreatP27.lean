/-
  The walk of slices.Insert at cells: the fourth road; all roads together.
-/
import Derived.Test.YthohkokhimdamaaGreatP26
/-
  The walk of slices.Insert at cells: three roads.
-/
namespace Go.Proofs.YthohkokhimdamaaGreat
open Go.RowKit Go.GrainU Go.Lib

/-- what Insert makes of a row -/
def InsPost (w : World) (base : Nat) (v : Value) (N p : Nat) (xs vs : List Value) (e : Ending) (w' : World) : Prop :=
  ∃ g d, e = .returned (.slice (some ⟨g, 0, none⟩) (N + 1) d) ∧ w'.ownsRow base 57 2 (.slice (some ⟨g, 0, none⟩) (N + 1) d) (N + 1) (xs.take (p * 2) ++ (vs ++ xs.drop (p * 2))) ∧ w.grownBy w' v.ownBlock ∧ (v.ownBlock = some g ∨ w.heap.size ≤ g)

set_option maxRecDepth 100000 in
set_option maxHeartbeats 4000000 in
theorem ins_end (xs : List Value) (base N d vb : Nat) (co : Option Addr) (x y : Value) (w : World) (own : w.ownsRow base 57 2 (.slice co N d) N xs) (hN : N ≤ 8) (hbase : base ≤ w.heap.size) (F : w.heap[vb]? = some (.cells #[x, y] 57 (0, 0))) (hx : x.oneCell' = true) (hy : y.oneCell' = true) :
    Calls Tryz.prog 73 #[.slice co N d, .int .i64 N, .slice (some ⟨vb, 0, none⟩) 1 1] w (InsPost w base (.slice co N d) N N xs [x, y]) := by
  obtain ⟨i0, hi, hz0, hz1, hz2⟩ := info_parts Tryz.infoCell
  have hl : xs.length = N * 2 := own.1
  have HT : Hid (xs.take (N * 2) ++ ([x, y] ++ xs.drop (N * 2)) = xs ++ [x, y]) := by
    show _ = _
    rw [List.take_of_length_le (by omega), List.drop_eq_nil_of_le (by omega)]; simp
  have hnw : ∀ j u, [x, y][j]? = some u → w.cell? ((⟨vb, 0, none⟩ : Addr).add j) = some u := by
    obtain ⟨c0, c1, _, _⟩ := two_cells F
    intro j u hu
    rw [show (⟨vb, 0, none⟩ : Addr).add j = ⟨vb, 0 + j, none⟩ from by unfold Addr.add; split <;> simp_all]
    match j, hu with
    | 0, hu => simpa using c0.trans (by simpa using hu)
    | 1, hu => simpa using c1.trans (by simpa using hu)
  have h1 : ∀ u ∈ [x, y], u.oneCell' = true := by
    intro u hu
    simp at hu
    rcases hu with e | e
    · rw [e]; exact hx
    · rw [e]; exact hy
  have HNW := hide hnw
  have H1 := hide h1
  clear hnw h1 hx hy hl
  have hco : ∃ a, co = a := ⟨_, rfl⟩
  cases co with
  | none =>
    have hN0 : N = 0 := by
      rcases own.2 with ⟨_, h⟩ | ⟨g, c, cur, h, _⟩
      · exact h
      · cases h
    subst hN0
    have hd0 : d = 0 := by
      rcases own.2 with ⟨h, _⟩ | ⟨g, c, cur, h, _⟩
      · simpa using h
      · cases h
    subst hd0
    go_enter Tryz.func73, Tryz.ntmps73
    go_wp2_with (at_builtin; refine wpList_append_lies _ rfl _ _ 28 rfl base 57 i0 (.agg #[.slice none 0 0, .int .i64 0]) 2 32 Tryz.underlying28 hi hz0 hz1 hz2 rfl (by decide) _ _ _ rfl own ⟨vb, 0, none⟩ 1 1 [x, y] rfl rfl HNW.out H1.out (by decide) (by unfold maxLen; omega) (by omega) hbase w.heap.size rfl ?_)
    intro g cap w' ownZ grZ hatZ hltZ
    go_wp2
    go_ret
    exact ⟨g, cap, rfl, by rw [HT.out]; exact ownZ, grZ, by rcases hatZ with h | h; exact .inl h; right; omega⟩
  | some ad =>
    have had : ∃ g, ad = ⟨g, 0, none⟩ := by
      rcases own.2 with ⟨h, _⟩ | ⟨g, c, cur, h, _⟩
      · cases h
      · injection h with h1 h2 h3
        injection h1 with h1
        exact ⟨g, h1⟩
    obtain ⟨g0, rfl⟩ := had
    have hcap := (own_cap own).1
    go_enter Tryz.func73, Tryz.ntmps73
    go_wp2_with (at_builtin; refine wpList_append_lies _ rfl _ _ 28 rfl base 57 i0 (.agg #[.slice none 0 0, .int .i64 0]) 2 32 Tryz.underlying28 hi hz0 hz1 hz2 rfl (by decide) _ _ _ rfl own ⟨vb, 0, none⟩ 1 1 [x, y] rfl rfl HNW.out H1.out (by decide) (by unfold maxLen; omega) (by omega) hbase w.heap.size rfl ?_)
    all_goals
      intro g cap w' ownZ grZ hatZ hltZ
      go_wp2
      go_ret
      exact ⟨g, cap, rfl, by rw [HT.out]; exact ownZ, grZ, by rcases hatZ with h | h; exact .inl h; right; omega⟩

set_option maxRecDepth 100000 in
set_option maxHeartbeats 4000000 in
theorem ins_room (xs : List Value) (base N d p vb g : Nat) (x y : Value) (w : World) (own : w.ownsRow base 57 2 (.slice (some ⟨g, 0, none⟩) N d) N xs) (hp : p < N) (hN : N ≤ 8) (hd : N + 1 ≤ d) (F : w.heap[vb]? = some (.cells #[x, y] 57 (0, 0))) (hne : vb ≠ g) (hx : x.oneCell' = true) (hy : y.oneCell' = true) (h1c : ∀ u ∈ xs, u.oneCell' = true) :
    Calls Tryz.prog 73 #[.slice (some ⟨g, 0, none⟩) N d, .int .i64 p, .slice (some ⟨vb, 0, none⟩) 1 1] w (InsPost w base (.slice (some ⟨g, 0, none⟩) N d) N p xs [x, y]) := by
  obtain ⟨i0, hi, hz0, hz1, hz2⟩ := info_parts Tryz.infoCell
  have hl : xs.length = N * 2 := own.1
  obtain ⟨cur, hcur⟩ : ∃ cur, w.heap[g]? = some (.cells cur 57 (0, 0)) ∧ cur.size = d * 2 ∧ base ≤ g ∧ d ≤ maxLen := by
    rcases own.2 with ⟨h, _⟩ | ⟨g', c, cur, h, hb, hh, h2, h3, h4, _⟩
    · cases h
    · injection h with h1 _ h5
      injection h1 with h1
      injection h1 with h1 _ _
      subst h1
      subst h5
      exact ⟨cur, hh, h4, hb, h3⟩
  obtain ⟨hG, hGs, hGb, hGm⟩ := hcur
  have hcs : ∀ j, j < xs.length → w.cell? ⟨g, j, none⟩ = xs[j]? := fun j hj => own.cellAt j (by omega)
  have hsp : ∀ j, j < (N + 1) * 2 → (w.cell? ⟨g, j, none⟩).isSome = true := fun j hj => by
    simp [World.cell?, hG]
    omega
  have hfz : ∀ j, w.frozen? ⟨g, j, none⟩ = false := fun j => by simp [World.frozen?, hG]
  obtain ⟨q0, q1, q2, q3⟩ := two_cells F
  have hnw : ∀ j v, [x, y][j]? = some v → w.cell? ((⟨vb, 0, none⟩ : Addr).add j) = some v := by
    intro j u hu
    rw [show (⟨vb, 0, none⟩ : Addr).add j = ⟨vb, 0 + j, none⟩ from by unfold Addr.add; split <;> simp_all]
    match j, hu with
    | 0, hu => simpa using q0.trans (by simpa using hu)
    | 1, hu => simpa using q1.trans (by simpa using hu)
  have h1v : ∀ u ∈ [x, y], u.oneCell' = true := by
    intro u hu
    simp at hu
    rcases hu with e | e
    · rw [e]; exact hx
    · rw [e]; exact hy
  have hsz : (Tryz.prog.info? 57).map (·.size) = some 2 := by rw [hi]; simp [hz1]
  have hov : ∀ lb cb, (callFunc 93 #[.slice (some ⟨vb, 0, none⟩) 1 1, .slice (some ⟨g, (p + 1) * 2, none⟩) lb cb]).run Tryz.prog w = .ok (.value (.bool false)) w := fun lb cb => by
    rw [run_callFunc_extern Tryz.func93 (by kernel_rfl) (by kernel_rfl) (by kernel_rfl) (e := Extern.SlicesOverlaps.overlaps #[28, 28] #[4]) (by kernel_rfl),
      Lib.run_overlaps_apart w 28 4 57 Tryz.underlying28 2 (fun w => by simp [Go.sizeOf, typeInfo, hi, hz1]) ⟨vb, 0, none⟩ ⟨g, (p + 1) * 2, none⟩ 1 1 lb cb hne 57 57 2 (d * 2) (by simp [World.shape?, F]) (by simp [World.shape?, hG, hGs]) (by omega) q2 (by simp [World.frozen?, F])]
    rfl
  have hdl : (xs.drop (p * 2)).length = (N - p) * 2 := by rw [List.length_drop, hl]; omega
  have hcp1 : ∀ ty dc sc, (Builtin.copy_ #[28, 28] ty #[.slice (some ⟨g, (p + 1) * 2, none⟩) (N - p) dc, .slice (some ⟨g, p * 2, none⟩) (N + 1 - p) sc]).run Tryz.prog w.drew = .ok (goInt (Nat.min (N + 1 - p) (N - p))) (w.drew.setCells g ((p + 1) * 2) (xs.drop (p * 2))) := fun ty dc sc =>
    run_copy2 w.drew _ _ ty 57 g ((p + 1) * 2) (N - p) dc ⟨g, p * 2, none⟩ (N + 1 - p) sc (xs.drop (p * 2)) Tryz.underlying28 hsz (by rw [hdl]; simp only [Nat.min_def]; split <;> omega)
      (fun j v hj => by
        rw [Addr.add_lit]
        have hj2 : j < (xs.drop (p * 2)).length := by
          rcases Nat.lt_or_ge j (xs.drop (p * 2)).length with h | h
          · exact h
          · rw [List.getElem?_eq_none h] at hj; cases hj
        rw [List.getElem?_drop] at hj
        exact (hcs (p * 2 + j) (by omega)).trans hj)
      (fun j hj => hsp _ (by omega)) (fun j hj => hfz _) (fun v hv => h1c v (List.mem_of_mem_drop hv))
  obtain ⟨W1, hW1⟩ : ∃ W1, W1 = w.drew.setCells g ((p + 1) * 2) (xs.drop (p * 2)) := ⟨_, rfl⟩
  have hcp2 : ∀ (W : World), (∀ x, W.cell? x = W1.cell? x) → (∀ x, W.frozen? x = W1.frozen? x) → ∀ ty dc, (Builtin.copy_ #[28, 28] ty #[.slice (some ⟨g, p * 2, none⟩) (N + 1 - p) dc, .slice (some ⟨vb, 0, none⟩) 1 1]).run Tryz.prog W = .ok (goInt (Nat.min 1 (N + 1 - p))) (W.setCells g (p * 2) [x, y]) := fun W hWc hWf ty dc =>
    run_copy2 W _ _ ty 57 g (p * 2) (N + 1 - p) dc ⟨vb, 0, none⟩ 1 1 [x, y] Tryz.underlying28 hsz (by simp only [Nat.min_def]; split <;> simp; omega)
      (fun j v hj => by
        have := hnw j v hj
        rw [Addr.add_lit] at this ⊢
        rw [hWc, hW1, World.cell?_setCells_out g _ _ _ _ (fun h _ => absurd h hne)]
        exact this)
      (fun j hj => by rw [hWc, hW1]; exact isSome_setCells g _ _ w.drew (fun t ht => hsp ((p + 1) * 2 + t) (by rw [hdl] at ht; omega)) _ (hsp (p * 2 + j) (by simp at hj; omega))) (fun j hj => by rw [hWf, hW1, World.frozen?_setCells]; exact hfz _) h1v
  rw [← hW1] at hcp1
  have hw1 : IntKind.i64.wrap ((p : Int) + 1) = (p : Int) + 1 := by rw [IntKind.wrap_i64]; omega
  have hw2 : IntKind.i64.wrap ((N : Int) + 1) = (N : Int) + 1 := by rw [IntKind.wrap_i64]; omega
  have hz2' : ¬ ((p : Int) = (N : Int)) := by omega
  have htn : ((p : Int) + 1).toNat = p + 1 := by omega
  have htn2 : ((N : Int) + 1).toNat = N + 1 := by omega
  have hb1 : (0 : Int) ≤ (p : Int) + 1 := by omega
  have hb3 : (p : Int) ≤ (N : Int) + 1 := by omega
  have hb5 : (p : Int) ≤ (N : Int) := by omega
  have hb6 : p ≤ N := by omega
  have hb2 : ¬ (d = p + 1) := by omega
  have hb4 : ¬ (d = p) := by omega
  have FIN : Hid (InsPost w base (.slice (some ⟨g, 0, none⟩) N d) N p xs [x, y] (.returned (.slice (some ⟨g, 0, none⟩) (N + 1) d)) (W1.setCells g (p * 2) [x, y])) := by
    obtain ⟨c1, k1, k2⟩ := setCells_block g (xs.drop (p * 2)) ((p + 1) * 2) w.drew cur _ _ (show w.drew.heap[g]? = _ from hG)
    obtain ⟨c2, k3, k4⟩ := setCells_block g [x, y] (p * 2) _ c1 _ _ k1
    refine ⟨g, d, rfl, own_of_cells (cur := c2) (by rw [hW1]; exact k3) hGb hd hGm (by omega) ?_ ?_, ?_, .inl rfl⟩
    · simp [hl]; omega
    · intro j hj
      rw [hW1]
      refine ins_cells (w := w.drew) hl rfl (by omega) hcs hsp j ?_
      simp [hl] at hj; omega
    · rw [hW1]
      exact grown_trans (grown_trans (drew_grown w (some g)) (setCells_grown g _ _ _) (fun k hk => .inl hk)) (setCells_grown g _ _ _) (fun k hk => .inl hk)
  have HOV := hide hov
  have HC1 := hide hcp1
  have HC2 := hide hcp2
  clear hov hcp1 hcp2 hG hGs hGb hGm hcs hsp hfz hnw h1v hdl q0 q1 q2 q3 F own h1c hW1 hl
  go_enter Tryz.func73, Tryz.ntmps73
  have hov := HOV.out
  go_wp2_with (simp only [hov])
  clear hov
  go_region_law (refine step_copy_runI rfl _ _ 28 28 rfl (.slice (some ⟨g, (p + 1) * 2, none⟩) (N - p) (d - (p + 1))) (.slice (some ⟨g, p * 2, none⟩) (N + 1 - p) (d - p)) (by simp [Act.eval, Act.put]) (by simp [Act.eval, Act.put]) (HC1.out 3 (d - (p + 1)) (d - p)) ?_)
  go_wp2_with fail
  rw [HC2.out W1 (fun _ => rfl) (fun _ => rfl) 3 (d - p)]
  simp only [Result.andThen]
  rw [Oper.upon_value]
  go_wp2
  go_ret
  exact FIN.out

end Go.Proofs.YthohkokhimdamaaGreat

/-
  The walk of slices.Insert at cells: the fourth road; all roads together.
-/
namespace Go.GrainU
open Go.RowKit Go.Proofs Go.Lib

/-- the cells behind an insertion into a new row -/
theorem ins_cells2 {w : World} {g N p : Nat} {xs vs : List Value} (hl : xs.length = N * 2) (hv : vs.length = 2) (hp : p ≤ N) (hc : ∀ j, j < p * 2 → w.cell? ⟨g, j, none⟩ = xs[j]?) (hs : ∀ j, j < (N + 1) * 2 → (w.cell? ⟨g, j, none⟩).isSome = true) :
    ∀ j, j < (N + 1) * 2 → ((w.setCells g (p * 2) vs).drew.setCells g ((p + 1) * 2) (xs.drop (p * 2))).cell? ⟨g, j, none⟩ = (xs.take (p * 2) ++ (vs ++ xs.drop (p * 2)))[j]? := by
  intro j hj
  have hdl : (xs.drop (p * 2)).length = N * 2 - p * 2 := by rw [List.length_drop, hl]
  have htl : (xs.take (p * 2)).length = p * 2 := by rw [List.length_take, hl]; omega
  rcases Nat.lt_or_ge j (p * 2) with h | h
  · rw [World.cell?_setCells_out _ _ _ _ _ (fun _ _ => .inl (by show j < _; omega))]
    show (w.setCells g (p * 2) vs).cell? _ = _
    rw [World.cell?_setCells_out _ _ _ _ _ (fun _ _ => .inl h), hc j h, List.getElem?_append_left (by omega), List.getElem?_take, if_pos h]
  · rcases Nat.lt_or_ge j (p * 2 + 2) with h' | h'
    · rw [World.cell?_setCells_out _ _ _ _ _ (fun _ _ => .inl (by show j < _; omega))]
      show (w.setCells g (p * 2) vs).cell? _ = _
      have := World.cell?_setCells_in g vs (p * 2) w (fun i hi => hs _ (by omega)) (j - p * 2) (by omega)
      rw [show p * 2 + (j - p * 2) = j by omega] at this
      rw [this, List.getElem?_append_right (by omega), htl, List.getElem?_append_left (by omega), List.getElem?_eq_getElem]
    · have := World.cell?_setCells_in g (xs.drop (p * 2)) ((p + 1) * 2) (w.setCells g (p * 2) vs).drew (fun i hi => isSome_setCells _ _ _ w (fun t ht => hs _ (by omega)) _ (hs _ (by omega))) (j - (p + 1) * 2) (by omega)
      rw [show (p + 1) * 2 + (j - (p + 1) * 2) = j by omega] at this
      rw [this, List.getElem?_append_right (by omega), htl, List.getElem?_append_right (by omega), hv, ← List.getElem?_eq_getElem]
      congr 1
      omega

end Go.GrainU
namespace Go.Proofs.YthohkokhimdamaaGreat
open Go.RowKit Go.GrainU Go.Lib

set_option maxRecDepth 100000 in
set_option maxHeartbeats 4000000 in
theorem ins_grow (xs : List Value) (base N d p vb g : Nat) (x y : Value) (w : World) (own : w.ownsRow base 57 2 (.slice (some ⟨g, 0, none⟩) N d) N xs) (hp : p < N) (hN : N ≤ 8) (hd : d < N + 1) (hbase : base ≤ w.heap.size) (F : w.heap[vb]? = some (.cells #[x, y] 57 (0, 0))) (hx : x.oneCell' = true) (hy : y.oneCell' = true) (h1c : ∀ u ∈ xs, u.oneCell' = true) :
    Calls Tryz.prog 73 #[.slice (some ⟨g, 0, none⟩) N d, .int .i64 p, .slice (some ⟨vb, 0, none⟩) 1 1] w (InsPost w base (.slice (some ⟨g, 0, none⟩) N d) N p xs [x, y]) := by
  obtain ⟨i0, hi, hz0, hz1, hz2⟩ := info_parts Tryz.infoCell
  have hl : xs.length = N * 2 := own.1
  have hdN : N ≤ d := (own_cap own).1
  have hcs : ∀ j, j < xs.length → w.cell? ⟨g, j, none⟩ = xs[j]? := fun j hj => own.cellAt j (by omega)
  have hgl : g < w.heap.size := (own_block own).2
  have hvl : vb < w.heap.size := lt_of_block F
  obtain ⟨q0, q1, q2, q3⟩ := two_cells F
  have hnw : ∀ j v, [x, y][j]? = some v → w.cell? ⟨vb, 0 + j, none⟩ = some v := by
    intro j u hu
    match j, hu with
    | 0, hu => simpa using q0.trans (by simpa using hu)
    | 1, hu => simpa using q1.trans (by simpa using hu)
  have h1v : ∀ u ∈ [x, y], u.oneCell' = true := by
    intro u hu
    simp at hu
    rcases hu with e | e
    · rw [e]; exact hx
    · rw [e]; exact hy
  have hsz : (Tryz.prog.info? 57).map (·.size) = some 2 := by rw [hi]; simp [hz1]
  have hkk : (N : Int) + 1 - (p : Int) = ((N + 1 - p : Nat) : Int) := by omega
  have hik : p + (N + 1 - p) = N + 1 := by omega
  have hold : (Builtin.firstCells i0.size p (.slice (some ⟨g, 0, none⟩) p d)).run Tryz.prog w.drew = .ok (xs.take (p * 2)).toArray w.drew := by
    rw [hz1]
    exact run_firstCells_some w.drew 2 p ⟨g, 0, none⟩ p d (xs.take (p * 2)) (by rw [List.length_take]; omega) (fun j v hj => by
      rw [Addr.add_lit, Nat.zero_add]
      rw [List.getElem?_take] at hj
      split at hj
      · have hj2 : j < xs.length := by omega
        exact (hcs j hj2).trans hj
      · cases hj)
  obtain ⟨G, hG⟩ : ∃ G, G = grownCap w (N + 1) d 57 := ⟨_, rfl⟩
  obtain ⟨ROW, hROW⟩ : ∃ ROW : Array Value, ROW = (xs.take (p * 2)).toArray ++ Builtin.zeroCells (Value.agg #[.slice none 0 0, .int .i64 0]).cells (N + 1 - p) ++ Builtin.zeroCells (Value.agg #[.slice none 0 0, .int .i64 0]).cells (G - (N + 1)) := ⟨_, rfl⟩
  have hrz : ∀ ty, (Builtin.append_ #[28, 3] ty #[.slice (some ⟨g, 0, none⟩) p d, .int .i64 ((N : Int) + 1 - (p : Int))]).run Tryz.prog w =
      .ok (.slice (some ⟨w.heap.size, 0, none⟩) (N + 1) G) (w.drew.alloc (.cells ROW 57)) := fun ty => by
    have h := Lib.run_append_grow_zeros w 28 3 ty 57 i0 _ .i64 .i64 Tryz.underlying28 Tryz.underlying3 hi hz0 (some ⟨g, 0, none⟩) p d (xs.take (p * 2)) hold (N + 1 - p) (by omega) (by omega) (by omega) (by omega) (by rw [hz2]; omega) (by rw [hz2, hik]; exact growslice_fits hd (by omega))
    rw [hik] at h
    rw [hkk, hROW, hG]
    exact h
  have hGn : N + 1 ≤ G := by rw [hG]; exact grownCap_ge w _ _ _
  have hGm : G ≤ maxLen := by rw [hG]; exact grownCap_le_maxLen w (N + 1) d 57 (by unfold maxLen; omega)
  have hRs : ROW.size = G * 2 := by
    rw [hROW]
    simp [Builtin.zeroCells, Value.cells, hl]
    omega
  have hR0 : ∀ j, j < p * 2 → ROW[j]? = xs[j]? := fun j hj => by
    rw [hROW, Array.getElem?_append_left (by simp [Builtin.zeroCells, Value.cells, hl]; omega), Array.getElem?_append_left (by simp [hl]; omega)]
    simp [hj]
  obtain ⟨W1, hW1⟩ : ∃ W1, W1 = w.drew.alloc (.cells ROW 57) := ⟨_, rfl⟩
  have hN1 : ∀ j, j < (N + 1) * 2 → (W1.cell? ⟨w.heap.size, j, none⟩).isSome = true := fun j hj => by
    rw [hW1, World.cell?_alloc_at (w := w.drew) ROW _ w.heap.size j rfl, Array.getElem?_eq_getElem (by omega)]; rfl
  have hN0 : ∀ j, j < p * 2 → W1.cell? ⟨w.heap.size, j, none⟩ = xs[j]? := fun j hj => by
    rw [hW1, World.cell?_alloc_at (w := w.drew) ROW _ w.heap.size j rfl]; exact hR0 j hj
  have hNf : ∀ j, W1.frozen? ⟨w.heap.size, j, none⟩ = false := fun j => by rw [hW1]; exact World.frozen?_alloc_at (w := w.drew) ROW _ w.heap.size j rfl
  have hOg : ∀ j, W1.cell? ⟨g, j, none⟩ = w.cell? ⟨g, j, none⟩ := fun j => by rw [hW1, World.cell?_alloc_past (w := w.drew) _ g j hgl]; rfl
  have hOv : ∀ j, W1.cell? ⟨vb, j, none⟩ = w.cell? ⟨vb, j, none⟩ := fun j => by rw [hW1, World.cell?_alloc_past (w := w.drew) _ vb j hvl]; rfl
  have hdl : (xs.drop (p * 2)).length = (N - p) * 2 := by rw [List.length_drop, hl]; omega
  have hcpA : ∀ (W : World), (∀ x, W.cell? x = W1.cell? x) → (∀ x, W.frozen? x = W1.frozen? x) → ∀ ty dc, (Builtin.copy_ #[28, 28] ty #[.slice (some ⟨w.heap.size, p * 2, none⟩) (N + 1 - p) dc, .slice (some ⟨vb, 0, none⟩) 1 1]).run Tryz.prog W = .ok (goInt (Nat.min 1 (N + 1 - p))) (W.setCells w.heap.size (p * 2) [x, y]) := fun W hWc hWf ty dc =>
    run_copy2 W _ _ ty 57 w.heap.size (p * 2) (N + 1 - p) dc ⟨vb, 0, none⟩ 1 1 [x, y] Tryz.underlying28 hsz (by simp only [Nat.min_def]; split <;> simp; omega)
      (fun j v hj => by rw [Addr.add_lit, hWc, hOv]; exact hnw j v hj)
      (fun j hj => by rw [hWc]; exact hN1 _ (by simp at hj; omega)) (fun j hj => by rw [hWf]; exact hNf _) h1v
  have hbN : g ≠ w.heap.size := by omega
  have hcpB : ∀ (W : World), (∀ z, W.frozen? z = (W1.setCells w.heap.size (p * 2) [x, y]).frozen? z) → (∀ z, W.cell? z = (W1.setCells w.heap.size (p * 2) [x, y]).cell? z) → ∀ ty dc sc, (Builtin.copy_ #[28, 28] ty #[.slice (some ⟨w.heap.size, (p + 1) * 2, none⟩) (N - p) dc, .slice (some ⟨g, p * 2, none⟩) (N - p) sc]).run Tryz.prog W = .ok (goInt (Nat.min (N - p) (N - p))) (W.setCells w.heap.size ((p + 1) * 2) (xs.drop (p * 2))) := fun W hWf hWc ty dc sc =>
    run_copy2 W _ _ ty 57 w.heap.size ((p + 1) * 2) (N - p) dc ⟨g, p * 2, none⟩ (N - p) sc (xs.drop (p * 2)) Tryz.underlying28 hsz (by rw [hdl]; simp)
      (fun j v hj => by
        have hj2 : j < (xs.drop (p * 2)).length := by
          rcases Nat.lt_or_ge j (xs.drop (p * 2)).length with h | h
          · exact h
          · rw [List.getElem?_eq_none h] at hj; cases hj
        rw [Addr.add_lit, hWc, World.cell?_setCells_out _ _ _ _ _ (fun h _ => absurd h hbN), hOg]
        rw [List.getElem?_drop] at hj
        exact (hcs (p * 2 + j) (by omega)).trans hj)
      (fun j hj => by rw [hWc]; exact isSome_setCells _ _ _ W1 (fun t ht => hN1 (p * 2 + t) (by simp at ht; omega)) _ (hN1 ((p + 1) * 2 + j) (by omega)))
      (fun j hj => by rw [hWf, World.frozen?_setCells]; exact hNf _) (fun v hv => h1c v (List.mem_of_mem_drop hv))
  have FIN : Hid (InsPost w base (.slice (some ⟨g, 0, none⟩) N d) N p xs [x, y] (.returned (.slice (some ⟨w.heap.size, 0, none⟩) (N + 1) G)) ((W1.setCells w.heap.size (p * 2) [x, y]).drew.setCells w.heap.size ((p + 1) * 2) (xs.drop (p * 2)))) := by
    have k0 : W1.heap[w.heap.size]? = some (.cells ROW 57 (0, 0)) := by rw [hW1]; exact heap_alloc_new w.drew _
    obtain ⟨c1, k1, k2⟩ := setCells_block w.heap.size [x, y] (p * 2) W1 ROW _ _ k0
    obtain ⟨c2, k3, k4⟩ := setCells_block w.heap.size (xs.drop (p * 2)) ((p + 1) * 2) (W1.setCells w.heap.size (p * 2) [x, y]).drew c1 _ _ k1
    refine ⟨w.heap.size, G, rfl, own_of_cells (cur := c2) k3 hbase hGn hGm (by omega) ?_ ?_, ?_, .inr (Nat.le_refl _)⟩
    · simp [hl]; omega
    · intro j hj
      refine ins_cells2 (w := W1) hl rfl (by omega) hN0 hN1 j ?_
      simp [hl] at hj; omega
    · have g1 : w.grownBy W1 (some g) := by rw [hW1]; exact grown_trans (drew_grown w (some g)) (World.grownBy_alloc w.drew _ none) (fun k hk => by cases hk)
      have g2 := grown_trans g1 (setCells_grown w.heap.size [x, y] (p * 2) W1) (fun k hk => .inr (by injection hk with hk; omega))
      have g3 := grown_trans g2 (drew_grown _ none) (fun k hk => by cases hk)
      exact grown_trans g3 (setCells_grown w.heap.size (xs.drop (p * 2)) ((p + 1) * 2) _) (fun k hk => .inr (by injection hk with hk; omega))
  have HRZ := hide hrz
  have HCA := hide hcpA
  have HCB := hide hcpB
  have hw1 : IntKind.i64.wrap ((p : Int) + 1) = (p : Int) + 1 := by rw [IntKind.wrap_i64]; omega
  have hw2 : IntKind.i64.wrap ((N : Int) + 1) = (N : Int) + 1 := by rw [IntKind.wrap_i64]; omega
  have hw3 : IntKind.i64.wrap ((N : Int) + 1 - (p : Int)) = (N : Int) + 1 - (p : Int) := by rw [IntKind.wrap_i64]; omega
  have hz2' : ¬ ((p : Int) = (N : Int)) := by omega
  have hz3 : (d : Int) < (N : Int) + 1 := by omega
  have htn : ((p : Int) + 1).toNat = p + 1 := by omega
  have hb1 : (0 : Int) ≤ (p : Int) + 1 := by omega
  have hb3 : (p : Int) ≤ (N : Int) + 1 := by omega
  have hb5 : (p : Int) ≤ (N : Int) := by omega
  have hb6 : p ≤ N := by omega
  have hb7 : p ≤ d := by omega
  have hGi : ¬ (G = p) := by omega
  have hGim : ¬ (G = p + 1) := by omega
  have hci : ¬ (d = p) := by omega
  have HG := hide (And.intro hGn hGm)
  have hb8 : p ≤ N + 1 := by omega
  clear hrz hcpA hcpB hGn hGm hRs hR0 hN0 hN1 hNf hOg hOv hdl hkk hik hold hROW hG hcs hgl hvl q0 q1 q2 q3 F own h1c h1v hnw hl
  have HRW : Hid (∀ ty, (Builtin.append_ #[28, 3] ty #[.slice (some ⟨g, 0, none⟩) p d, .int .i64 ((N : Int) + 1 - (p : Int))]).run Tryz.prog w = .ok (.slice (some ⟨w.heap.size, 0, none⟩) (N + 1) G) W1) := fun ty => by rw [hW1]; exact HRZ.out ty
  clear HRZ hW1
  go_enter Tryz.func73, Tryz.ntmps73
  go_wp2_with (at_builtin; refine Lib.wpList_append_run _ rfl _ _ _ _ rfl _ _ rfl rfl _ _ (HRW.out _) ?_)
  rw [HCA.out W1 (fun _ => rfl) (fun _ => rfl) 3 (G - p)]
  simp only [Result.andThen]
  rw [Oper.upon_value]
  go_wp2_with fail
  have hn1 := HG.out.1
  go_region_law (refine step_copy_runI rfl _ _ 28 28 rfl (.slice (some ⟨w.heap.size, (p + 1) * 2, none⟩) (N - p) (G - (p + 1))) (.slice (some ⟨g, p * 2, none⟩) (N - p) (d - p)) (by simp [Act.eval, Act.put]) (by simp [Act.eval, Act.put]) (HCB.out (W1.setCells w.heap.size (p * 2) [x, y]).drew (fun _ => rfl) (fun _ => rfl) 3 (G - (p + 1)) (d - p)) ?_)
  go_wp2
  go_ret
  exact FIN.out

/-- Insert, whatever the room -/
theorem ins_any (l : List CT) (c : CT) (base N d p vb cn : Nat) (co : Option Addr) (w : World) (own : OwnC w base 57 (.slice co N d) N l) (hp : p ≤ N) (hN : N ≤ 8) (hbase : base ≤ w.heap.size) (F : w.heap[vb]? = some (.cells #[.slice c.sa cn c.sc, .int .i64 c.v] 57 (0, 0))) (hcn : cn = c.ser.length)
    (hne : (Value.slice co N d).ownBlock ≠ some vb) (hc : SegN w (Value.slice co N d).ownBlock c.sa (lcells c.ser)) :
    Calls Tryz.prog 73 #[.slice co N d, .int .i64 p, .slice (some ⟨vb, 0, none⟩) 1 1] w fun e w' => ∃ co' d', e = .returned (.slice co' (N + 1) d') ∧ OwnC w' base 57 (.slice co' (N + 1) d') (N + 1) (l.take p ++ c :: l.drop p) ∧ w.grownBy w' (Value.slice co N d).ownBlock := by
  have key : Calls Tryz.prog 73 #[.slice co N d, .int .i64 p, .slice (some ⟨vb, 0, none⟩) 1 1] w (InsPost w base (.slice co N d) N p (ccells l) [.slice c.sa cn c.sc, .int .i64 c.v]) := by
    by_cases he : p = N
    · rw [he]; exact ins_end (ccells l) base N d vb co _ _ w own.own hN hbase F rfl rfl
    · have hg : ∃ g, co = some ⟨g, 0, none⟩ := by
        rcases own.own.2 with ⟨_, h⟩ | ⟨g, cp, cur, h, _⟩
        · omega
        · injection h with h1 _ _
          exact ⟨g, h1⟩
      obtain ⟨g, rfl⟩ := hg
      by_cases hr : N + 1 ≤ d
      · exact ins_room (ccells l) base N d p vb g _ _ w own.own (by omega) hN hr F (fun e => hne (by simp [Value.ownBlock, e])) rfl rfl (ccells_one l)
      · exact ins_grow (ccells l) base N d p vb g _ _ w own.own (by omega) hN (by omega) hbase F rfl rfl (ccells_one l)
  refine key.mono fun e w' h => ?_
  obtain ⟨g', d', rfl, ow, gr, hat⟩ := h
  have hr : ∀ k, (Value.slice (some ⟨g', 0, none⟩) (N + 1) d').ownBlock = some k → (Value.slice co N d).ownBlock = some k ∨ w.heap.size ≤ k := fun k hk => by
    simp [Value.ownBlock] at hk
    subst hk
    exact hat
  refine ⟨some ⟨g', 0, none⟩, d', rfl, ⟨?_, fun x hx => ?_⟩, gr⟩
  · rw [ccells_append, ccells_take]
    show w'.ownsRow base 57 2 _ _ (_ ++ (.slice c.sa c.ser.length c.sc :: .int .i64 c.v :: ccells (l.drop p)))
    rw [ccells_drop, ← hcn]
    exact ow
  · rcases List.mem_append.1 hx with e | e
    · exact (own.ser x (List.mem_of_mem_take e)).grown gr hr
    · rcases List.mem_cons.1 e with e | e
      · rw [e]; exact hc.grown gr hr
      · exact (own.ser x (List.mem_of_mem_drop e)).grown gr hr

end Go.Proofs.YthohkokhimdamaaGreat
