/-
  The walk of slices.Insert at cells: three roads.
-/
import Derived.Test.YthohkokhimdamaaMeI
namespace Go.Proofs.Ythohkokhimdamaa
open Go.RowKit Go.GrainU Go.Lib

/-- what Insert makes of a row -/
def InsPost (w : World) (base : Nat) (v : Value) (N p : Nat) (xs vs : List Value) (e : Ending) (w' : World) : Prop :=
  ∃ g d, e = .returned (.slice (some ⟨g, 0, none⟩) (N + 1) d) ∧ w'.ownsRow base 44 2 (.slice (some ⟨g, 0, none⟩) (N + 1) d) (N + 1) (xs.take (p * 2) ++ (vs ++ xs.drop (p * 2))) ∧ w.grownBy w' v.ownBlock ∧ (v.ownBlock = some g ∨ w.heap.size ≤ g)

set_option maxRecDepth 100000 in
set_option maxHeartbeats 4000000 in
theorem ins_end (xs : List Value) (base N d vb : Nat) (co : Option Addr) (x y : Value) (w : World) (own : w.ownsRow base 44 2 (.slice co N d) N xs) (hN : N ≤ 8) (hbase : base ≤ w.heap.size) (F : w.heap[vb]? = some (.cells #[x, y] 44 (0, 0))) (hx : x.oneCell' = true) (hy : y.oneCell' = true) :
    Calls Try.prog 50 #[.slice co N d, .int .i64 N, .slice (some ⟨vb, 0, none⟩) 1 1] w (InsPost w base (.slice co N d) N N xs [x, y]) := by
  obtain ⟨i0, hi, hz0, hz1, hz2⟩ := info_parts Try.infoCell
  have hl : xs.length = N * 2 := own.1
  have HT : Hid (xs.take (N * 2) ++ ([x, y] ++ xs.drop (N * 2)) = xs ++ [x, y]) := by
    show _ = _
    rw [List.take_of_length_le (by omega), List.drop_eq_nil_of_le (by omega)]; simp
  have hnw : ∀ j u, [x, y][j]? = some u → w.cell? ((⟨vb, 0, none⟩ : Addr).add j) = some u := by
    obtain ⟨c0, c1, _, _⟩ := two_cells F
    intro j u hu
    rw [show (⟨vb, 0, none⟩ : Addr).add j = ⟨vb, 0 + j, none⟩ from by unfold Addr.add; split <;> simp_all]
    match j, hu with
    | 0, hu => simpa using c0.trans (by simpa using hu)
    | 1, hu => simpa using c1.trans (by simpa using hu)
  have h1 : ∀ u ∈ [x, y], u.oneCell' = true := by
    intro u hu
    simp at hu
    rcases hu with e | e
    · rw [e]; exact hx
    · rw [e]; exact hy
  have HNW := hide hnw
  have H1 := hide h1
  clear hnw h1 hx hy hl
  have hco : ∃ a, co = a := ⟨_, rfl⟩
  cases co with
  | none =>
    have hN0 : N = 0 := by
      rcases own.2 with ⟨_, h⟩ | ⟨g, c, cur, h, _⟩
      · exact h
      · cases h
    subst hN0
    have hd0 : d = 0 := by
      rcases own.2 with ⟨h, _⟩ | ⟨g, c, cur, h, _⟩
      · simpa using h
      · cases h
    subst hd0
    go_enter Try.func50, Try.ntmps50
    go_wp2_with (at_builtin; refine wpList_append_lies _ rfl _ _ 29 rfl base 44 i0 (.agg #[.slice none 0 0, .int .i64 0]) 2 32 Try.underlying29 hi hz0 hz1 hz2 rfl (by decide) _ _ _ rfl own ⟨vb, 0, none⟩ 1 1 [x, y] rfl rfl HNW.out H1.out (by decide) (by unfold maxLen; omega) (by omega) hbase w.heap.size rfl ?_)
    intro g cap w' ownZ grZ hatZ hltZ
    go_wp2
    go_ret
    exact ⟨g, cap, rfl, by rw [HT.out]; exact ownZ, grZ, by rcases hatZ with h | h; exact .inl h; right; omega⟩
  | some ad =>
    have had : ∃ g, ad = ⟨g, 0, none⟩ := by
      rcases own.2 with ⟨h, _⟩ | ⟨g, c, cur, h, _⟩
      · cases h
      · injection h with h1 h2 h3
        injection h1 with h1
        exact ⟨g, h1⟩
    obtain ⟨g0, rfl⟩ := had
    have hcap := (own_cap own).1
    go_enter Try.func50, Try.ntmps50
    go_wp2_with (at_builtin; refine wpList_append_lies _ rfl _ _ 29 rfl base 44 i0 (.agg #[.slice none 0 0, .int .i64 0]) 2 32 Try.underlying29 hi hz0 hz1 hz2 rfl (by decide) _ _ _ rfl own ⟨vb, 0, none⟩ 1 1 [x, y] rfl rfl HNW.out H1.out (by decide) (by unfold maxLen; omega) (by omega) hbase w.heap.size rfl ?_)
    all_goals
      intro g cap w' ownZ grZ hatZ hltZ
      go_wp2
      go_ret
      exact ⟨g, cap, rfl, by rw [HT.out]; exact ownZ, grZ, by rcases hatZ with h | h; exact .inl h; right; omega⟩

set_option maxRecDepth 100000 in
set_option maxHeartbeats 4000000 in
theorem ins_room (xs : List Value) (base N d p vb g : Nat) (x y : Value) (w : World) (own : w.ownsRow base 44 2 (.slice (some ⟨g, 0, none⟩) N d) N xs) (hp : p < N) (hN : N ≤ 8) (hd : N + 1 ≤ d) (F : w.heap[vb]? = some (.cells #[x, y] 44 (0, 0))) (hne : vb ≠ g) (hx : x.oneCell' = true) (hy : y.oneCell' = true) (h1c : ∀ u ∈ xs, u.oneCell' = true) :
    Calls Try.prog 50 #[.slice (some ⟨g, 0, none⟩) N d, .int .i64 p, .slice (some ⟨vb, 0, none⟩) 1 1] w (InsPost w base (.slice (some ⟨g, 0, none⟩) N d) N p xs [x, y]) := by
  obtain ⟨i0, hi, hz0, hz1, hz2⟩ := info_parts Try.infoCell
  have hl : xs.length = N * 2 := own.1
  obtain ⟨cur, hcur⟩ : ∃ cur, w.heap[g]? = some (.cells cur 44 (0, 0)) ∧ cur.size = d * 2 ∧ base ≤ g ∧ d ≤ maxLen := by
    rcases own.2 with ⟨h, _⟩ | ⟨g', c, cur, h, hb, hh, h2, h3, h4, _⟩
    · cases h
    · injection h with h1 _ h5
      injection h1 with h1
      injection h1 with h1 _ _
      subst h1
      subst h5
      exact ⟨cur, hh, h4, hb, h3⟩
  obtain ⟨hG, hGs, hGb, hGm⟩ := hcur
  have hcs : ∀ j, j < xs.length → w.cell? ⟨g, j, none⟩ = xs[j]? := fun j hj => own.cellAt j (by omega)
  have hsp : ∀ j, j < (N + 1) * 2 → (w.cell? ⟨g, j, none⟩).isSome = true := fun j hj => by
    simp [World.cell?, hG]
    omega
  have hfz : ∀ j, w.frozen? ⟨g, j, none⟩ = false := fun j => by simp [World.frozen?, hG]
  obtain ⟨q0, q1, q2, q3⟩ := two_cells F
  have hnw : ∀ j v, [x, y][j]? = some v → w.cell? ((⟨vb, 0, none⟩ : Addr).add j) = some v := by
    intro j u hu
    rw [show (⟨vb, 0, none⟩ : Addr).add j = ⟨vb, 0 + j, none⟩ from by unfold Addr.add; split <;> simp_all]
    match j, hu with
    | 0, hu => simpa using q0.trans (by simpa using hu)
    | 1, hu => simpa using q1.trans (by simpa using hu)
  have h1v : ∀ u ∈ [x, y], u.oneCell' = true := by
    intro u hu
    simp at hu
    rcases hu with e | e
    · rw [e]; exact hx
    · rw [e]; exact hy
  have hsz : (Try.prog.info? 44).map (·.size) = some 2 := by rw [hi]; simp [hz1]
  have hov : ∀ lb cb, (callFunc 66 #[.slice (some ⟨vb, 0, none⟩) 1 1, .slice (some ⟨g, (p + 1) * 2, none⟩) lb cb]).run Try.prog w = .ok (.value (.bool false)) w := fun lb cb => by
    rw [run_callFunc_extern Try.func66 (by kernel_rfl) (by kernel_rfl) (by kernel_rfl) (e := Extern.SlicesOverlaps.overlaps #[29, 29] #[4]) (by kernel_rfl),
      Lib.run_overlaps_apart w 29 4 44 Try.underlying29 2 (fun w => by simp [Go.sizeOf, typeInfo, hi, hz1]) ⟨vb, 0, none⟩ ⟨g, (p + 1) * 2, none⟩ 1 1 lb cb hne 44 44 2 (d * 2) (by simp [World.shape?, F]) (by simp [World.shape?, hG, hGs]) (by omega) q2 (by simp [World.frozen?, F])]
    rfl
  have hdl : (xs.drop (p * 2)).length = (N - p) * 2 := by rw [List.length_drop, hl]; omega
  have hcp1 : ∀ ty dc sc, (Builtin.copy_ #[29, 29] ty #[.slice (some ⟨g, (p + 1) * 2, none⟩) (N - p) dc, .slice (some ⟨g, p * 2, none⟩) (N + 1 - p) sc]).run Try.prog w.drew = .ok (goInt (Nat.min (N + 1 - p) (N - p))) (w.drew.setCells g ((p + 1) * 2) (xs.drop (p * 2))) := fun ty dc sc =>
    run_copy2 w.drew _ _ ty 44 g ((p + 1) * 2) (N - p) dc ⟨g, p * 2, none⟩ (N + 1 - p) sc (xs.drop (p * 2)) Try.underlying29 hsz (by rw [hdl]; simp only [Nat.min_def]; split <;> omega)
      (fun j v hj => by
        rw [Addr.add_lit]
        have hj2 : j < (xs.drop (p * 2)).length := by
          rcases Nat.lt_or_ge j (xs.drop (p * 2)).length with h | h
          · exact h
          · rw [List.getElem?_eq_none h] at hj; cases hj
        rw [List.getElem?_drop] at hj
        exact (hcs (p * 2 + j) (by omega)).trans hj)
      (fun j hj => hsp _ (by omega)) (fun j hj => hfz _) (fun v hv => h1c v (List.mem_of_mem_drop hv))
  obtain ⟨W1, hW1⟩ : ∃ W1, W1 = w.drew.setCells g ((p + 1) * 2) (xs.drop (p * 2)) := ⟨_, rfl⟩
  have hcp2 : ∀ (W : World), (∀ x, W.cell? x = W1.cell? x) → (∀ x, W.frozen? x = W1.frozen? x) → ∀ ty dc, (Builtin.copy_ #[29, 29] ty #[.slice (some ⟨g, p * 2, none⟩) (N + 1 - p) dc, .slice (some ⟨vb, 0, none⟩) 1 1]).run Try.prog W = .ok (goInt (Nat.min 1 (N + 1 - p))) (W.setCells g (p * 2) [x, y]) := fun W hWc hWf ty dc =>
    run_copy2 W _ _ ty 44 g (p * 2) (N + 1 - p) dc ⟨vb, 0, none⟩ 1 1 [x, y] Try.underlying29 hsz (by simp only [Nat.min_def]; split <;> simp; omega)
      (fun j v hj => by
        have := hnw j v hj
        rw [Addr.add_lit] at this ⊢
        rw [hWc, hW1, World.cell?_setCells_out g _ _ _ _ (fun h _ => absurd h hne)]
        exact this)
      (fun j hj => by rw [hWc, hW1]; exact isSome_setCells g _ _ w.drew (fun t ht => hsp ((p + 1) * 2 + t) (by rw [hdl] at ht; omega)) _ (hsp (p * 2 + j) (by simp at hj; omega))) (fun j hj => by rw [hWf, hW1, World.frozen?_setCells]; exact hfz _) h1v
  rw [← hW1] at hcp1
  have hw1 : IntKind.i64.wrap ((p : Int) + 1) = (p : Int) + 1 := by rw [IntKind.wrap_i64]; omega
  have hw2 : IntKind.i64.wrap ((N : Int) + 1) = (N : Int) + 1 := by rw [IntKind.wrap_i64]; omega
  have hz2' : ¬ ((p : Int) = (N : Int)) := by omega
  have htn : ((p : Int) + 1).toNat = p + 1 := by omega
  have htn2 : ((N : Int) + 1).toNat = N + 1 := by omega
  have hb1 : (0 : Int) ≤ (p : Int) + 1 := by omega
  have hb3 : (p : Int) ≤ (N : Int) + 1 := by omega
  have hb5 : (p : Int) ≤ (N : Int) := by omega
  have hb6 : p ≤ N := by omega
  have hb2 : ¬ (d = p + 1) := by omega
  have hb4 : ¬ (d = p) := by omega
  have FIN : Hid (InsPost w base (.slice (some ⟨g, 0, none⟩) N d) N p xs [x, y] (.returned (.slice (some ⟨g, 0, none⟩) (N + 1) d)) (W1.setCells g (p * 2) [x, y])) := by
    obtain ⟨c1, k1, k2⟩ := setCells_block g (xs.drop (p * 2)) ((p + 1) * 2) w.drew cur _ _ (show w.drew.heap[g]? = _ from hG)
    obtain ⟨c2, k3, k4⟩ := setCells_block g [x, y] (p * 2) _ c1 _ _ k1
    refine ⟨g, d, rfl, own_of_cells (cur := c2) (by rw [hW1]; exact k3) hGb hd hGm (by omega) ?_ ?_, ?_, .inl rfl⟩
    · simp [hl]; omega
    · intro j hj
      rw [hW1]
      refine ins_cells (w := w.drew) hl rfl (by omega) hcs hsp j ?_
      simp [hl] at hj; omega
    · rw [hW1]
      exact grown_trans (grown_trans (drew_grown w (some g)) (setCells_grown g _ _ _) (fun k hk => .inl hk)) (setCells_grown g _ _ _) (fun k hk => .inl hk)
  have HOV := hide hov
  have HC1 := hide hcp1
  have HC2 := hide hcp2
  clear hov hcp1 hcp2 hG hGs hGb hGm hcs hsp hfz hnw h1v hdl q0 q1 q2 q3 F own h1c hW1 hl
  go_enter Try.func50, Try.ntmps50
  have hov := HOV.out
  go_wp2_with (simp only [hov])
  clear hov
  go_region_law (refine step_copy_runI rfl _ _ 29 29 rfl (.slice (some ⟨g, (p + 1) * 2, none⟩) (N - p) (d - (p + 1))) (.slice (some ⟨g, p * 2, none⟩) (N + 1 - p) (d - p)) (by simp [Act.eval, Act.put]) (by simp [Act.eval, Act.put]) (HC1.out 3 (d - (p + 1)) (d - p)) ?_)
  go_wp2_with fail
  rw [HC2.out W1 (fun _ => rfl) (fun _ => rfl) 3 (d - p)]
  simp only [Result.andThen]
  rw [Oper.upon_value]
  go_wp2
  go_ret
  exact FIN.out

end Go.Proofs.Ythohkokhimdamaa
