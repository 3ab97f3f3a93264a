/-
  slices.Insert at cells.
-/
import Derived.Test.YthohkokhimdamaaMeG
import Derived.Shelf.Spec.SlicesInsert
import Derived.Lib.AppendZerosOnto
import Derived.Laws.NewBlocks
import Derived.Deep.RegionLaw
namespace Go.GrainU
open Go.RowKit Go.Proofs

/-- copy, of elements of two cells -/
theorem run_copy2 {P : Program} (w : World) (dT sT ty elem : TypeId) (b o dLen dCap : Nat) (a : Addr) (sLen sCap : Nat) (cs : List Value)
    (hu : P.underlying dT = some (.slice elem)) (hs : (P.info? elem).map (·.size) = some 2) (hn : cs.length = Nat.min sLen dLen * 2)
    (hsrc : ∀ j v, cs[j]? = some v → w.cell? (a.add j) = some v) (hc : ∀ j, j < cs.length → (w.cell? ⟨b, o + j, none⟩).isSome = true) (hf : ∀ j, j < cs.length → w.frozen? ⟨b, o + j, none⟩ = false) (h1 : ∀ v ∈ cs, v.oneCell' = true) :
    (Builtin.copy_ #[dT, sT] ty #[.slice (some ⟨b, o, none⟩) dLen dCap, .slice (some a) sLen sCap]).run P w = .ok (goInt (Nat.min sLen dLen)) (w.setCells b o cs) := by
  have hl := run_loadCells_list (P := P) w a cs hsrc
  have hst := run_storeCells_cells (P := P) b o cs 0 w (by simpa using hc) (by simpa using hf) h1
  cases hq : P.info? elem with
  | none => simp [hq] at hs
  | some i =>
    have hi : i.size = 2 := by simpa [hq] using hs
    simp [Builtin.copy_, run_underlying hu, Builtin.lenOf, Builtin.firstCells, sizeOf, typeInfo, hq, hi, ← hn, hl, hst]

/-- cells written one by one: the block stays, and all others do -/
theorem setCells_block (b : Nat) : ∀ (vs : List Value) (o : Nat) (w : World) (cur : Array Value) (e : TypeId) (fr : Nat × Nat), w.heap[b]? = some (.cells cur e fr) → ∃ cur', (w.setCells b o vs).heap[b]? = some (.cells cur' e fr) ∧ cur'.size = cur.size
  | [], _, _, cur, _, _, h => ⟨cur, h, rfl⟩
  | v :: r, o, w, cur, e, fr, h => by
    have h1 : ∃ c1, (w.setCell ⟨b, o, none⟩ v).heap[b]? = some (.cells c1 e fr) ∧ c1.size = cur.size := by
      simp [World.setCell, Array.getElem?_modify, h]
    obtain ⟨c1, h2, h3⟩ := h1
    obtain ⟨c2, h4, h5⟩ := setCells_block b r (o + 1) _ c1 e fr h2
    exact ⟨c2, h4, h5.trans h3⟩

theorem setCells_far (b : Nat) : ∀ (vs : List Value) (o : Nat) (w : World) (k : Nat), k ≠ b → (w.setCells b o vs).heap[k]? = w.heap[k]?
  | [], _, _, _, _ => rfl
  | v :: r, o, w, k, h => by rw [World.setCells, setCells_far b r (o + 1) _ k h, setCell_far h]

theorem setCells_grown (b : Nat) : ∀ (vs : List Value) (o : Nat) (w : World), w.grownBy (w.setCells b o vs) (some b)
  | [], _, _ => ⟨rfl, rfl, rfl, Nat.le_refl _, fun _ _ _ => rfl⟩
  | v :: r, o, w => by
    have h1 : w.grownBy (w.setCell ⟨b, o, none⟩ v) (some b) := ⟨rfl, rfl, rfl, by simp [World.setCell], fun k _ hne => setCell_far (fun e => hne (by rw [e]))⟩
    exact grown_trans h1 (setCells_grown b r (o + 1) _) (fun k hk => .inl hk)

theorem drew_grown (w : World) (r : Option Nat) : w.grownBy w.drew r := ⟨rfl, rfl, rfl, Nat.le_refl _, fun _ _ _ => rfl⟩

/-- a row, told by its cells -/
theorem own_of_cells {w : World} {base e size g n cap : Nat} {cur : Array Value} {xs : List Value} (h : w.heap[g]? = some (.cells cur e (0, 0))) (hb : base ≤ g) (hnc : n ≤ cap) (hcm : cap ≤ maxLen) (hsz : cur.size = cap * size) (hl : xs.length = n * size)
    (hc : ∀ j, j < xs.length → w.cell? ⟨g, j, none⟩ = xs[j]?) : w.ownsRow base e size (.slice (some ⟨g, 0, none⟩) n cap) n xs := by
  refine ⟨hl, .inr ⟨g, cap, cur, rfl, hb, h, hnc, hcm, hsz, ?_⟩⟩
  apply List.ext_getElem?
  intro j
  by_cases hj : j < xs.length
  · rw [← hc j hj, List.getElem?_take, if_pos (by omega)]
    simp [World.cell?, h]
  · have hle : n * size ≤ cap * size := Nat.mul_le_mul_right _ hnc
    rw [List.getElem?_eq_none (by rw [List.length_take]; omega), List.getElem?_eq_none (by omega)]

/-- the cells behind an insertion in place -/
theorem ins_cells {w : World} {g N p : Nat} {xs vs : List Value} (hl : xs.length = N * 2) (hv : vs.length = 2) (hp : p ≤ N) (hc : ∀ j, j < xs.length → w.cell? ⟨g, j, none⟩ = xs[j]?) (hs : ∀ j, j < (N + 1) * 2 → (w.cell? ⟨g, j, none⟩).isSome = true) :
    ∀ j, j < (N + 1) * 2 → ((w.setCells g ((p + 1) * 2) (xs.drop (p * 2))).setCells g (p * 2) vs).cell? ⟨g, j, none⟩ = (xs.take (p * 2) ++ (vs ++ xs.drop (p * 2)))[j]? := by
  intro j hj
  have hdl : (xs.drop (p * 2)).length = N * 2 - p * 2 := by rw [List.length_drop, hl]
  have htl : (xs.take (p * 2)).length = p * 2 := by rw [List.length_take, hl]; omega
  rcases Nat.lt_or_ge j (p * 2) with h | h
  · rw [World.cell?_setCells_out _ _ _ _ _ (fun _ _ => .inl h), World.cell?_setCells_out _ _ _ _ _ (fun _ _ => .inl (by show j < _; omega)), hc j (by omega), List.getElem?_append_left (by omega), List.getElem?_take, if_pos h]
  · rcases Nat.lt_or_ge j (p * 2 + 2) with h' | h'
    · have := World.cell?_setCells_in g vs (p * 2) (w.setCells g ((p + 1) * 2) (xs.drop (p * 2))) (fun i hi => isSome_setCells _ _ _ _ (fun t ht => hs _ (by omega)) _ (hs _ (by omega))) (j - p * 2) (by omega)
      rw [show p * 2 + (j - p * 2) = j by omega] at this
      rw [this, List.getElem?_append_right (by omega), htl, List.getElem?_append_left (by omega), List.getElem?_eq_getElem]
    · rw [World.cell?_setCells_out _ _ _ _ _ (fun _ _ => .inr (by show _ ≤ j; omega))]
      have := World.cell?_setCells_in g (xs.drop (p * 2)) ((p + 1) * 2) w (fun i hi => hs _ (by omega)) (j - (p + 1) * 2) (by omega)
      rw [show (p + 1) * 2 + (j - (p + 1) * 2) = j by omega] at this
      rw [this, List.getElem?_append_right (by omega), htl, List.getElem?_append_right (by omega), hv, ← List.getElem?_eq_getElem]
      congr 1
      omega

theorem ccells_one (l : List CT) : ∀ u ∈ ccells l, u.oneCell' = true := by
  induction l with
  | nil => intro u hu; simp [ccells] at hu
  | cons s r ih =>
    intro u hu
    simp only [ccells, List.mem_cons] at hu
    rcases hu with e | e | e
    · subst e; rfl
    · subst e; rfl
    · exact ih u e

theorem ccells_take (l : List CT) : ∀ m, ccells (l.take m) = (ccells l).take (m * 2) := by
  induction l with
  | nil => intro m; simp [ccells]
  | cons s r ih =>
    intro m
    match m with
    | 0 => simp [ccells]
    | m + 1 => rw [show (m + 1) * 2 = m * 2 + 1 + 1 from by omega]; simp [ccells, ih]

theorem ccells_drop (l : List CT) : ∀ m, ccells (l.drop m) = (ccells l).drop (m * 2) := by
  induction l with
  | nil => intro m; simp [ccells]
  | cons s r ih =>
    intro m
    match m with
    | 0 => simp
    | m + 1 => rw [show (m + 1) * 2 = m * 2 + 1 + 1 from by omega]; simp [ccells, ih]

end Go.GrainU
