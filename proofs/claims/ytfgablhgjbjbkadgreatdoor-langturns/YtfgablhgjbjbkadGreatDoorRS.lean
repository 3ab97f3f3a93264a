/-
  Expressions that a call made: a world without what lay there ahead of it.
-/
import Derived.Test.YtfgablhgjbjbkadGreatDoorRL
namespace Go.GrainU
open Go.RowKit

/-- the world without what its first b blocks hold -/
def cut (b : Nat) (w : World) : World := { w with heap := w.heap.mapIdx fun i o => if i < b then .cells #[] 0 (0, 0) else o }

theorem cut_size (b : Nat) (w : World) : (cut b w).heap.size = w.heap.size := by simp [cut]

theorem cut_far {b k : Nat} {w : World} (h : b ≤ k) : (cut b w).heap[k]? = w.heap[k]? := by
  simp only [cut, Array.getElem?_mapIdx]
  cases w.heap[k]? with
  | none => rfl
  | some o => simp [show ¬ k < b from by omega]

theorem cut_near {b k : Nat} {w : World} (h : k < b) (hk : k < w.heap.size) : (cut b w).heap[k]? = some (.cells #[] 0 (0, 0)) := by
  simp only [cut, Array.getElem?_mapIdx, Array.getElem?_eq_getElem hk]
  simp [h]

theorem cut_cell {b k o : Nat} {w : World} (h : b ≤ k) : (cut b w).cell? ⟨k, o, none⟩ = w.cell? ⟨k, o, none⟩ := by
  simp [World.cell?, cut_far h]

theorem cut_none {b k o : Nat} {w : World} {v : Value} (h : (cut b w).cell? ⟨k, o, none⟩ = some v) : b ≤ k := by
  rcases Nat.lt_or_ge k b with e | e
  · have hl := World.block_lt_of_cell? _ _ h
    rw [cut_size] at hl
    simp [World.cell?, cut_near e hl] at h
  · exact e

theorem seg_cut {b : Nat} {w : World} {ao : Option Addr} {xs : List Value} (h : Seg w ao xs) (hne : ∀ k off, ao = some ⟨k, off, none⟩ → b ≤ k) : Seg (cut b w) ao xs := by
  rcases h with h | ⟨k, off, rfl, h⟩
  · exact .inl h
  · exact .inr ⟨k, off, rfl, fun j hj => by rw [cut_cell (hne k off rfl)]; exact h j hj⟩

theorem seg_low {b b' : Nat} {w : World} {ao : Option Addr} {xs : List Value} (hb : b' ≤ b) (h : Seg (cut b w) ao xs) : Seg (cut b' w) ao xs := by
  rcases h with h | ⟨k, off, rfl, h⟩
  · exact .inl h
  · cases xs with
    | nil => exact .inl rfl
    | cons x r =>
      have hk : b ≤ k := by
        have := h 0 (by simp)
        simp only [Nat.add_zero, List.getElem?_cons_zero] at this
        exact cut_none this
      exact .inr ⟨k, off, rfl, fun j hj => by rw [cut_cell (by omega), ← cut_cell hk]; exact h j hj⟩

theorem cut_zero (w : World) : cut 0 w = w := by
  unfold cut
  congr 1
  apply Array.ext
  · simp
  · intro i h1 h2; simp

theorem ET.In.low {b b' : Nat} {w : World} (hb : b' ≤ b) : ∀ t : ET, t.In (cut b w) → t.In (cut b' w) := by
  refine ET.ind ?_
  intro h s kids ih hin
  simp only [ET.In] at hin ⊢
  obtain ⟨⟨a, c, e⟩, d, f⟩ := hin
  exact ⟨⟨seg_low hb a, seg_low hb c, seg_low hb e⟩, d, inL_of fun k hk => ih k hk (inL_mem f k hk)⟩

theorem ET.In.whole {b : Nat} {w : World} {t : ET} (h : t.In (cut b w)) : t.In w := by
  have := ET.In.low (Nat.zero_le b) t h
  rw [cut_zero] at this
  exact this

/-- whatever turned below b -/
theorem cut_below {b : Nat} {w w' : World} (ho : w'.os = w.os) (ht : w'.tape = w.tape) (hp : w'.output = w.output) (hsz : w.heap.size ≤ w'.heap.size) (hk : ∀ k, b ≤ k → k < w.heap.size → w'.heap[k]? = w.heap[k]?) :
    Below (cut b w).heap.size (cut b w) (cut b w') := by
  refine ⟨ho, ht, hp, by rw [cut_size, cut_size]; exact hsz, fun k hl => ?_⟩
  rw [cut_size] at hl
  rcases Nat.lt_or_ge k b with e | e
  · rw [cut_near e hl, cut_near e (by omega)]
  · rw [cut_far e, cut_far e]
    exact hk k e hl

theorem ET.In.grown {b B : Nat} {w w' : World} {t : ET} (h : t.In (cut b w)) (g : w.grownBy w' (some B)) (hB : B < b) : t.In (cut b w') :=
  ET.In.below (cut_below g.os g.tape g.output g.size fun k hb hk => g.block k hk (fun e => by have := Option.some.inj e; omega)) t h

theorem ET.In.far {b X o : Nat} {w : World} {t : ET} {v : Value} (h : t.In (cut b w)) (hX : X < b) : t.In (cut b (w.setCell ⟨X, o, none⟩ v)) :=
  ET.In.below (cut_below (w := w) (w' := w.setCell ⟨X, o, none⟩ v) rfl rfl rfl (by simp) fun k hb hk => setCell_far (by omega)) t h

/-- a row that the call made -/
theorem own_cut {b : Nat} {w : World} {base e size n c : Nat} {co : Option Addr} {xs : List Value} (h : w.ownsRow base e size (.slice co n c) n xs) (hb : b ≤ base) : Seg (cut b w) co xs ∧ n ≤ c := by
  obtain ⟨ao, c', hv, sg, hc⟩ := own_open h
  simp at hv
  obtain ⟨rfl, rfl⟩ := hv
  refine ⟨seg_cut sg fun k off e => ?_, hc⟩
  have := (h.lt k (by rw [e]; rfl)).1
  omega

end Go.GrainU
