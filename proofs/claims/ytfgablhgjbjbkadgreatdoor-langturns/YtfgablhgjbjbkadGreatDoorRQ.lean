/-
  Expressions beside a variable that is written again.
-/
import Derived.Test.YtfgablhgjbjbkadGreatDoorRP
namespace Go.GrainU
open Go.RowKit

/-- the world without what block Y holds -/
def strip (Y : Nat) (w : World) : World := { w with heap := w.heap.setIfInBounds Y (.cells #[] 0 (0, 0)) }

theorem strip_size (Y : Nat) (w : World) : (strip Y w).heap.size = w.heap.size := by simp [strip]

theorem strip_far {Y k : Nat} {w : World} (h : k ≠ Y) : (strip Y w).heap[k]? = w.heap[k]? := by
  simp [strip, Ne.symm h]

theorem strip_near {Y : Nat} {w : World} (h : Y < w.heap.size) : (strip Y w).heap[Y]? = some (.cells #[] 0 (0, 0)) := by
  simp [strip, h]

theorem strip_cell {Y k o : Nat} {w : World} (h : k ≠ Y) : (strip Y w).cell? ⟨k, o, none⟩ = w.cell? ⟨k, o, none⟩ := by
  simp [World.cell?, strip_far h]

theorem strip_none {Y k o : Nat} {w : World} {v : Value} (h : (strip Y w).cell? ⟨k, o, none⟩ = some v) : k ≠ Y := by
  intro e
  subst e
  have hl := World.block_lt_of_cell? _ _ h
  rw [strip_size] at hl
  simp [World.cell?, strip_near hl] at h

theorem seg_of_strip {Y : Nat} {w : World} {ao : Option Addr} {xs : List Value} (h : Seg (strip Y w) ao xs) : Seg w ao xs := by
  rcases h with h | ⟨b, off, rfl, h⟩
  · exact .inl h
  · cases xs with
    | nil => exact .inl rfl
    | cons x r =>
      have hb : b ≠ Y := by
        have := h 0 (by simp)
        simp only [Nat.add_zero, List.getElem?_cons_zero] at this
        exact strip_none this
      exact .inr ⟨b, off, rfl, fun j hj => by rw [← strip_cell hb]; exact h j hj⟩

theorem ET.In.of_strip {Y : Nat} {w : World} : ∀ t : ET, t.In (strip Y w) → t.In w := by
  refine ET.ind ?_
  intro h s kids ih hin
  simp only [ET.In] at hin ⊢
  obtain ⟨⟨a, b, c⟩, d, e⟩ := hin
  exact ⟨⟨seg_of_strip a, seg_of_strip b, seg_of_strip c⟩, d, inL_of fun k hk => ih k hk (inL_mem e k hk)⟩

theorem seg_cs {b b' Y : Nat} {w : World} {ao : Option Addr} {xs : List Value} (h : Seg (cut b' w) ao xs) (hY : Y < b') (hb : b ≤ b') : Seg (strip Y (cut b w)) ao xs := by
  rcases h with h | ⟨k, off, rfl, h⟩
  · exact .inl h
  · cases xs with
    | nil => exact .inl rfl
    | cons x r =>
      have hk : b' ≤ k := by
        have := h 0 (by simp)
        simp only [Nat.add_zero, List.getElem?_cons_zero] at this
        exact cut_none this
      exact .inr ⟨k, off, rfl, fun j hj => by rw [strip_cell (by omega), cut_cell (by omega), ← cut_cell hk]; exact h j hj⟩

/-- what a later call made -/
theorem ET.In.cs {b b' Y : Nat} {w : World} (hY : Y < b') (hb : b ≤ b') : ∀ t : ET, t.In (cut b' w) → t.In (strip Y (cut b w)) := by
  refine ET.ind ?_
  intro h s kids ih hin
  simp only [ET.In] at hin ⊢
  obtain ⟨⟨a, c, e⟩, d, f⟩ := hin
  exact ⟨⟨seg_cs a hY hb, seg_cs c hY hb, seg_cs e hY hb⟩, d, inL_of fun k hk => ih k hk (inL_mem f k hk)⟩

/-- what an earlier call made, ahead of the variable -/
theorem ET.In.cs_new {b Y : Nat} {w : World} {o : Obj} {t : ET} (h : t.In (cut b w)) (hY : Y = w.heap.size) : t.In (strip Y (cut b (w.alloc o))) := by
  refine ET.In.below (w := cut b w) (w' := strip Y (cut b (w.alloc o))) ⟨rfl, rfl, rfl, by rw [strip_size, cut_size, cut_size]; simp, fun k hk => ?_⟩ t h
  rw [cut_size] at hk
  rw [strip_far (by omega)]
  rcases Nat.lt_or_ge k b with e | e
  · rw [cut_near e hk, cut_near e (by simp; omega)]
  · rw [cut_far e, cut_far e, Below.heap_alloc _ _ _ hk]

theorem cs_below {b Y : Nat} {w w' : World} (ho : w'.os = w.os) (ht : w'.tape = w.tape) (hp : w'.output = w.output) (hsz : w.heap.size ≤ w'.heap.size) (hk : ∀ k, b ≤ k → k ≠ Y → k < w.heap.size → w'.heap[k]? = w.heap[k]?) :
    Below (strip Y (cut b w)).heap.size (strip Y (cut b w)) (strip Y (cut b w')) := by
  refine ⟨ho, ht, hp, by rw [strip_size, strip_size, cut_size, cut_size]; exact hsz, fun k hl => ?_⟩
  rw [strip_size, cut_size] at hl
  by_cases eY : k = Y
  · subst eY
    rw [strip_near (by rw [cut_size]; omega), strip_near (by rw [cut_size]; omega)]
  · rw [strip_far eY, strip_far eY]
    rcases Nat.lt_or_ge k b with e | e
    · rw [cut_near e hl, cut_near e (by omega)]
    · rw [cut_far e, cut_far e]
      exact hk k e eY hl

theorem ET.In.cs_grown {b B Y : Nat} {w w' : World} {t : ET} (h : t.In (strip Y (cut b w))) (g : w.grownBy w' (some B)) (hB : B < b) : t.In (strip Y (cut b w')) :=
  ET.In.below (cs_below g.os g.tape g.output g.size fun k hb _ hk => g.block k hk (fun e => by have := Option.some.inj e; omega)) t h

theorem ET.In.cs_below {b Y : Nat} {w w' : World} {t : ET} (h : t.In (strip Y (cut b w))) (g : Below w.heap.size w w') : t.In (strip Y (cut b w')) :=
  ET.In.below (Go.GrainU.cs_below g.os g.tape g.output g.size fun k _ _ hk => g.block k hk) t h

theorem set_cs {b Y o : Nat} {w : World} {t : ET} {v : Value} (h : t.In (strip Y (cut b w))) : t.In (strip Y (cut b (w.setCell ⟨Y, o, none⟩ v))) :=
  ET.In.below (Go.GrainU.cs_below (w := w) (w' := w.setCell ⟨Y, o, none⟩ v) rfl rfl rfl (by simp) fun k _ hne _ => setCell_far hne) t h

theorem ET.In.cs_put {b Y : Nat} {w : World} {t u : ET} (h : t.In (strip Y (cut b w))) : t.In (strip Y (cut b (put7 w Y u))) := by
  unfold put7
  exact set_cs (set_cs (set_cs (set_cs (set_cs (set_cs (set_cs h))))))

/-- two expressions in a row of their own -/
theorem pair_in {b Y : Nat} {w : World} {t u : ET} {x : List UInt8} {ty : TypeId} (ht : t.In (strip Y (cut b w))) (hu : u.In (strip Y (cut b w))) (hb : b ≤ w.heap.size) (hY : Y < w.heap.size) (hx : x.length ≤ 100) :
    (ET.node ⟨4, 0, 0, lit x, [], []⟩ ⟨none, 0, none, 0, some ⟨w.heap.size, 0, none⟩, 2⟩ [t, u]).In (strip Y (cut b (w.alloc (.cells #[.int .i64 t.hd.kind, .int .i64 t.hd.n, .int .i64 t.hd.range, .string t.hd.word, .slice t.sp.ma t.hd.ms.length t.sp.mc, .slice t.sp.ba t.hd.bs.length t.sp.bc, .slice t.sp.ka t.kids.length t.sp.kc, .int .i64 u.hd.kind, .int .i64 u.hd.n, .int .i64 u.hd.range, .string u.hd.word, .slice u.sp.ma u.hd.ms.length u.sp.mc, .slice u.sp.ba u.hd.bs.length u.sp.bc, .slice u.sp.ka u.kids.length u.sp.kc] ty)))) := by
  have bel : Below w.heap.size w (w.alloc (.cells #[.int .i64 t.hd.kind, .int .i64 t.hd.n, .int .i64 t.hd.range, .string t.hd.word, .slice t.sp.ma t.hd.ms.length t.sp.mc, .slice t.sp.ba t.hd.bs.length t.sp.bc, .slice t.sp.ka t.kids.length t.sp.kc, .int .i64 u.hd.kind, .int .i64 u.hd.n, .int .i64 u.hd.range, .string u.hd.word, .slice u.sp.ma u.hd.ms.length u.sp.mc, .slice u.sp.ba u.hd.bs.length u.sp.bc, .slice u.sp.ka u.kids.length u.sp.kc] ty)) := (Below.refl _ _).alloc (Nat.le_refl _) _
  simp only [ET.In]
  refine ⟨⟨.inl rfl, .inl rfl, ?_⟩, ⟨by simp, by simp, by simp, by rw [lit_size]; omega, fun m hm => by (cases hm), fun m hm => by (cases hm), Nat.le_refl _, fun m hm => by (cases hm)⟩, ?_⟩
  · have sg := seg_new w #[.int .i64 t.hd.kind, .int .i64 t.hd.n, .int .i64 t.hd.range, .string t.hd.word, .slice t.sp.ma t.hd.ms.length t.sp.mc, .slice t.sp.ba t.hd.bs.length t.sp.bc, .slice t.sp.ka t.kids.length t.sp.kc, .int .i64 u.hd.kind, .int .i64 u.hd.n, .int .i64 u.hd.range, .string u.hd.word, .slice u.sp.ma u.hd.ms.length u.sp.mc, .slice u.sp.ba u.hd.bs.length u.sp.bc, .slice u.sp.ka u.kids.length u.sp.kc] ty
    have sg2 := seg_cut (b := w.heap.size) sg (fun k off e => by cases e; exact Nat.le_refl _)
    exact seg_cs sg2 hY hb
  · simp only [InL]
    exact ⟨ht.cs_below bel, hu.cs_below bel, trivial⟩

end Go.GrainU
