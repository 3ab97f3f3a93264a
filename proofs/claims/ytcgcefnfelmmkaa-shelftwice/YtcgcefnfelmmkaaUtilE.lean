/-
  An append to a row of the call's own, at a step of a region that draws its order: what the old row held it holds.
-/
import Derived.Test.YtcgcefnfelmmkaaUtil
import Derived.Deep.AppendLies
import Derived.Deep.Upon
namespace Go.GrainU
open Go.RowKit

theorem came_own {w : World} {base e size gx n cap : Nat} {xs : List Value} (hown : w.ownsRow base e size (.slice (some ⟨gx, 0, none⟩) n cap) n xs) : Came w size (some ⟨gx, 0, none⟩) gx 0 n cap xs := by
  rcases hown.2 with ⟨h0, _⟩ | ⟨g', cap', cur, h0, _, hg, hc, _, hcs, htk⟩
  · simp at h0
  · simp only [Value.slice.injEq, Option.some.injEq, Addr.mk.injEq, and_true, true_and] at h0
    obtain ⟨rfl, rfl⟩ := h0
    refine ⟨hc, fun _ => rfl, fun _ => lt_of_block hg, hown.1, fun j u hu => ?_, fun j hj => ?_⟩
    · have hj : j < n * size := by
        have := (List.getElem?_eq_some_iff.1 hu).1
        rw [hown.1] at this; exact this
      rw [Nat.zero_add]
      exact (hown.cellAt j hj).trans hu
    · have hm : n * size + (cap - n) * size = cap * size := by rw [← Nat.add_mul]; congr 1; omega
      constructor
      · rw [cell_of_row w gx _ cur e (0, 0) hg, Array.getElem?_eq_getElem (by rw [hcs]; omega)]; rfl
      · simp [World.frozen?, hg]

theorem run_append_keep {P : Program} {w : World} (t ty : TypeId) (base : Nat) (e : TypeId) (i : TypeInfo) (z : Value) (size bytes : Nat) (ht : P.underlying t = some (.slice e)) (hi : P.info? e = some i) (hz : i.zero = some z)
    (hsize : i.size = size) (hby : i.bytes = bytes) (hzs : z.cells.size = size) (hsz : 0 < size)
    (gx n cap : Nat) (xs : List Value) (hown : w.ownsRow base e size (.slice (some ⟨gx, 0, none⟩) n cap) n xs)
    (ad : Addr) (m c : Nat) (news : List Value) (hl : news.length = m * size) (hnews : ∀ j u, news[j]? = some u → w.cell? (ad.add j) = some u) (h1 : ∀ u ∈ news, u.oneCell' = true)
    (hm : 0 < m) (h63 : n + m ≤ maxLen) (hbytes : (n + m) * bytes ≤ 140737488355328) (hbase : base ≤ w.heap.size) :
    ∃ g cap' w', (Builtin.append_ #[t, t] ty #[.slice (some ⟨gx, 0, none⟩) n cap, .slice (some ad) m c]).run P w = .ok (.slice (some ⟨g, 0, none⟩) (n + m) cap') w' ∧
      w'.ownsRow base e size (.slice (some ⟨g, 0, none⟩) (n + m) cap') (n + m) (xs ++ news) ∧ w.grownBy w' (some gx) ∧ (∀ b j, b < w.heap.size → (b = gx → j < n * size) → w'.cell? ⟨b, j, none⟩ = w.cell? ⟨b, j, none⟩) := by
  obtain ⟨g, cap', w', hr, h2, h3, _, _⟩ := run_append_lies (P := P) w t ty base e i z size bytes ht hi hz hsize hby hzs hsz _ n xs hown ad m c news hl hnews h1 hm h63 hbytes hbase w.heap.size rfl
  have hc := came_own hown
  obtain ⟨v'', w'', hr', hu⟩ := run_append_upon (P := P) hc t t ty i z bytes ht hi hz hsize hby hzs (Upon.start (e := e) hc) (.slice (some ad) m c) m news (Src.ofSlice w ht ad m c news hl hnews h1) (by simpa using h63) (by simpa using hbytes)
  rw [hr] at hr'
  simp only [Result.ok.injEq] at hr'
  obtain ⟨rfl, rfl⟩ := hr'
  refine ⟨g, cap', w', hr, h2, h3, fun b j hb hj => hu.old hb (fun k hk ⟨e1, e2⟩ => ?_)⟩
  have := hj e1
  omega

theorem step_append_keep {P : Program} {w : World} {ops : Array Oper} {o : Oper} {a : Act} {K : Act → World → Prop} {Q : Exit → Act → World → Prop} {E : Prop} (hw : Region.wanted o (yielded ops a.tmps) = true) (s x : Operand) (t : TypeId)
    (ho : o.op = .call { callee := .builtin .append, args := #[s, x], argTypes := #[t, t] })
    (base : Nat) (e : TypeId) (i : TypeInfo) (z : Value) (size bytes : Nat) (ht : P.underlying t = some (.slice e)) (hi : P.info? e = some i) (hz : i.zero = some z)
    (hsize : i.size = size) (hby : i.bytes = bytes) (hzs : z.cells.size = size) (hsz : 0 < size)
    (gx n cap : Nat) (xs : List Value) (hs : a.eval s = .slice (some ⟨gx, 0, none⟩) n cap) (hown : w.ownsRow base e size (.slice (some ⟨gx, 0, none⟩) n cap) n xs)
    (ad : Addr) (m c : Nat) (news : List Value) (hx : a.eval x = .slice (some ad) m c) (hl : news.length = m * size) (hnews : ∀ j u, news[j]? = some u → w.cell? (ad.add j) = some u) (h1 : ∀ u ∈ news, u.oneCell' = true)
    (hm : 0 < m) (h63 : n + m ≤ maxLen) (hbytes : (n + m) * bytes ≤ 140737488355328) (hbase : base ≤ w.heap.size)
    (h : ∀ g cap' w', w'.ownsRow base e size (.slice (some ⟨g, 0, none⟩) (n + m) cap') (n + m) (xs ++ news) → w.grownBy w' (some gx) → (∀ b j, b < w.heap.size → (b = gx → j < n * size) → w'.cell? ⟨b, j, none⟩ = w.cell? ⟨b, j, none⟩) → K (a.put o.dst (.slice (some ⟨g, 0, none⟩) (n + m) cap')) w') :
    if Region.wanted o (yielded ops a.tmps) = true then Oper.wp P o a w K Q else E := by
  rw [if_pos hw]
  obtain ⟨g, cap', w', hr, h2, h3, h4⟩ := run_append_keep (P := P) t o.type base e i z size bytes ht hi hz hsize hby hzs hsz gx n cap xs hown ad m c news hl hnews h1 hm h63 hbytes hbase
  unfold Oper.wp execOp
  simp only [ho, resolve, invoke, builtin, Sem.run_bind, Sem.run_pure, Result.andThen_ok, List.map_toArray, List.map_cons, List.map_nil, hs, hx, hr]
  exact h g cap' w' h2 h3 h4

/-- whole numbers as cells -/
def icells (l : List Int) : List Value := l.map (Value.int .i64)

theorem seg_int {w : World} {ao : Option Addr} {l : List Int} (h : Seg w ao (icells l)) {k : Nat} (hk : k < l.length) :
    ∃ b off, ao = some ⟨b, off, none⟩ ∧ ∀ j, j < l.length → w.cell? ⟨b, off + j, none⟩ = some (.int .i64 (l.getD j 0)) := by
  rcases h with h | ⟨b, off, rfl, h⟩
  · have := congrArg List.length h; simp [icells] at this; subst this; simp at hk
  · refine ⟨b, off, rfl, fun j hj => (h j (by simpa [icells] using hj)).trans ?_⟩
    simp [icells, List.getElem?_eq_getElem hj, List.getD]

end Go.GrainU
