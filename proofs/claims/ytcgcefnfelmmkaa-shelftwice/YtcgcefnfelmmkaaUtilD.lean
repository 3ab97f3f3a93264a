/-
  An append of whatever slice, nil or not, empty or not, to a row of the call's own.
-/
import Derived.Test.YtcgcefnfelmmkaaUtil
import Derived.Laws.AppendOwn
import Derived.Laws.AppendOwnNone
namespace Go.GrainU
open Go.RowKit

theorem append_seg {P : Program} {w : World} {ops : Array Oper} {rest : List Oper} {o : Oper} {a : Act} {Q : Exit → Act → World → Prop} (hgd : o.guard = none) (s x : Operand) (t : TypeId)
    (ho : o.op = .call { callee := .builtin .append, args := #[s, x], argTypes := #[t, t] })
    (base : Nat) (e : TypeId) (i : TypeInfo) (z : Value) (size bytes : Nat) (ht : P.underlying t = some (.slice e)) (hi : P.info? e = some i) (hz : i.zero = some z)
    (hsize : i.size = size) (hby : i.bytes = bytes) (hzs : z.cells.size = size) (hsz : 0 < size)
    (v : Value) (n : Nat) (xs : List Value) (hs : a.eval s = v) (hown : w.ownsRow base e size v n xs)
    (ao : Option Addr) (m c : Nat) (news : List Value) (hx : a.eval x = .slice ao m c) (hao : ao = none → m = 0 ∧ c = 0) (hseg : Seg w ao news) (hl : news.length = m * size) (h1 : ∀ u ∈ news, u.oneCell' = true)
    (h63 : n + m ≤ maxLen) (hbytes : (n + m) * bytes ≤ 140737488355328) (hbase : base ≤ w.heap.size)
    (h : ∀ v' w', w'.ownsRow base e size v' (n + m) (xs ++ news) → w.grownBy w' v.ownBlock → wpList P ops Q rest (a.put o.dst v') w') : wpList P ops Q (o :: rest) a w := by
  cases ao with
  | none =>
    obtain ⟨rfl, rfl⟩ := hao rfl
    have hn : news = [] := List.length_eq_zero_iff.mp (by omega)
    subst hn
    refine wpList_append_own_none hgd s x t ho base e i size ht hi v n xs hs hown hx ?_
    exact h v w (by simpa using hown) ⟨rfl, rfl, rfl, Nat.le_refl _, fun _ _ _ => rfl⟩
  | some ad =>
    refine wpList_append_own w hgd s x t ho base e i z size bytes ht hi hz hsize hby hzs hsz v n xs hs hown ad m c news hx hl ?_ h1 h63 hbytes hbase (fun v' w' hr hg _ => h v' w' hr hg)
    rcases hseg with hn | ⟨b, off, e1, hc⟩
    · subst hn; intro j u hu; simp at hu
    · simp at e1
      subst e1
      intro j u hu
      have hj : j < news.length := by
        rcases Nat.lt_or_ge j news.length with h | h
        · exact h
        · rw [List.getElem?_eq_none h] at hu; cases hu
      have := hc j hj
      rw [hu] at this
      rw [show (⟨b, off, none⟩ : Addr).add j = ⟨b, off + j, none⟩ from by unfold Addr.add; split <;> simp_all]
      exact this

theorem own_open {w : World} {base e size n : Nat} {v : Value} {xs : List Value} (h : w.ownsRow base e size v n xs) : ∃ ao c, v = .slice ao n c ∧ Seg w ao xs ∧ n ≤ c := by
  rcases h.2 with ⟨h0, hn⟩ | ⟨g, cap, cur, h0, _, _, hc, _⟩
  · subst hn
    refine ⟨none, 0, h0, .inl ?_, Nat.le_refl _⟩
    exact List.length_eq_zero_iff.mp (by rw [h.1]; omega)
  · subst h0
    exact ⟨_, _, rfl, own_seg h, hc⟩

theorem scells_one (l : List (Int × Int)) : ∀ u ∈ scells l, u.oneCell' = true := by
  induction l with
  | nil => intro u hu; simp [scells] at hu
  | cons s r ih =>
    intro u hu
    simp only [scells, List.mem_cons] at hu
    rcases hu with e | e | e
    · subst e; rfl
    · subst e; rfl
    · exact ih u e

end Go.GrainU
