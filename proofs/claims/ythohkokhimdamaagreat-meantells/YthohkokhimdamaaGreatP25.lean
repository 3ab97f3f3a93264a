/-
  The walk of windowOf.
-/
import Derived.Test.YthohkokhimdamaaGreatP21
import Derived.Test.YthohkokhimdamaaGreatP23
import Derived.Test.YthohkokhimdamaaGreatP24
import Derived.Deep.CutRange
/-
  What is ahead of a time; the walks of Clone and windowOf.
-/
namespace Go.GrainU
open Go.RowKit

theorem tm_mono {l : List (Int × Int)} (h : Grain.Right l) : ∀ j k, j ≤ k → k < l.length → Grain.tm l j ≤ Grain.tm l k := by
  intro j k
  induction k with
  | zero => intro hj _; rw [show j = 0 by omega]; exact Int.le_refl _
  | succ k ih =>
    intro hj hk
    by_cases e : j = k + 1
    · rw [e]; exact Int.le_refl _
    · have h1 := ih (by omega) (by omega)
      have h2 := h.rise k hk
      omega

/-- how many are ahead of a time -/
theorem bdry {l : List (Int × Int)} (h : Grain.Right l) (T : Int) : ∃ p, p ≤ l.length ∧ ∀ k, k < l.length → (Grain.tm l k < T ↔ k < p) := by
  have hm := tm_mono h
  have : ∀ n, n ≤ l.length → ∃ p, p ≤ n ∧ ∀ k, k < n → (Grain.tm l k < T ↔ k < p) := by
    intro n
    induction n with
    | zero => intro _; exact ⟨0, Nat.le_refl _, fun k hk => by omega⟩
    | succ n ih =>
      intro hn
      obtain ⟨p, hp, hk⟩ := ih (by omega)
      by_cases hc : Grain.tm l n < T
      · refine ⟨n + 1, Nat.le_refl _, fun k hk' => ⟨fun _ => hk', fun _ => ?_⟩⟩
        have := hm k n (by omega) (by omega)
        omega
      · refine ⟨p, by omega, fun k hk' => ?_⟩
        by_cases e : k = n
        · subst e
          exact ⟨fun h => absurd h hc, fun h => by omega⟩
        · exact hk k (by omega)
  obtain ⟨p, hp, hk⟩ := this l.length (Nat.le_refl _)
  exact ⟨p, hp, hk⟩

theorem tm_get {l : List (Int × Int)} {k : Nat} (hk : k < l.length) : Grain.tm l k = (l[k]).1 := by simp [Grain.tm, List.getD, List.getElem?_eq_getElem hk]

/-- what lies between two times -/
theorem win_cut {l : List (Int × Int)} {T1 T2 : Int} {p1 p2 : Nat} (hT : T1 ≤ T2) (h1 : p1 ≤ l.length) (h2 : p2 ≤ l.length) (b1 : ∀ k, k < l.length → (Grain.tm l k < T1 ↔ k < p1)) (b2 : ∀ k, k < l.length → (Grain.tm l k < T2 ↔ k < p2)) :
    p1 ≤ p2 ∧ (l.take p2).drop p1 = Grain.win l T1 T2 := by
  have h12 : p1 ≤ p2 := by
    rcases Nat.lt_or_ge p2 p1 with h | h
    · have a1 := (b1 p2 (by omega)).2 h
      have a2 := (b2 p2 (by omega)).1 (by omega)
      omega
    · exact h
  refine ⟨h12, ?_⟩
  have hl : l = (l.take p2).take p1 ++ ((l.take p2).drop p1 ++ l.drop p2) := by
    rw [← List.append_assoc, List.take_append_drop, List.take_append_drop]
  unfold Grain.win
  conv => rhs; rw [hl]
  rw [List.filter_append, List.filter_append]
  have f1 : ((l.take p2).take p1).filter (fun x => decide (T1 ≤ x.1 ∧ x.1 < T2)) = [] := by
    rw [List.filter_eq_nil_iff]
    intro x hx
    obtain ⟨k, hk, rfl⟩ := List.mem_iff_getElem.1 hx
    simp at hk
    have := (b1 k (by omega)).2 (by omega)
    rw [tm_get (by omega)] at this
    simp
    omega
  have f2 : ((l.take p2).drop p1).filter (fun x => decide (T1 ≤ x.1 ∧ x.1 < T2)) = (l.take p2).drop p1 := by
    rw [List.filter_eq_self]
    intro x hx
    obtain ⟨k, hk, rfl⟩ := List.mem_iff_getElem.1 hx
    simp at hk
    have a1 := (b2 (p1 + k) (by omega)).2 (by omega)
    have a2 : ¬ Grain.tm l (p1 + k) < T1 := fun h => by have := (b1 (p1 + k) (by omega)).1 h; omega
    rw [tm_get (by omega)] at a1 a2
    simp
    omega
  have f3 : (l.drop p2).filter (fun x => decide (T1 ≤ x.1 ∧ x.1 < T2)) = [] := by
    rw [List.filter_eq_nil_iff]
    intro x hx
    obtain ⟨k, hk, rfl⟩ := List.mem_iff_getElem.1 hx
    simp at hk
    have a2 : ¬ Grain.tm l (p2 + k) < T2 := fun h => by have := (b2 (p2 + k) (by omega)).1 h; omega
    rw [tm_get (by omega)] at a2
    simp
    omega
  rw [f1, f2, f3]
  simp

theorem scells_drop (l : List (Int × Int)) : ∀ k, scells (l.drop k) = (scells l).drop (k * 2) := by
  induction l with
  | nil => intro k; simp [scells]
  | cons s r ih =>
    intro k
    match k with
    | 0 => simp
    | k + 1 => rw [show (k + 1) * 2 = k * 2 + 1 + 1 from by omega]; simp [scells, ih]

/-- a part of a slice -/
def cutA (pa : Option Addr) (pc p : Nat) : Option Addr := if pc = p then pa else pa.map (·.add (p * 2))

theorem seg_cut {w : World} {pa : Option Addr} {l : List (Int × Int)} {pc p1 p2 : Nat} (h : Seg w pa (scells l)) (hc : l.length ≤ pc) (h12 : p1 ≤ p2) (h2 : p2 ≤ l.length) : Seg w (cutA pa pc p1) (scells ((l.take p2).drop p1)) := by
  by_cases hp : p1 = p2
  · left
    rw [List.drop_eq_nil_of_le (by simp; omega)]; rfl
  · rcases h with h | ⟨b, off, rfl, h⟩
    · have := scells_length l; rw [h] at this; simp at this; omega
    · have e : cutA (some ⟨b, off, none⟩) pc p1 = some ⟨b, off + p1 * 2, none⟩ := by
        unfold cutA
        rw [if_neg (by omega)]
        simp only [Option.map_some]
        rw [show (⟨b, off, none⟩ : Addr).add (p1 * 2) = ⟨b, off + p1 * 2, none⟩ from by unfold Addr.add; split <;> simp_all]
      rw [e]
      refine .inr ⟨b, off + p1 * 2, rfl, fun j hj => ?_⟩
      have hs := scells_length l
      rw [scells_drop, scells_take] at hj ⊢
      simp at hj
      rw [Nat.add_assoc, h _ (by omega), List.getElem?_drop, List.getElem?_take, if_pos (by omega)]

theorem lcells_one (l : Lb) : ∀ u ∈ lcells l, u.oneCell' = true := by
  induction l with
  | nil => intro u hu; simp [lcells] at hu
  | cons s r ih =>
    intro u hu
    simp only [lcells, List.mem_cons] at hu
    rcases hu with e | e | e
    · subst e; rfl
    · subst e; rfl
    · exact ih u e

theorem winC_append (a b : List Ln) (h : Hd) (time : Int) : winC (a ++ b) h time = winC a h time ++ winC b h time := by
  induction a with
  | nil => rfl
  | cons x r ih => simp [winC, ih]

theorem lns_take {l : List LT} {k : Nat} (h : k < l.length) : lns (l.take (k + 1)) = lns (l.take k) ++ [(lt l k).ln] := by rw [take_lt h]; simp [lns]

theorem cls_append (a b : List CT) : cls (a ++ b) = cls a ++ cls b := by simp [cls]

end Go.GrainU
namespace Go.Proofs.YthohkokhimdamaaGreat
open Go.RowKit Go.GrainU

theorem Tryz.infoCell : (Tryz.prog.info? 57).map (fun i => (i.zero, i.size, i.bytes)) = some (some (.agg #[.slice none 0 0, .int .i64 0]), 2, 32) := by kernel_rfl

set_option maxRecDepth 100000 in
set_option maxHeartbeats 2000000 in
theorem mclone_any (s : Lb) (ao : Option Addr) (n c : Nat) (w : World) (hs : Seg w ao (lcells s)) (hn : n = s.length) (hL : n * 32 ≤ 140737488351232) (hnil : ao = none → n = 0 ∧ c = 0) :
    Calls Tryz.prog 57 #[.slice ao n c] w fun e w' => ∃ co N d, e = .returned (.slice co N d) ∧ w'.ownsRow w.heap.size 88 2 (.slice co N d) N (lcells s) ∧ N = n ∧ Below w.heap.size w w' := by
  obtain ⟨i0, hi, hz0, hz1, hz2⟩ := info_parts Tryz.infoLabel
  have q30 : ∀ (w : World) (a : Option Addr) (n c n' c' : Nat), (binOp .eql 40 (.slice a n c) (.slice none n' c')).run Tryz.prog w = .ok (.bool a.isNone) w := fun w a n c n' c' => Lib.run_eql_slice_nil w _ _ a n c n' c' Tryz.underlying40
  cases ao with
  | none =>
    obtain ⟨rfl, rfl⟩ := hnil rfl
    have he : s = [] := List.length_eq_zero_iff.1 hn.symm
    subst he
    clear hL hn hs
    go_enter Tryz.func57, Tryz.ntmps57
    go_wp2
    go_ret
    exact ⟨none, 0, 0, rfl, World.ownsRow_nil _ _ _ _, rfl, Below.refl _ _⟩
  | some ad =>
    have HN := hide hn
    have hw1 : Below w.heap.size w (w.alloc (.cells #[] 88)) := (Below.refl _ _).alloc (Nat.le_refl _) _
    have HL := hide hL
    clear hn hnil hL
    go_enter Tryz.func57, Tryz.ntmps57
    go_wp2_with (at_builtin; refine append_seg rfl _ _ 40 rfl w.heap.size 88 i0 (.agg #[.string ⟨#[]⟩, .string ⟨#[]⟩]) 2 32 Tryz.underlying40 hi hz0 hz1 hz2 rfl (by decide) _ _ _ rfl (World.ownsRow_made w #[] 0 (Nat.le_refl _) (Nat.zero_le _) (by simp)) (some ad) n c (lcells s) rfl (fun h => by cases h) (hs.below hw1) ?qc1 (lcells_one s) ?qc4 ?qc5 ?qc6 ?_)
    case qc1 => rw [lcells_length, HN.out]
    case qc4 => have := HL.out; unfold maxLen; omega
    case qc5 => have := HL.out; omega
    case qc6 => simp
    intro v' w1 own gr
    obtain ⟨ao', c', rfl, _, _⟩ := own_open own
    have bel1 : Below w.heap.size w w1 := hw1.grown gr (by simp) (fun j hj => by simp [Value.ownBlock] at hj; omega)
    have own2 : w1.ownsRow w.heap.size 88 2 (.slice ao' (0 + n) c') (0 + n) (lcells s) := by simpa using own
    clear own gr
    go_wp2
    go_ret
    exact ⟨ao', n, c', rfl, by simpa using own2, rfl, bel1⟩

end Go.Proofs.YthohkokhimdamaaGreat

/-
  The walk of windowOf.
-/
namespace Go.GrainU
open Go.RowKit

theorem below_dr {W V : World} (h : Below W.heap.size W V) : Below W.heap.size W V.drew := below_drewN h 1

theorem below_al {W V : World} (h : Below W.heap.size W V) (o : Obj) : Below W.heap.size W (V.alloc o) := h.alloc h.size _

/-- lines that are right -/
structure LnRt (x : LT) : Prop where
  ser : x.ser.length ≤ 4
  smp : Grain.Right x.smp

/-- an own row of cells, and their series elsewhere -/
structure OwnC (w : World) (base T : Nat) (v : Value) (N : Nat) (l : List CT) : Prop where
  own : w.ownsRow base T 2 v N (ccells l)
  ser : ∀ c ∈ l, SegN w v.ownBlock c.sa (lcells c.ser)

theorem OwnC.nil (w : World) (base T : Nat) : OwnC w base T (.slice none 0 0) 0 [] := ⟨World.ownsRow_nil _ _ _ _, fun c hc => by cases hc⟩

theorem OwnC.len {w : World} {base T N : Nat} {v : Value} {l : List CT} (h : OwnC w base T v N l) : N = l.length := by
  have := h.own.1; rw [ccells_length] at this; omega

theorem OwnC.below {w w' : World} {base T N : Nat} {v : Value} {l : List CT} (h : OwnC w base T v N l) (hb : Below w.heap.size w w') : OwnC w' base T v N l := ⟨own_below h.own hb, fun c hc => (h.ser c hc).below hb⟩

theorem OwnC.csIn {w : World} {base N d : Nat} {co : Option Addr} {l : List CT} (h : OwnC w base 57 (.slice co N d) N l) : CsIn w co l := by
  have ht := own_typ h.own
  obtain ⟨ao', c, hv, hs, _⟩ := own_open h.own
  simp only [Value.slice.injEq] at hv
  obtain ⟨rfl, -, rfl⟩ := hv
  exact ⟨hs, fun c hc => (h.ser c hc).seg, ht, fun c hc => (h.ser c hc).typ⟩

/-- an append of one cell -/
theorem OwnC.push {w w' : World} {base T N d g' cp' : Nat} {co : Option Addr} {l : List CT} (h : OwnC w base T (.slice co N d) N l) (c : CT) (hc : SegN w (Value.slice co N d).ownBlock c.sa (lcells c.ser))
    (own : w'.ownsRow base T 2 (.slice (some ⟨g', 0, none⟩) (N + 1) cp') (N + 1) (ccells l ++ [.slice c.sa c.ser.length c.sc, .int .i64 c.v])) (gr : w.grownBy w' (Value.slice co N d).ownBlock) (hat : (Value.slice co N d).ownBlock = some g' ∨ w.heap.size ≤ g') :
    OwnC w' base T (.slice (some ⟨g', 0, none⟩) (N + 1) cp') (N + 1) (l ++ [c]) := by
  have hr : ∀ g, (Value.slice (some ⟨g', 0, none⟩) (N + 1) cp').ownBlock = some g → (Value.slice co N d).ownBlock = some g ∨ w.heap.size ≤ g := fun g hg => by
    simp [Value.ownBlock] at hg
    subst hg
    exact hat
  refine ⟨by rw [ccells_append]; exact own, fun x hx => ?_⟩
  rcases List.mem_append.1 hx with e | e
  · exact (h.ser x e).grown gr hr
  · simp at e
    subst e
    exact hc.grown gr hr

end Go.GrainU
namespace Go.Proofs.YthohkokhimdamaaGreat
open Go.RowKit Go.GrainU

theorem sum_new (w : World) (J : Grain.Sm) : SumAt (w.alloc (.cells #[.int .i64 J.c, .int .i64 J.t, .int .i64 J.mn, .int .i64 J.mx, .int .i64 J.f, .int .i64 J.l, .int .i64 J.r] 46)) w.heap.size J := heap_alloc_new _ _
theorem sum_zero {w : World} {B : Nat} (h : w.heap[B]? = some (Obj.cells #[.int .i64 0, .int .i64 0, .int .i64 0, .int .i64 0, .int .i64 0, .int .i64 0, .int .i64 0] 46 (0, 0))) : SumAt w B Grain.zero := h

end Go.Proofs.YthohkokhimdamaaGreat
