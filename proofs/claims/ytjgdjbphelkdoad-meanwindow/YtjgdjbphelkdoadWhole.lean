/-
  For every input, MeanWindow returns true: of lines without all samples that are not in the window the same comes. No condition.
-/
import Derived.Test.YtjgdjbphelkdoadMeK
import Derived.Test.YtjgdjbphelkdoadRows
import Derived.Test.YtjgdjbphelkdoadLabU
import Derived.Test.YtjgdjbphelkdoadMath
import Derived.Test.YtjgdjbphelkdoadMeM
import Derived.Deep.CutRange
import Derived.Test.YtjgdjbphelkdoadOpenLines
/-
  A cell among cells that rise: where it goes.
-/
namespace Go.GrainU
open Go.RowKit

theorem ct_zero (a : CT) (r : List CT) : ct (a :: r) 0 = a := rfl
theorem ct_succ (a : CT) (r : List CT) (k : Nat) : ct (a :: r) (k + 1) = ct r k := rfl

/-- the cell p with another value -/
def ctw (c : CT) (v : Int) : CT := ⟨c.ser, v, c.sa, c.sc⟩

theorem put_idx (w : ByteArray) (s : Lb) (v : Int) : ∀ l : List CT, Srt (cls l) → ∃ p, p ≤ l.length ∧ (∀ k, k < l.length → (cmpS (ct l k).ser s < 0 ↔ k < p)) ∧
    ((p < l.length ∧ cmpS (ct l p).ser s = 0 ∧ putA w s v (cls l) = if big (tog w (ct l p).v v) = true then none else some (cls (l.set p (ctw (ct l p) (tog w (ct l p).v v))))) ∨
     (¬ (p < l.length ∧ cmpS (ct l p).ser s = 0) ∧ ∀ c : CT, c.cl = (s, v) → putA w s v (cls l) = some (cls (l.take p ++ c :: l.drop p)))) := by
  intro l
  induction l with
  | nil => intro _; exact ⟨0, Nat.le_refl _, fun k hk => by simp at hk, .inr ⟨fun h => by simp at h, fun c hc => by simp [cls, putA, hc]⟩⟩
  | cons a r ih =>
    intro hs
    have hs' : (∀ x ∈ cls r, cmpS a.cl.1 x.1 = -1) ∧ Srt (cls r) := List.pairwise_cons.1 hs
    by_cases ha : cmpS a.ser s < 0
    · obtain ⟨p, hp, hk, hc⟩ := ih hs'.2
      refine ⟨p + 1, by simp; omega, ?_, ?_⟩
      · intro k hk'
        match k with
        | 0 => exact ⟨fun _ => by omega, fun _ => ha⟩
        | k + 1 =>
          rw [ct_succ]
          have := hk k (by simpa using hk')
          omega
      · rw [ct_succ]
        have e : putA w s v (cls (a :: r)) = (putA w s v (cls r)).map (a.cl :: ·) := by
          show putA w s v (a.cl :: cls r) = _
          rw [putA, if_pos (show cmpS a.cl.1 s < 0 from ha)]
        rcases hc with ⟨h1, h2, h3⟩ | ⟨h1, h2⟩
        · refine .inl ⟨by simp; omega, h2, ?_⟩
          rw [e, h3]
          split
          · rfl
          · simp [cls]
        · refine .inr ⟨fun h => h1 ⟨by have := h.1; simp at this; omega, h.2⟩, fun c hc => ?_⟩
          rw [e, h2 c hc]
          simp [cls]
    · refine ⟨0, Nat.zero_le _, ?_, ?_⟩
      · intro k hk'
        refine ⟨fun h => ?_, fun h => by omega⟩
        match k with
        | 0 => exact absurd h ha
        | k + 1 =>
          rw [ct_succ] at h
          have hk2 : k < r.length := by simpa using hk'
          have h1 : cmpS a.ser (ct r k).ser = -1 := hs'.1 (ct r k).cl (List.mem_map_of_mem (ct_mem hk2))
          have h2 : cmpS (ct r k).ser s = -1 := by rcases cmpS_cases (ct r k).ser s with e | ⟨e, _⟩ | e <;> omega
          have := cmpS_trans h1 h2
          omega
      · rw [ct_zero]
        have e : putA w s v (cls (a :: r)) = if cmpS a.ser s = 0 then (if big (tog w a.v v) = true then none else some ((a.ser, tog w a.v v) :: cls r)) else some ((s, v) :: a.cl :: cls r) := by
          show putA w s v (a.cl :: cls r) = _
          rw [putA, if_neg (show ¬ cmpS a.cl.1 s < 0 from ha)]
          rfl
        by_cases h0 : cmpS a.ser s = 0
        · refine .inl ⟨by simp, h0, ?_⟩
          rw [e, if_pos h0]
          rfl
        · refine .inr ⟨fun h => h0 h.2, fun c hc => ?_⟩
          rw [e, if_neg h0]
          simp [cls, hc]

/-- .. and what comes of it rises still -/
theorem put_srt (w : ByteArray) (s : Lb) (v : Int) : ∀ l : List Cl, Srt l → ∀ l', putA w s v l = some l' → Srt l' ∧ (∀ c ∈ l', c.1 = s ∨ c ∈ l) := by
  intro l
  induction l with
  | nil =>
    intro _ l' h
    simp [putA] at h
    subst h
    exact ⟨by simp [Srt], fun c hc => by simp at hc; left; rw [hc]⟩
  | cons a r ih =>
    intro hs l' h
    have hs' : (∀ x ∈ r, cmpS a.1 x.1 = -1) ∧ Srt r := List.pairwise_cons.1 hs
    rw [putA] at h
    split at h
    · rename_i ha
      cases hq : putA w s v r with
      | none => rw [hq] at h; cases h
      | some q =>
        rw [hq] at h
        simp at h
        subst h
        obtain ⟨i1, i2⟩ := ih hs'.2 q hq
        refine ⟨List.pairwise_cons.2 ⟨fun x hx => ?_, i1⟩, fun c hc => ?_⟩
        · rcases i2 x hx with e | e
          · rw [e]; rcases cmpS_cases a.1 s with e' | ⟨e', _⟩ | e' <;> omega
          · exact hs'.1 x e
        · rcases List.mem_cons.1 hc with e | e
          · right; rw [e]; simp
          · rcases i2 c e with e | e
            · exact .inl e
            · right; simp [e]
    · rename_i ha
      split at h
      · rename_i h0
        split at h
        · cases h
        · simp at h
          subst h
          refine ⟨List.pairwise_cons.2 ⟨fun x hx => hs'.1 x hx, hs'.2⟩, fun c hc => ?_⟩
          rcases List.mem_cons.1 hc with e | e
          · left; rw [e]; exact (cmpS_zero _ _).1 h0
          · right; simp [e]
      · rename_i h0
        simp at h
        subst h
        have h1 : cmpS s a.1 = -1 := by
          have := cmpS_back a.1 s
          rcases cmpS_cases a.1 s with e' | ⟨e', _⟩ | e' <;> omega
        refine ⟨List.pairwise_cons.2 ⟨fun x hx => ?_, hs⟩, fun c hc => ?_⟩
        · rcases List.mem_cons.1 hx with e | e
          · rw [e]; exact h1
          · exact cmpS_trans h1 (hs'.1 x e)
        · rcases List.mem_cons.1 hc with e | e
          · left; rw [e]
          · right; exact e

theorem put_fine {w : ByteArray} {s : Lb} {v : Int} (hs : s.length ≤ 4) (hv : -MC ≤ v ∧ v ≤ MC) : ∀ {l : List Cl}, (∀ c ∈ l, Fine c) → ∀ {l'}, putA w s v l = some l' → (∀ c ∈ l', Fine c) ∧ l'.length ≤ l.length + 1 := by
  intro l
  induction l with
  | nil =>
    intro _ l' h
    simp [putA] at h
    subst h
    exact ⟨fun c hc => by simp at hc; rw [hc]; exact ⟨hv.1, hv.2, hs⟩, by simp⟩
  | cons a r ih =>
    intro hf l' h
    have fa := hf a (by simp)
    have fr : ∀ c ∈ r, Fine c := fun c hc => hf c (by simp [hc])
    rw [putA] at h
    split at h
    · cases hq : putA w s v r with
      | none => rw [hq] at h; cases h
      | some q =>
        rw [hq] at h
        simp at h
        subst h
        obtain ⟨i1, i2⟩ := ih fr hq
        refine ⟨fun c hc => ?_, by simp; omega⟩
        rcases List.mem_cons.1 hc with e | e
        · rw [e]; exact fa
        · exact i1 c e
    · split at h
      · split at h
        · cases h
        · rename_i hb
          simp at h
          subst h
          refine ⟨fun c hc => ?_, by simp⟩
          rcases List.mem_cons.1 hc with e | e
          · rw [e]
            have := big_false (by simpa using hb : big (tog w a.2 v) = false)
            exact ⟨this.1, this.2, fa.2.2⟩
          · exact fr c e
      · simp at h
        subst h
        refine ⟨fun c hc => ?_, by simp⟩
        rcases List.mem_cons.1 hc with e | e
        · rw [e]; exact ⟨hv.1, hv.2, hs⟩
        · rcases List.mem_cons.1 e with e | e
          · rw [e]; exact fa
          · exact fr c e

end Go.GrainU

/-
  The walk of allOf.
-/
namespace Go.GrainU
open Go.RowKit

theorem ccells_set : ∀ (l : List CT) (p : Nat) (v : Int), p < l.length → (ccells l).set (p * 2 + 1) (.int .i64 v) = ccells (l.set p (ctw (ct l p) v))
  | [], _, _, h => by simp at h
  | a :: r, 0, v, _ => rfl
  | a :: r, p + 1, v, h => by
    have ih := ccells_set r p v (by simpa using h)
    rw [show (p + 1) * 2 + 1 = (p * 2 + 1) + 1 + 1 from by omega]
    simp only [ccells, List.set_cons_succ, ih, ct_succ]

theorem cell_set {w : World} {base e size g n cap : Nat} {xs : List Value} (h : w.ownsRow base e size (.slice (some ⟨g, 0, none⟩) n cap) n xs) (j : Nat) (u : Value) (hj : j < xs.length) :
    (w.setCell ⟨g, j, none⟩ u).ownsRow base e size (.slice (some ⟨g, 0, none⟩) n cap) n (xs.set j u) := by
  obtain ⟨cur, hG, h1, h2, h3, h4⟩ : ∃ cur, w.heap[g]? = some (.cells cur e (0, 0)) ∧ base ≤ g ∧ n ≤ cap ∧ cap ≤ maxLen ∧ cur.size = cap * size := by
    rcases h.2 with ⟨h0, _⟩ | ⟨g', c, cur, h0, hb, hh, k1, k2, k3, _⟩
    · cases h0
    · injection h0 with e1 _ e3
      injection e1 with e1
      injection e1 with e1 _ _
      subst e1
      subst e3
      exact ⟨cur, hh, hb, k1, k2, k3⟩
  have hl := h.1
  obtain ⟨c1, k1, k2⟩ := setCells_block g [u] j w cur _ _ hG
  have hs : ∀ i, i < xs.length → w.cell? ⟨g, i, none⟩ = xs[i]? := fun i hi => h.cellAt i (by omega)
  refine own_of_cells (cur := c1) k1 h1 h2 h3 (by omega) (by simpa using hl) ?_
  intro i hi
  simp at hi
  by_cases e : i = j
  · subst e
    have := World.cell?_setCells_in g [u] i w (fun t ht => by
      simp at ht
      subst ht
      rw [Nat.add_zero, hs i hi, List.getElem?_eq_getElem hi]; rfl) 0 (by simp)
    rw [Nat.add_zero] at this
    show (w.setCells g i [u]).cell? _ = _
    rw [this]
    simp [hi]
  · have := World.cell?_setCells_out g [u] j w ⟨g, i, none⟩ (fun _ _ => by show i < j ∨ j + 1 ≤ i; omega)
    show (w.setCells g j [u]).cell? _ = _
    rw [this, hs i hi, List.getElem?_set_ne (fun h => e h.symm)]

/-- a cell's value written in place -/
theorem OwnC.put {w : World} {base T N d g p : Nat} {l : List CT} (h : OwnC w base T (.slice (some ⟨g, 0, none⟩) N d) N l) (hp : p < l.length) (v : Int) :
    OwnC (w.setCell ⟨g, p * 2 + 1, none⟩ (.int .i64 v)) base T (.slice (some ⟨g, 0, none⟩) N d) N (l.set p (ctw (ct l p) v)) := by
  have gr : w.grownBy (w.setCell ⟨g, p * 2 + 1, none⟩ (.int .i64 v)) (some g) := setCells_grown g [.int .i64 v] (p * 2 + 1) w
  refine ⟨?_, fun c hc => ?_⟩
  · rw [← ccells_set l p v hp]
    exact cell_set h.own _ _ (by rw [ccells_length]; omega)
  · have hk : ∃ c' ∈ l, c.sa = c'.sa ∧ c.ser = c'.ser := by
      rcases List.mem_or_eq_of_mem_set hc with e | e
      · exact ⟨c, e, rfl, rfl⟩
      · exact ⟨ct l p, ct_mem hp, by rw [e]; rfl, by rw [e]; rfl⟩
    obtain ⟨c', hc', e1, e2⟩ := hk
    rw [e1, e2]
    exact (h.ser c' hc').grown gr (fun k hk => .inl hk)

/-- labels lie in another block than a meaning -/
theorem seg_far {w : World} {ao : Option Addr} {s : Lb} {B t o : Nat} {f : Bool} {a : Option Addr} {n c : Nat} {fr : Nat × Nat} (h : Seg w ao (lcells s)) (hB : w.heap[B]? = some (.cells #[.bool f, .slice a n c] t fr)) (v : Value) : Seg (w.setCell ⟨B, o, none⟩ v) ao (lcells s) := by
  rcases h with h | ⟨b, off, rfl, h⟩
  · exact .inl h
  · cases s with
    | nil => exact .inl rfl
    | cons x r =>
      have h0 := h 0 (by simp [lcells])
      have hne : b ≠ B := by
        intro e
        subst e
        simp [World.cell?, hB, lcells] at h0
        match off, h0 with
        | 0, h0 => simp at h0
        | 1, h0 => simp at h0
        | q + 2, h0 => simp at h0
      refine .inr ⟨b, off, rfl, fun j hj => ?_⟩
      rw [cell_of_block (setCell_far hne)]
      exact h j hj

theorem allA_no {w : ByteArray} {ks : List ByteArray} {out : List Cl} {c : Cl} {r : List Cl} (h : putA w (only c.1 ks) (one1 w c.2) out = none) : allA w ks out (c :: r) = none := by simp [allA, h]
theorem allA_yes {w : ByteArray} {ks : List ByteArray} {out out' : List Cl} {c : Cl} {r : List Cl} (h : putA w (only c.1 ks) (one1 w c.2) out = some out') : allA w ks out (c :: r) = allA w ks out' r := by simp [allA, h]

end Go.GrainU
namespace Go.Proofs.Ytjgdjbphelkdoad
open Go.RowKit Go.GrainU

/-- what allOf's loop keeps -/
structure AI (W wr : World) (co : Option Addr) (N d k : Nat) (cts : List CT) : Prop where
  bel : Below W.heap.size W wr
  own : OwnC wr W.heap.size 44 (.slice co N d) N cts
  srt : Srt (cls cts)
  fin : ∀ c ∈ cls cts, Fine c
  len : N ≤ k

theorem AI.call {W wr w' : World} {co : Option Addr} {N d k : Nat} {cts : List CT} (I : AI W wr co N d k cts) (hb : Below wr.heap.size wr w') : AI W w' co N d k cts :=
  ⟨I.bel.trans (hb.mono I.bel.size), I.own.below hb, I.srt, I.fin, I.len⟩

set_option maxRecDepth 100000 in
set_option maxHeartbeats 8000000 in
theorem mall_any (l : List CT) (ks : List ByteArray) (x : ByteArray) (ao bo : Option Addr) (n d0 m bc : Nat) (w : World) (hl : CsIn w ao l) (hk : Seg w bo (wcells ks)) (hn : n = l.length) (hm : m = ks.length) (hM : m ≤ 9223372036854775807) (hf : ∀ c ∈ cls l, Fine c) (hn8 : n ≤ 8) :
    Calls Try.prog 38 #[.slice ao n d0, .string x, .slice bo m bc] w fun e w' => MPost ((allA x ks [] (cls l)).map fun c => ⟨false, c⟩) e w' ∧ Below w.heap.size w w' := by
  have HN := hide hn
  have HM := hide hm
  have HF := hide hf
  clear hn hm hf
  obtain ⟨W, hW⟩ : ∃ W, W = w.alloc (.cells #[.bool false, .slice none 0 0] 56) := ⟨_, rfl⟩
  have bel0 : Below w.heap.size w W := by rw [hW]; exact (Below.refl _ _).alloc (Nat.le_refl _) _
  have F0 : W.heap[w.heap.size]? = some (.cells #[.bool false, .slice none 0 0] 56 (0, 0)) := by rw [hW]; exact heap_alloc_new w _
  have hlW := hl.below bel0
  have hkW := hk.below bel0
  have HW := hide hW
  clear hW hl hk
  go_enter Try.func38, Try.ntmps38
  go_wp2
  rw [← HW.out]
  go_loopw [8, 18] (fun out i wr => ∃ (k N d : Nat) (co : Option Addr) (cts : List CT), k ≤ n ∧ i = .int .i64 k ∧ out = .slice co N d ∧ AI W wr co N d k cts ∧ Hid (allA x ks [] (cls l) = allA x ks (cls cts) (cls (l.drop k)))) (fun _ i _ => n - (intOf i).toNat)
  case atStart => exact ⟨0, 0, 0, none, [], Nat.zero_le _, rfl, rfl, ⟨Below.refl _ _, OwnC.nil _ _ _, by simp [Srt, cls], fun c hc => by simp [cls] at hc, Nat.le_refl _⟩, rfl⟩
  case round =>
    obtain ⟨k, N, d, co, cts, hk, rfl, rfl, I, HA⟩ := hrel
    by_cases hlt : k < n
    · have hkl : k < l.length := by rw [← HN.out]; exact hlt
      obtain ⟨b, off, rfl, hb, hcell⟩ := seg_cell hlW.seg hkl
      obtain ⟨c, hc⟩ : ∃ c, c = ct l k := ⟨_, rfl⟩
      obtain ⟨cn, hcn⟩ : ∃ cn, cn = c.ser.length := ⟨_, rfl⟩
      have segc : Seg W c.sa (lcells c.ser) := by rw [hc]; exact hlW.ser _ (ct_mem hkl)
      have c0 : wr.cell? ⟨b, off + k * 2, none⟩ = some (.slice c.sa cn c.sc) := by rw [hcn, hc]; exact (I.bel.cell (by exact hb)).trans (hcell k hkl).1
      have c1 : wr.cell? ⟨b, off + k * 2 + 1, none⟩ = some (.int .i64 c.v) := by rw [hc]; exact (I.bel.cell (by exact hb)).trans (hcell k hkl).2
      have fc : Fine c.cl := HF.out _ (by rw [hc]; exact List.mem_map_of_mem (ct_mem hkl))
      have HD : Hid (cls (l.drop k) = c.cl :: cls (l.drop (k + 1))) := by show _ = _; rw [cls_drop hkl, hc]
      obtain ⟨v, hv⟩ : ∃ v, v = one1 x c.v := ⟨_, rfl⟩
      have hv2 : -MC ≤ v ∧ v ≤ MC := by
        rw [hv]; unfold one1
        split
        · simp [MC]
        · exact ⟨fc.1, fc.2.1⟩
      obtain ⟨V, hV⟩ : ∃ V, V = wr.alloc (.cells #[.slice c.sa cn c.sc, .int .i64 v] 44) := ⟨_, rfl⟩
      obtain ⟨X, hX⟩ : ∃ X, X = wr.heap.size := ⟨_, rfl⟩
      have F1 : V.heap[X]? = some (.cells #[.slice c.sa cn c.sc, .int .i64 v] 44 (0, 0)) := by rw [hV, hX]; exact heap_alloc_new wr _
      have belA : Below wr.heap.size wr V := by rw [hV]; exact (Below.refl _ _).alloc (Nat.le_refl _) _
      have IV := I.call belA
      have cn4 : cn ≤ 4 := by rw [hcn]; exact fc.2.2
      have HV := hide hV
      have HX := hide hX
      have HCN := hide hcn
      have Hv := hide hv
      clear hV hcn hc hkl hcell I belA hv fc
      obtain ⟨Q, hQ⟩ : ∃ Q, Q = decide (x = lit [99, 111, 117, 110, 116]) := ⟨_, rfl⟩
      have HQ := hide hQ
      clear hQ
      go_upto_region 5 with fail
      go_cut [23] from 22 to 23 (fun v23 wx => v23 = .bool Q ∧ wx = wr.alloc (.cells #[.slice c.sa cn c.sc, .int .i64 c.v] 44))
      case first =>
        by_cases hq : x = lit [99, 111, 117, 110, 116]
        · have hd : Hid (Q = true) := by show _ = _; rw [HQ.out]; simpa using hq
          have hq2 : (x.toList == [99, 111, 117, 110, 116]) = true := by rw [hq, show (lit [99, 111, 117, 110, 116]).toList = [99, 111, 117, 110, 116] from ByteArray.toList_mk _]; decide
          clear hq
          go_wp2_with fail
          go_meet
          exact ⟨by rw [hd.out], rfl⟩
        · have hd : Hid (Q = false) := by show _ = _; rw [HQ.out]; simpa using hq
          have hq2 := list_ne2 hq
          clear hq
          go_wp2_with fail
          go_meet
          exact ⟨by rw [hd.out], rfl⟩
      case rest =>
      obtain ⟨rfl, rfl⟩ := hcut
      apply_assumption
      go_cut [23] from 24 to 24 (fun v23 wx => wx = V)
      case first =>
        cases Q with
        | true =>
          have hv1 : v = 1 := by
            have := of_decide_eq_true HQ.out.symm
            rw [Hv.out, one1, if_pos this]
          subst hv1
          go_wp2_with fail
          go_meet
          exact HV.out.symm
        | false =>
          have hv1 : v = c.v := by
            have := of_decide_eq_false HQ.out.symm
            rw [Hv.out, one1, if_neg this]
          subst hv1
          go_wp2_with fail
          go_meet
          exact HV.out.symm
      case rest =>
      rw [hcut, ← HX.out]
      clear hcut HV HX hX HQ c0 c1
      obtain ⟨x0, x1, _, _⟩ := two_cells F1
      obtain ⟨S, hS⟩ : ∃ S, S = only c.ser ks := ⟨_, rfl⟩
      have hS4 : S.length ≤ 4 := by rw [hS]; have := only_len c.ser ks; rw [← HCN.out] at this; omega
      have PO : Hid (∀ w', Below V.heap.size V w' → Calls Try.prog 59 #[.slice c.sa cn c.sc, .slice bo m bc] w' fun e w'' => ∃ co N d, e = .returned (.slice co N d) ∧ w''.ownsRow w'.heap.size 51 2 (.slice co N d) N (lcells S) ∧ N = S.length ∧ Below w'.heap.size w' w'') := fun w' hb' => by
        rw [hS]; exact nonly_own c.ser ks c.sa bo cn c.sc m bc w' ((segc.below IV.bel).below hb') HCN.out (by omega) ((hkW.below IV.bel).below hb') HM.out hM
      have HD2 : Hid (∀ r, putA x S v (cls cts) = r → allA x ks [] (cls l) = match r with | none => none | some o => allA x ks o (cls (l.drop (k + 1)))) := fun r hr => by
        have e1 : putA x (only c.cl.1 ks) (one1 x c.cl.2) (cls cts) = r := by rw [← hr, hS, Hv.out]; rfl
        rw [HA.out, HD.out]
        cases r with
        | none => exact allA_no e1
        | some o => exact allA_yes e1
      clear hS HA HD
      go_wp2_with fail
      refine (PO.out V (Below.refl _ _)).mono ?_
      rintro e w1 ⟨so, sn, sd, rfl, ownS, hsn, b1⟩
      have I1 := IV.call b1
      have F2 := below_block b1 F1
      have segS : SegN w1 (Value.slice co N d).ownBlock so (lcells S) := segN_own ownS (fun g hg => (own_base IV.own.own g hg).2)
      have hNl := I1.own.len
      have hN8 : N ≤ 8 := by have := I1.len; omega
      obtain ⟨p, hp, hbd, hcase⟩ := put_idx x S v cts I1.srt
      obtain ⟨FF, hFF⟩ : ∃ FF, FF = (decide (p < N) && decide (cmpS (ct cts p).ser S = 0)) := ⟨_, rfl⟩
      have hs8 : ∀ y ∈ cts, y.ser.length ≤ 9223372036854775807 := fun y hy => by
        have := (I1.fin y.cl (List.mem_map_of_mem hy)).2.2
        have e : y.cl.1.length = y.ser.length := rfl
        omega
      have HSN := hide hsn
      have HNL := hide hNl
      have PS : Calls Try.prog 60 #[.slice co N d, .slice so sn sd, .func (.func 61) #[] #[]] w1 fun e w' => e = .returned (.tuple #[.int .i64 p, .bool FF]) ∧ Below w1.heap.size w1 w' :=
        mbsc_any cts S co so N d sn sd p FF w1 I1.own.csIn segS.seg HNL.out HSN.out (by omega) hs8 (by omega) (fun q hq => hbd q (by omega)) hFF
      have HFF := hide hFF
      have HPS := hide PS
      have HPP := hide hp
      have HCS := hide hcase
      clear x0 x1 ownS b1 F1 IV hsn hNl hs8 PS hFF PO hbd hcase hp
      go_wp2_with fail
      refine HPS.out.mono ?_
      rintro e w2 ⟨rfl, b2⟩
      have I2 := I1.call b2
      have F3 := below_block b2 F2
      have segS2 := segS.below b2
      clear HPS I1 F2 segS b2
      rcases HCS.out with ⟨h1, h2, h3⟩ | ⟨h1, h2⟩
      · have hFt : Hid (FF = true) := by
          show _ = _
          rw [HFF.out, HNL.out]
          simp [h1, h2]
        have hpN : p < N := by rw [HNL.out]; exact h1
        have hg : ∃ g, co = some ⟨g, 0, none⟩ := by
          rcases I2.own.own.2 with ⟨_, h⟩ | ⟨g, cp, cur, h, _⟩
          · omega
          · injection h with h1 _ _
            exact ⟨g, h1⟩
        obtain ⟨g, rfl⟩ := hg
        obtain ⟨q, hq⟩ : ∃ q, q = (ct cts p).v := ⟨_, rfl⟩
        have cq : w2.cell? ⟨g, p * 2 + 1, none⟩ = some (.int .i64 q) := by
          rw [hq]
          exact (I2.own.own.cellAt (p * 2 + 1) (by omega)).trans (ccells_at cts p h1).2
        have fq : w2.frozen? ⟨g, p * 2 + 1, none⟩ = false := by
          rcases I2.own.own.2 with ⟨h, _⟩ | ⟨g', cp, cur, h, _, hh, _⟩
          · cases h
          · injection h with h1 _ _
            injection h1 with h1
            injection h1 with h1 _ _
            subst h1
            simp [World.frozen?, hh]
        have fp := I2.fin (ct cts p).cl (List.mem_map_of_mem (ct_mem h1))
        have bq : -MC ≤ q ∧ q ≤ MC := by rw [hq]; exact ⟨fp.1, fp.2.1⟩
        obtain ⟨T, hT⟩ : ∃ T, T = tog x q v := ⟨_, rfl⟩
        obtain ⟨R, hR⟩ : ∃ R, R = bnd T := ⟨_, rfl⟩
        have PT : Hid (∀ w', Calls Try.prog 64 #[.string x, .int .i64 q, .int .i64 v] w' fun e w'' => e = .returned (.int .i64 T) ∧ w'' = w') := fun w' => by rw [hT]; exact mtogether_any x q v w' bq hv2
        have PBd : Hid (∀ w', Calls Try.prog 63 #[.int .i64 T] w' fun e w'' => e = .returned (.tuple #[.int .i64 (ov R), .int .i64 (oe R)]) ∧ w'' = w') := fun w' => by rw [hR]; exact mbounded_any T w'
        have HP3 : Hid (putA x S v (cls cts) = R.map fun y => cls (cts.set p (ctw (ct cts p) y))) := by
          show _ = _
          rw [h3, ← hq, ← hT, hR]
          unfold bnd
          by_cases e : big T = true
          · rw [if_pos e, if_pos e]; rfl
          · rw [if_neg e, if_neg e]; rfl
        obtain ⟨x0, x1, _, _⟩ := two_cells F3
        have HH1 := hide h1
        have hFt2 := hFt.out
        subst hFt2
        have i2 : (p : Int) < (N : Int) := by omega
        clear h1 h2 h3 HFF hq hT hR fp bq
        go_wp2_with fail
        have hnn : decide (p < N) = true := by simp; omega
        go_quiet (first | (go_at_call 64; exact Calls.quiet_of_same (PT.out _)) | (go_at_call 63; exact Calls.quiet_of_same (PBd.out _)))
        have bel3 := I2.bel
        cases R with
        | none =>
          have HE : Hid (((allA x ks [] (cls l)).map fun c => (⟨false, c⟩ : Mn)) = none) := by
            show _ = _
            rw [HD2.out _ HP3.out]; rfl
          obtain ⟨r0, r1, r2, r3⟩ := two_cells (below_block bel3 F0)
          have belw : Below w.heap.size w w2 := bel0.trans (bel3.mono bel0.size)
          simp only [ov, oe]
          clear HD2 HP3 I2
          go_wp2
          exact bodyPost_ret (v := .tuple #[.agg #[.bool false, .slice none 0 0], .int .i64 3]) (by simp [results, Try.results38, go_sem, r0, r1]) rfl ⟨.inl ⟨HE.out, rfl⟩, ((below_drewN belw _).setCell (Nat.le_refl _) _).setCell (Nat.le_refl _) _⟩
        | some y =>
          have HP4 : Hid (putA x S v (cls cts) = some (cls (cts.set p (ctw (ct cts p) y)))) := HP3.out
          have HA2 : Hid (allA x ks [] (cls l) = allA x ks (cls (cts.set p (ctw (ct cts p) y))) (cls (l.drop (k + 1)))) := HD2.out _ HP4.out
          have pf := put_fine hS4 hv2 I2.fin HP4.out
          have ps := put_srt x S v (cls cts) I2.srt _ HP4.out
          have bd : Below w2.heap.size w2 (w2.drewN nq) := below_drewN (Below.refl _ _) nq
          have I3 : AI W ((w2.drewN nq).setCell ⟨g, p * 2 + 1, none⟩ (.int .i64 y)) (some ⟨g, 0, none⟩) N d (k + 1) (cts.set p (ctw (ct cts p) y)) :=
            ⟨(below_drewN bel3 nq).setCell (own_base I2.own.own g rfl).1 _, (I2.own.below bd).put HH1.out y, ps.1, pf.1, by have := I2.len; omega⟩
          simp only [ov, oe]
          clear HD2 HP3 HP4 I2 pf ps
          go_wp2
          go_roundw
          case rel => exact ⟨k + 1, N, d, _, _, by omega, by go_num, rfl, I3, HA2⟩
          case measure => simp [intOf]; omega
      · have hFf : Hid (FF = false) := by
          show _ = _
          rw [HFF.out, HNL.out]
          simp only [Bool.and_eq_false_iff, decide_eq_false_iff_not]
          by_cases e : p < cts.length
          · right; intro e2; exact h1 ⟨e, e2⟩
          · left; exact e
        obtain ⟨x0, x1, _, _⟩ := two_cells F3
        have HP2 := hide (h2 ⟨S, v, so, sd⟩ rfl)
        have hw2 := I2.bel.size
        have hlt2 : ∀ g, (Value.slice co N d).ownBlock = some g → g < w2.heap.size := fun g hg => (own_base I2.own.own g hg).2
        have belB : Below w2.heap.size w2 (w2.alloc (.cells #[.slice so sn sd, .int .i64 v] 44)) := (Below.refl _ _).alloc (Nat.le_refl _) _
        have IB := I2.call belB
        have FB : (w2.alloc (.cells #[.slice so sn sd, .int .i64 v] 44)).heap[w2.heap.size]? = some (.cells #[.slice so sn sd, .int .i64 v] 44 (0, 0)) := heap_alloc_new _ _
        have PI := hide (ins_any cts ⟨S, v, so, sd⟩ W.heap.size N d p w2.heap.size sn co _ IB.own (by rw [HNL.out]; exact HPP.out) hN8 IB.bel.size FB HSN.out (fun e => by have := hlt2 _ e; omega) (segS2.below belB))
        have hFf2 := hFf.out
        subst hFf2
        clear h1 h2 HFF
        go_wp2_with fail
        refine PI.out.mono ?_
        rintro e w3 ⟨co', d', rfl, own3, gr3⟩
        have belC : Below W.heap.size W w3 := IB.bel.grown gr3 IB.bel.size (fun j hj => (own_base IB.own.own j hj).1)
        have pf := put_fine hS4 hv2 IB.fin HP2.out
        have ps := put_srt x S v (cls cts) IB.srt _ HP2.out
        have I3 : AI W w3 co' (N + 1) d' (k + 1) (cts.take p ++ ⟨S, v, so, sd⟩ :: cts.drop p) := ⟨belC, own3, ps.1, pf.1, by have := IB.len; omega⟩
        have HA2 : Hid (allA x ks [] (cls l) = allA x ks (cls (cts.take p ++ ⟨S, v, so, sd⟩ :: cts.drop p)) (cls (l.drop (k + 1)))) := HD2.out _ HP2.out
        clear PI own3 gr3 belC pf ps IB I2 belB FB x0 x1 F3 HD2 HP2
        go_wp2
        go_roundw
        case rel => exact ⟨k + 1, N + 1, d', co', _, by omega, by go_num, rfl, I3, HA2⟩
        case measure => simp [intOf]; omega
    · have he : k = n := by omega
      subst he
      have hd : l.drop k = [] := List.drop_eq_nil_of_le (by rw [← HN.out]; exact Nat.le_refl _)
      have HE : Hid (((allA x ks [] (cls l)).map fun c => (⟨false, c⟩ : Mn)) = some ⟨false, cls cts⟩) := by
        show _ = _
        rw [HA.out, hd]; rfl
      have bel := I.bel
      have hlen := hide I.own.len
      have own := I.own
      obtain ⟨r0, r1, r2, r3⟩ := two_cells (below_block bel F0)
      clear HA hd I HN
      go_wp2
      refine bodyPost_ret (v := .tuple #[.agg #[.bool false, .slice co N d], .int .i64 0]) (by simp [results, Try.results38, go_sem, r0, r1]) rfl ?_
      have hw0 : w.heap.size < W.heap.size := lt_of_block F0
      have belw : Below w.heap.size w wr := bel0.trans (bel.mono bel0.size)
      have bel2 : Below w.heap.size w ((wr.setCell ⟨w.heap.size, 0, none⟩ (.bool false)).setCell ⟨w.heap.size, 1, none⟩ (.slice co N d)) := (belw.setCell (Nat.le_refl _) _).setCell (Nat.le_refl _) _
      have own2 := ownsRow_setCell_below (ownsRow_setCell_below own.own (a := ⟨w.heap.size, 0, none⟩) hw0 (.bool false)) (a := ⟨w.heap.size, 1, none⟩) hw0 (.slice co N d)
      obtain ⟨ao', c', hv, hseg, _⟩ := own_open own2
      simp only [Value.slice.injEq] at hv
      obtain ⟨rfl, -, rfl⟩ := hv
      have FB := below_block bel F0
      refine ⟨.inr ⟨false, cts, co, N, d, rfl, HE.out, hlen.out, ⟨hseg, fun c hc => ?_⟩⟩, bel2⟩
      have h1 := seg_far (own.ser c hc).seg FB (o := 0) (.bool false)
      have FC : (wr.setCell ⟨w.heap.size, 0, none⟩ (.bool false)).heap[w.heap.size]? = some (.cells #[.bool false, .slice none 0 0] 56 (0, 0)) := by simp [World.setCell, Array.getElem?_modify, FB]
      exact seg_far h1 FC (.slice co N d)

end Go.Proofs.Ytjgdjbphelkdoad

/-
  What comes to something is within its bounds; the walk of Ask's window.
-/
namespace Go.GrainU
open Go.RowKit

/-- cells within their bounds; a number has one -/
structure Gd (m : Mn) : Prop where
  fine : ∀ c ∈ m.cs, Fine c
  len : m.cs.length ≤ 8
  num : m.num = true → 0 < m.cs.length

theorem winX_len (x : Ln) (h : Hd) (time : Int) : (winX x h time).length ≤ 1 := by
  unfold winX
  split
  · split <;> simp
  · simp

theorem winC_len : ∀ (l : List Ln) (h : Hd) (time : Int), (winC l h time).length ≤ l.length
  | [], _, _ => by simp [winC]
  | x :: r, h, time => by
    have h1 := winX_len x h time
    have h2 := winC_len r h time
    simp only [winC, List.length_append, List.length_cons]
    omega

theorem Grain_win_val {l : List (Int × Int)} (h : Grain.Right l) (a b : Int) : ∀ x ∈ Grain.win l a b, -1000000000 ≤ x.2 ∧ x.2 ≤ 1000000000 := by
  intro y hy
  have hy' := (List.mem_filter.1 hy).1
  obtain ⟨q, hq, rfl⟩ := List.mem_iff_getElem.1 hy'
  have := h.rng q hq
  simp [Grain.vl, List.getD, List.getElem?_eq_getElem hq] at this
  omega

theorem winV_bd {x : Ln} (h : Grain.Right x.2) (hd : Hd) (time : Int) : -W1 ≤ (winV x hd time).1 ∧ (winV x hd time).1 ≤ W1 := by
  have hl : (Grain.win x.2 (time - hd.range) time).length ≤ 500 := Nat.le_trans (Grain.win_len _ _ _) h.few
  exact valP_bd (of_ok (Grain_win_val h _ _) hl) (by omega) (by omega) _

theorem winC_fine : ∀ (l : List Ln), (∀ x ∈ l, x.1.length ≤ 4 ∧ Grain.Right x.2) → ∀ (h : Hd) (time : Int), ∀ c ∈ winC l h time, -W1 ≤ c.2 ∧ c.2 ≤ W1 ∧ c.1.length ≤ 4
  | [], _, _, _, c, hc => by simp [winC] at hc
  | x :: r, hl, h, time, c, hc => by
    simp only [winC, List.mem_append] at hc
    rcases hc with e | e
    · have hx := hl x (by simp)
      unfold winX at e
      split at e
      · split at e
        · simp at e
          rw [e]
          exact ⟨(winV_bd hx.2 h time).1, (winV_bd hx.2 h time).2, hx.1⟩
        · simp at e
      · simp at e
    · exact winC_fine r (fun y hy => hl y (by simp [hy])) h time c e

theorem W1_MC : W1 ≤ MC := by decide

theorem gd_win {l : List Ln} (hl : ∀ x ∈ l, x.1.length ≤ 4 ∧ Grain.Right x.2) (h8 : l.length ≤ 8) (h : Hd) (time : Int) : Gd ⟨false, winC l h time⟩ :=
  ⟨fun c hc => by
    have := winC_fine l hl h time c hc
    have := W1_MC
    exact ⟨by omega, by omega, by omega⟩, Nat.le_trans (winC_len l h time) h8, fun e => by cases e⟩

theorem allA_gd {w : ByteArray} {ks : List ByteArray} : ∀ (l out : List Cl), (∀ c ∈ l, Fine c) → (∀ c ∈ out, Fine c) → ∀ r, allA w ks out l = some r → (∀ c ∈ r, Fine c) ∧ r.length ≤ out.length + l.length
  | [], out, _, ho, r, h => by
    simp [allA] at h
    subst h
    exact ⟨ho, by simp⟩
  | c :: q, out, hl, ho, r, h => by
    have fc := hl c (by simp)
    have hv : -MC ≤ one1 w c.2 ∧ one1 w c.2 ≤ MC := by
      unfold one1
      split
      · simp [MC]
      · exact ⟨fc.1, fc.2.1⟩
    have hs : (only c.1 ks).length ≤ 4 := Nat.le_trans (only_len c.1 ks) fc.2.2
    rw [allA] at h
    cases hp : putA w (only c.1 ks) (one1 w c.2) out with
    | none => rw [hp] at h; cases h
    | some o =>
      rw [hp] at h
      obtain ⟨i1, i2⟩ := put_fine hs hv ho hp
      obtain ⟨j1, j2⟩ := allA_gd q o (fun x hx => hl x (by simp [hx])) i1 r h
      exact ⟨j1, by simp; omega⟩

theorem binA_gd {a b : Mn} {w : ByteArray} (fb : ∀ c ∈ b.cs, Fine c) : ∀ (l acc : List Cl), (∀ c ∈ l, Fine c) → (∀ c ∈ acc, Fine c) → ∀ r, binA a b w acc l = some r → (∀ c ∈ r, Fine c) ∧ r.length ≤ acc.length + l.length ∧ acc.length ≤ r.length
  | [], acc, _, ha, r, h => by
    simp [binA] at h
    subst h
    exact ⟨ha, by simp, Nat.le_refl _⟩
  | c :: q, acc, hl, ha, r, h => by
    have fc := hl c (by simp)
    have hq : ∀ x ∈ q, Fine x := fun x hx => hl x (by simp [hx])
    cases h1 : atM a c.1 with
    | none =>
      rw [binA_no (.inl h1)] at h
      obtain ⟨j1, j2, j3⟩ := binA_gd fb q acc hq ha r h
      exact ⟨j1, by simp; omega, j3⟩
    | some x =>
      cases h2 : atM b c.1 with
      | none =>
        rw [binA_no (.inr h2)] at h
        obtain ⟨j1, j2, j3⟩ := binA_gd fb q acc hq ha r h
        exact ⟨j1, by simp; omega, j3⟩
      | some y =>
        cases h3 : wkd w x y with
        | none => rw [binA_bad h1 h2 h3] at h; cases h
        | some v =>
          rw [binA_yes h1 h2 h3] at h
          have bv := wkd_bd (atM_fine fb h2) h3
          obtain ⟨j1, j2, j3⟩ := binA_gd fb q (acc ++ [(c.1, v)]) hq (fun z hz => by
            rcases List.mem_append.1 hz with e | e
            · exact ha z e
            · simp at e; rw [e]; exact ⟨bv.1, bv.2, fc.2.2⟩) r h
          exact ⟨j1, by simp at j2 ⊢; omega, by simp at j3; omega⟩

theorem gd_all {w : ByteArray} {ks : List ByteArray} {m r : Mn} (g : Gd m) (h : ((allA w ks [] m.cs).map fun c => (⟨false, c⟩ : Mn)) = some r) : Gd r := by
  cases hq : allA w ks [] m.cs with
  | none => rw [hq] at h; cases h
  | some q =>
    rw [hq] at h
    simp at h
    subst h
    obtain ⟨i1, i2⟩ := allA_gd m.cs [] g.fine (fun c hc => by cases hc) q hq
    exact ⟨i1, by have := g.len; simp at i2 ⊢; omega, fun e => by cases e⟩

theorem gd_bin {w : ByteArray} {a b r : Mn} (ga : Gd a) (gb : Gd b) (h : binM a b w = some r) : Gd r := by
  unfold binM at h
  cases hq : binA a b w [] (fromM a b).cs with
  | none => rw [hq] at h; cases h
  | some q =>
    rw [hq] at h
    simp at h
    subst h
    have gf : Gd (fromM a b) := by unfold fromM; split <;> assumption
    obtain ⟨i1, i2, _⟩ := binA_gd gb.fine (fromM a b).cs [] gf.fine (fun c hc => by cases hc) q hq
    refine ⟨i1, by have := gf.len; simp at i2 ⊢; omega, fun e => ?_⟩
    have hn := gf.num e
    have ha : a.num = true := by
      unfold fromM at e
      split at e
      · assumption
      · exact e
    have hb : b.num = true := by
      unfold fromM at e
      rw [if_pos ha] at e
      exact e
    cases hc : (fromM a b).cs with
    | nil => rw [hc] at hn; simp at hn
    | cons c s =>
      rw [hc] at hq
      have h1 : atM a c.1 = some (cl0 a.cs) := by simp [atM, ha]
      have h2 : atM b c.1 = some (cl0 b.cs) := by simp [atM, hb]
      cases h3 : wkd w (cl0 a.cs) (cl0 b.cs) with
      | none => rw [binA_bad h1 h2 h3] at hq; cases hq
      | some v =>
        rw [binA_yes h1 h2 h3] at hq
        have fc : Fine c := by
          have := (show Gd (fromM a b) from by unfold fromM; split <;> assumption).fine c (by rw [hc]; simp)
          exact this
        have bv := wkd_bd (atM_fine gb.fine h2) h3
        have fs : ∀ x ∈ s, Fine x := fun x hx => (show Gd (fromM a b) from by unfold fromM; split <;> assumption).fine x (by rw [hc]; simp [hx])
        obtain ⟨_, _, j3⟩ := binA_gd gb.fine s ([] ++ [(c.1, v)]) fs (fun z hz => by simp at hz; rw [hz]; exact ⟨bv.1, bv.2, fc.2.2⟩) q hq
        simp at j3
        exact j3

end Go.GrainU
namespace Go.Proofs.Ytjgdjbphelkdoad
open Go.RowKit Go.GrainU

/-- lines in memory, and a time, as Ask's window finds them -/
structure AskIn (w : World) (B1 B2 : Nat) (l : List LT) (ao : Option Addr) (n cap : Nat) (time : Int) : Prop where
  c1 : w.cell? ⟨B1, 0, none⟩ = some (.slice ao n cap)
  c2 : w.cell? ⟨B2, 0, none⟩ = some (.int .i64 time)
  seg : Seg w ao (tcells l)
  lns : LnsIn w l

theorem AskIn.below {w w' : World} {B1 B2 : Nat} {l : List LT} {ao : Option Addr} {n cap : Nat} {time : Int} (h : AskIn w B1 B2 l ao n cap time) (hb : Below w.heap.size w w') : AskIn w' B1 B2 l ao n cap time :=
  ⟨(hb.cell (p := ⟨B1, 0, none⟩) (World.block_lt_of_cell? w _ h.c1)).trans h.c1, (hb.cell (p := ⟨B2, 0, none⟩) (World.block_lt_of_cell? w _ h.c2)).trans h.c2, h.seg.below hb, h.lns.below hb⟩

set_option maxRecDepth 100000 in
set_option maxHeartbeats 1000000 in
theorem mask1_any (l : List LT) (t : ET) (time : Int) (ao : Option Addr) (n cap B1 B2 : Nat) (w : World) (hA : AskIn w B1 B2 l ao n cap time) (hR : ∀ x ∈ l, LnRt x) (hin : t.In w) (hn : n = l.length) (hn8 : n ≤ 8) (hr0 : 1 ≤ t.hd.range) (hr1 : t.hd.range ≤ 100000) (ht0 : 0 ≤ time) (ht1 : time ≤ 1000000) :
    Calls Try.prog 20 #[eval t, .pointer (some ⟨B1, 0, none⟩), .pointer (some ⟨B2, 0, none⟩)] w fun e w' => ∃ cts co N d, e = .returned (.slice co N d) ∧ N = cts.length ∧ CsIn w' co cts ∧ cls cts = winC (lns l) t.hd time ∧ Below w.heap.size w w' := by
  have P := hide (fun w' (hb : Below w.heap.size w w') => mwin_any l t time ao n cap w' (hA.seg.below hb) (hA.lns.below hb) hR (ET.In.below hb t hin) hn hn8 hr0 hr1 ht0 ht1)
  have k1 := hA.c1
  have k2 := hA.c2
  have l1 : B1 < w.heap.size := World.block_lt_of_cell? w _ k1
  have l2 : B2 < w.heap.size := World.block_lt_of_cell? w _ k2
  clear hA hR hin hn hn8 hr0 hr1 ht0 ht1
  unfold eval at P ⊢
  generalize winC (lns l) t.hd time = RR at P ⊢
  generalize t.hd.ms.length = ml at P ⊢
  generalize t.hd.bs.length = bl at P ⊢
  generalize t.kids.length = kl at P ⊢
  obtain ⟨W, hW⟩ : ∃ W, W = w.alloc (.cells #[.int .i64 t.hd.kind, .int .i64 t.hd.n, .int .i64 t.hd.range, .string t.hd.word, .slice t.sp.ma ml t.sp.mc, .slice t.sp.ba bl t.sp.bc, .slice t.sp.ka kl t.sp.kc] 27) := ⟨_, rfl⟩
  have bel0 : Below w.heap.size w W := by rw [hW]; exact (Below.refl _ _).alloc (Nat.le_refl _) _
  have HW := hide hW
  clear hW
  go_enter Try.func20, Try.ntmps20
  go_wp2_with fail
  rw [← HW.out]
  refine (P.out W bel0).mono ?_
  rintro e w1 ⟨cts, co, N, d, rfl, hN, hC, hE, b1⟩
  have b2 : Below w.heap.size w w1 := bel0.trans (b1.mono bel0.size)
  have HN := hide hN
  have HE := hide hE
  clear hN hE
  go_wp2
  go_ret
  exact ⟨cts, co, N, d, rfl, HN.out, hC, HE.out, b2⟩

end Go.Proofs.Ytjgdjbphelkdoad

/-
  The walk of comesTo.
-/
namespace Go.GrainU
open Go.RowKit

/-- cells lie in another block than a meaning -/
theorem segc_far {w : World} {ao : Option Addr} {s : List CT} {B t o : Nat} {f : Bool} {a : Option Addr} {n c : Nat} {fr : Nat × Nat} (h : Seg w ao (ccells s)) (hB : w.heap[B]? = some (.cells #[.bool f, .slice a n c] t fr)) (v : Value) : Seg (w.setCell ⟨B, o, none⟩ v) ao (ccells s) := by
  rcases h with h | ⟨b, off, rfl, h⟩
  · exact .inl h
  · cases s with
    | nil => exact .inl rfl
    | cons x r =>
      have h0 := h 0 (by simp [ccells])
      have h1 := h 1 (by simp [ccells])
      have hne : b ≠ B := by
        intro e
        subst e
        simp [World.cell?, hB, ccells] at h0 h1
        match off, h0, h1 with
        | 0, h0, h1 => simp at h0
        | 1, h0, h1 => simp at h1
        | q + 2, h0, h1 => simp at h0
      refine .inr ⟨b, off, rfl, fun j hj => ?_⟩
      rw [cell_of_block (setCell_far hne)]
      exact h j hj

theorem CsIn.far {w : World} {co : Option Addr} {s : List CT} {B t o : Nat} {f : Bool} {a : Option Addr} {n c : Nat} {fr : Nat × Nat} (h : CsIn w co s) (hB : w.heap[B]? = some (.cells #[.bool f, .slice a n c] t fr)) (v : Value) : CsIn (w.setCell ⟨B, o, none⟩ v) co s :=
  ⟨segc_far h.seg hB v, fun x hx => seg_far (h.ser x hx) hB v⟩

theorem fst_set {w : World} {B : Nat} {x y : Value} {t : TypeId} (h : w.heap[B]? = some (.cells #[x, y] t (0, 0))) (q : Value) : (w.setCell ⟨B, 0, none⟩ q).heap[B]? = some (.cells #[q, y] t (0, 0)) := by
  simp [World.setCell, Array.getElem?_modify, h]

/-- nothing stored where a meaning lies, and a block made -/
theorem err_done {w : World} {R : Nat} {t : TypeId} (h : w.heap[R]? = some (.cells #[.bool false, .slice none 0 0] t (0, 0))) (o : Obj) :
    (((w.setCell ⟨R, 0, none⟩ (.bool false)).setCell ⟨R, 1, none⟩ (.slice none 0 0)).alloc o).cell? ⟨R, 0, none⟩ = some (.bool false) ∧ (((w.setCell ⟨R, 0, none⟩ (.bool false)).setCell ⟨R, 1, none⟩ (.slice none 0 0)).alloc o).cell? ⟨R, 1, none⟩ = some (.slice none 0 0) := by
  have h1 := two_set h (.bool false) (.slice none 0 0)
  have h2 : (((w.setCell ⟨R, 0, none⟩ (.bool false)).setCell ⟨R, 1, none⟩ (.slice none 0 0)).alloc o).heap[R]? = some (.cells #[.bool false, .slice none 0 0] t (0, 0)) := by
    rw [Below.heap_alloc _ _ _ (lt_of_block h1)]; exact h1
  obtain ⟨a, b, _, _⟩ := two_cells h2
  exact ⟨a, b⟩

theorem below_err {w w1 : World} {R : Nat} (bw : Below w.heap.size w w1) (hR : w.heap.size ≤ R) (o : Obj) : Below w.heap.size w (((w1.setCell ⟨R, 0, none⟩ (.bool false)).setCell ⟨R, 1, none⟩ (.slice none 0 0)).alloc o) := by
  have b2 : Below w.heap.size w ((w1.setCell ⟨R, 0, none⟩ (.bool false)).setCell ⟨R, 1, none⟩ (.slice none 0 0)) := (bw.setCell hR _).setCell hR _
  exact b2.alloc b2.size _

/-- a meaning stored where a meaning lies: the cells are where they were -/
theorem CsIn.stored {w : World} {co : Option Addr} {s : List CT} {B t : Nat} (h : CsIn w co s) (hB : w.heap[B]? = some (.cells #[.bool false, .slice none 0 0] t (0, 0))) (f : Bool) (v : Value) : CsIn ((w.setCell ⟨B, 0, none⟩ (.bool f)).setCell ⟨B, 1, none⟩ v) co s :=
  (h.far hB (.bool f)).far (fst_set hB (.bool f)) v

theorem ev_num {l : List Ln} {time : Int} {h : Hd} {kids : List Ex} (e : h.kind = 1) : ev l time (.mk h kids) = some ⟨true, [([], h.n)]⟩ := by rw [ev, if_pos e]
theorem ev_win {l : List Ln} {time : Int} {h : Hd} {kids : List Ex} (e : h.kind = 2) : ev l time (.mk h kids) = some ⟨false, winC l h time⟩ := by rw [ev, if_neg (by omega), if_pos e]
theorem ev_all {l : List Ln} {time : Int} {h : Hd} {k : Ex} (e : h.kind = 3) : ev l time (.mk h [k]) = (ev l time k).bind fun m => (allA h.word h.bs [] m.cs).map fun c => ⟨false, c⟩ := by
  rw [ev, if_neg (by omega), if_neg (by omega), evL]
  cases ev l time k with
  | none => rfl
  | some m => simp [evL, e]
theorem ev_bin {l : List Ln} {time : Int} {h : Hd} {a b : Ex} (e : h.kind = 4) : ev l time (.mk h [a, b]) = (ev l time a).bind fun m => (ev l time b).bind fun m' => binM m m' h.word := by
  rw [ev, if_neg (by omega), if_neg (by omega), evL]
  cases ev l time a with
  | none => rfl
  | some m =>
    cases hb : ev l time b with
    | none => simp [evL, hb]
    | some m' => simp [evL, hb, e]

theorem ev_gd {l : List Ln} (hl : ∀ x ∈ l, x.1.length ≤ 4 ∧ Grain.Right x.2) (h8 : l.length ≤ 8) (time : Int) : ∀ x : Ex, Rt x → ∀ m, ev l time x = some m → Gd m := by
  refine Ex.ind ?_
  intro h kids ih hr m hm
  obtain ⟨ha, hk⟩ := hr.parts
  rcases alone_cases ha with ⟨e, k0, n0, n1⟩ | ⟨e, k0, wb⟩ | ⟨e, k0, ab⟩ | ⟨e, k0, sg⟩
  · rw [ev_num e] at hm
    simp at hm
    subst hm
    refine ⟨fun c hc => ?_, by simp, fun _ => by simp⟩
    simp at hc
    rw [hc]
    exact ⟨by simp [MC]; omega, by simp [MC]; omega, by simp⟩
  · rw [ev_win e] at hm
    simp at hm
    subst hm
    exact gd_win hl h8 h time
  · match kids, k0 with
    | [k], _ =>
      rw [ev_all e] at hm
      cases hq : ev l time k with
      | none => rw [hq] at hm; simp at hm
      | some q =>
        rw [hq] at hm
        exact gd_all (ih k (by simp) (hk k (by simp)) q hq) hm
  · match kids, k0 with
    | [a, b], _ =>
      rw [ev_bin e] at hm
      cases hq : ev l time a with
      | none => rw [hq] at hm; simp at hm
      | some q =>
        rw [hq] at hm
        cases hq' : ev l time b with
        | none => rw [hq'] at hm; simp at hm
        | some q' =>
          rw [hq'] at hm
          exact gd_bin (ih a (by simp) (hk a (by simp)) q hq) (ih b (by simp) (hk b (by simp)) q' hq') hm

end Go.GrainU
namespace Go.Proofs.Ytjgdjbphelkdoad
open Go.RowKit Go.GrainU

set_option maxRecDepth 100000 in
set_option maxHeartbeats 8000000 in
theorem mcomes_any (l : List LT) (time : Int) (ao : Option Addr) (n cap B1 B2 : Nat) (hR : ∀ x ∈ l, LnRt x) (hn : n = l.length) (hn8 : n ≤ 8) (ht0 : 0 ≤ time) (ht1 : time ≤ 1000000) : ∀ t : ET, ∀ w : World, AskIn w B1 B2 l ao n cap time → t.In w → Rt t.ex →
    Calls Try.prog 19 #[eval t, .func (.func 20) #[] #[.pointer (some ⟨B1, 0, none⟩), .pointer (some ⟨B2, 0, none⟩)]] w fun e w' => MPost (ev (lns l) time t.ex) e w' ∧ Below w.heap.size w w' := by
  have hgd := ev_gd (l := lns l) (fun x hx => by
    obtain ⟨y, hy, rfl⟩ := List.mem_map.1 hx
    exact ⟨(hR y hy).ser, (hR y hy).smp⟩) (by rw [lns_len, ← hn]; exact hn8) time
  have HGD := hide hgd
  clear hgd
  refine ET.ind ?_
  intro h s kids ih w hA hin hrt
  have P1 := hide (fun w' (hb : Below w.heap.size w w') h0 h1 => mask1_any l (.node h s kids) time ao n cap B1 B2 w' (hA.below hb) hR (ET.In.below hb _ hin) hn hn8 h0 h1 ht0 ht1)
  have HA := hide hA
  have HIN := hide hin
  have HRT := hide hrt
  clear hA hrt hR hn hn8 ht0 ht1
  obtain ⟨kd, en, rg, wd, ms, bs⟩ := h
  obtain ⟨ma, mc, ba, bc, ka, kc⟩ := s
  simp only [ET.In] at hin
  obtain ⟨⟨sm, sb, sk⟩, ⟨lm, lb, lk, -⟩, hkin⟩ := hin
  obtain ⟨halone, hkr⟩ := Rt.parts (show Rt (.mk ⟨kd, en, rg, wd, ms, bs⟩ (exL kids)) from HRT.out)
  rw [exL_length] at halone
  unfold eval at P1 ⊢
  simp only [ET.hd, ET.sp, ET.kids] at P1 ⊢
  obtain ⟨ml, hml⟩ : ∃ ml, ml = ms.length := ⟨_, rfl⟩
  obtain ⟨bl, hbl⟩ : ∃ bl, bl = bs.length := ⟨_, rfl⟩
  obtain ⟨kl, hkl⟩ : ∃ kl, kl = kids.length := ⟨_, rfl⟩
  rw [← hml, ← hbl, ← hkl] at P1 ⊢
  obtain ⟨W, hW⟩ : ∃ W, W = (w.alloc (.cells #[.int .i64 kd, .int .i64 en, .int .i64 rg, .string wd, .slice ma ml mc, .slice ba bl bc, .slice ka kl kc] 27)).alloc (.cells #[.bool false, .slice none 0 0] 56) := ⟨_, rfl⟩
  have bel0 : Below w.heap.size w W := by rw [hW]; exact ((Below.refl _ _).alloc (Nat.le_refl _) _).alloc (by simp) _
  have F0 : W.heap[w.heap.size]? = some (.cells #[.int .i64 kd, .int .i64 en, .int .i64 rg, .string wd, .slice ma ml mc, .slice ba bl bc, .slice ka kl kc] 27 (0, 0)) := by rw [hW, Below.heap_alloc _ _ _ (by simp)]; exact heap_alloc_new w _
  have G0 : W.heap[w.heap.size + 1]? = some (.cells #[.bool false, .slice none 0 0] 56 (0, 0)) := by
    have := heap_alloc_new (w.alloc (.cells #[.int .i64 kd, .int .i64 en, .int .i64 rg, .string wd, .slice ma ml mc, .slice ba bl bc, .slice ka kl kc] 27)) (.cells #[.bool false, .slice none 0 0] 56)
    rw [hW]; simpa using this
  have HW := hide hW
  have HKL := hide hkl
  have HML := hide hml
  have HBL := hide hbl
  clear hml hbl hkl hW
  rcases alone_cases halone with ⟨e, k0, n0, n1⟩ | ⟨e, k0, wb⟩ | ⟨e, k0, ab⟩ | ⟨e, k0, sg⟩
  · have HE : Hid (ev (lns l) time (ET.node ⟨kd, en, rg, wd, ms, bs⟩ ⟨ma, mc, ba, bc, ka, kc⟩ kids).ex = some ⟨true, [([], en)]⟩) := ev_num e
    simp only at e
    subst e
    rw [HE.out]
    clear HE ih P1 HA HIN HRT F0 G0 halone
    go_enter Try.func19, Try.ntmps19
    go_wp2
    refine bodyPost_ret (v := .tuple #[.agg #[.bool true, .slice (some ⟨w.heap.size + 1 + 1, 0, none⟩) 1 1], .int .i64 0]) (by simp [results, Try.results19, go_sem]) rfl ⟨.inr ⟨true, [⟨[], en, none, 0⟩], some ⟨w.heap.size + 1 + 1, 0, none⟩, 1, 1, rfl, rfl, rfl, ?_, ?_⟩, ?_⟩
    · have := seg_new ((w.alloc (.cells #[.int .i64 1, .int .i64 en, .int .i64 rg, .string wd, .slice ma ml mc, .slice ba bl bc, .slice ka kl kc] 27)).alloc (.cells #[.bool true, .slice (some ⟨w.heap.size + 1 + 1, 0, none⟩) 1 1] 56)) #[.slice none 0 0, .int .i64 en] 44
      simpa [ccells] using this
    · intro c hc
      simp at hc
      rw [hc]
      exact .inl rfl
    · exact (((Below.refl _ _).alloc (Nat.le_refl _) _).alloc (by simp) _).alloc (by simp; omega) _
  · have HE : Hid (ev (lns l) time (ET.node ⟨kd, en, rg, wd, ms, bs⟩ ⟨ma, mc, ba, bc, ka, kc⟩ kids).ex = some ⟨false, winC (lns l) ⟨kd, en, rg, wd, ms, bs⟩ time⟩) := ev_win e
    obtain ⟨_, _, _, hr0, hr1⟩ := winBad_ok wb
    have P2 := hide (fun w' (hb : Below w.heap.size w w') => P1.out w' hb hr0 hr1)
    generalize winC (lns l) ⟨kd, en, rg, wd, ms, bs⟩ time = RR at P2 HE
    simp only at e
    subst e
    rw [HE.out]
    clear HE ih P1 HA HIN HRT halone hr0 hr1
    obtain ⟨p0, p1, p2, p3, p4, p5, p6⟩ := seven_cells F0
    go_enter Try.func19, Try.ntmps19
    go_wp2_with fail
    rw [← HW.out]
    refine (P2.out W bel0).mono ?_
    rintro e w1 ⟨cts, co, N, d, rfl, hN, hC, hE, b1⟩
    have G1 := below_block b1 G0
    obtain ⟨t0, t1, t2, t3⟩ := two_cells G1
    have HN := hide hN
    have HE := hide hE
    have bw : Below w.heap.size w w1 := bel0.trans (b1.mono bel0.size)
    clear hN hE p0 p1 p2 p3 p4 p5 p6
    go_wp2
    refine bodyPost_ret (v := .tuple #[.agg #[.bool false, .slice co N d], .int .i64 0]) (by simp [results, Try.results19, go_sem, t0, t1]) rfl ⟨.inr ⟨false, cts, co, N, d, rfl, by rw [HE.out], HN.out, hC.stored G1 false _⟩, (bw.setCell (by show w.heap.size ≤ w.heap.size + 1; omega) _).setCell (by show w.heap.size ≤ w.heap.size + 1; omega) _⟩
  · match kids, k0, HKL, sk, hkin, hkr, ih, HRT with
    | [k], _, HKL, sk, hkin, hkr, ih, HRT =>
      have HE : Hid (ev (lns l) time (ET.node ⟨kd, en, rg, wd, ms, bs⟩ ⟨ma, mc, ba, bc, ka, kc⟩ [k]).ex = (ev (lns l) time k.ex).bind fun m => (allA wd bs [] m.cs).map fun c => ⟨false, c⟩) := ev_all e
      have hk1 : kl = 1 := by rw [HKL.out]; rfl
      obtain ⟨b, off, rfl, hb, hcell⟩ := seg_expr sk (k := 0) (by simp)
      have hc7 : Cells7 w b off k := by simpa using hcell 0 (by simp)
      obtain ⟨c0, c1, c2, c3, c4, c5, c6⟩ := hc7
      have PI := hide (fun w' (hb : Below w.heap.size w w') => ih k (by simp) w' (HA.out.below hb) (ET.In.below hb k (inL_mem hkin k (by simp))) (hkr k.ex (by simp [exL])))
      generalize hev : ev (lns l) time k.ex = O at PI HE
      have HO := hide hev
      have rk := hide (hkr k.ex (by simp [exL]))
      simp only at e
      subst e
      subst hk1
      rw [HE.out]
      clear ih hev HIN HRT halone P1 hkr hkin sk
      unfold eval at PI
      obtain ⟨RES, hRES⟩ : ∃ RES, RES = (O.bind fun m => (allA wd bs [] m.cs).map fun c => (⟨false, c⟩ : Mn)) := ⟨_, rfl⟩
      rw [← hRES]
      have HRES := hide hRES
      clear hRES
      go_enter Try.func19, Try.ntmps19
      go_wp2_with fail
      rw [← HW.out]
      refine (PI.out W bel0).mono ?_
      rintro e w1 ⟨hp, b1⟩
      have G1 := below_block b1 G0
      have F1 := below_block b1 F0
      have bw : Below w.heap.size w w1 := bel0.trans (b1.mono bel0.size)
      have HP := hide hp
      clear hp c0 c1 c2 c3 c4 c5 c6 PI
      obtain ⟨t0, t1, t2, t3⟩ := two_cells G1
      rcases HP.out with ⟨ho, he⟩ | ⟨nb, cts, co, N, d, he, ho, hN, hC⟩
      · rw [he]
        have HE2 : Hid (RES = none) := by show _ = _; rw [HRES.out, ho]; rfl
        have l1 : w.heap.size + 1 < w1.heap.size := lt_of_block G1
        clear HP ho HRES HE he HO
        go_wp2
        exact bodyPost_ret (v := .tuple #[.agg #[.bool false, .slice none 0 0], .int .i64 3]) (by simp [results, Try.results19, go_sem, (err_done G1 (.cells #[.bool false, .slice none 0 0] 56)).1, (err_done G1 (.cells #[.bool false, .slice none 0 0] 56)).2]) rfl ⟨.inl ⟨HE2.out, rfl⟩, below_err bw (by omega) _⟩
      · rw [he]
        have HE2 : Hid (RES = (allA wd bs [] (cls cts)).map fun c => (⟨false, c⟩ : Mn)) := by show _ = _; rw [HRES.out, ho]; rfl
        have gd := HGD.out k.ex rk.out ⟨nb, cls cts⟩ (HO.out.trans ho)
        obtain ⟨V, hV⟩ : ∃ V, V = w1.alloc (.cells #[.bool nb, .slice co N d] 56) := ⟨_, rfl⟩
        have bV : Below w1.heap.size w1 V := by rw [hV]; exact (Below.refl _ _).alloc (Nat.le_refl _) _
        have hN8 : N ≤ 8 := by rw [hN, ← cls_len]; exact gd.len
        have PAl := hide (mall_any cts bs wd co ba N d bl bc V (hC.below bV) ((sb.below bw).below bV) hN HBL.out (by rw [HBL.out]; omega) gd.fine hN8)
        have HV := hide hV
        obtain ⟨p0, p1, p2, p3, p4, p5, p6⟩ := seven_cells F1
        have l0 : w.heap.size < w1.heap.size := lt_of_block F1
        have l1 : w.heap.size + 1 < w1.heap.size := lt_of_block G1
        have G2 := below_block bV G1
        have bW : Below w.heap.size w V := bw.trans (bV.mono bw.size)
        clear HP ho HRES HE he HO hV gd hC hN
        go_wp2_with fail
        rw [← HV.out]
        refine PAl.out.mono ?_
        rintro e w2 ⟨hp, b2⟩
        have G3 := below_block b2 G2
        have bX : Below w.heap.size w w2 := bW.trans (b2.mono bW.size)
        obtain ⟨t0, t1, t2, t3⟩ := two_cells G3
        have HP := hide hp
        clear hp PAl p0 p1 p2 p3 p4 p5 p6
        rcases HP.out with ⟨ho, he⟩ | ⟨nb2, cts2, co2, N2, d2, he, ho, hN, hC⟩
        · rw [he]
          have HE3 : Hid (RES = none) := by show _ = _; rw [HE2.out, ho]
          clear HP ho he HE2
          go_wp2
          exact bodyPost_ret (v := .tuple #[.agg #[.bool false, .slice none 0 0], .int .i64 3]) (by simp [results, Try.results19, go_sem, t0, t1]) rfl ⟨.inl ⟨HE3.out, rfl⟩, (bX.setCell (by show w.heap.size ≤ w.heap.size + 1; omega) _).setCell (by show w.heap.size ≤ w.heap.size + 1; omega) _⟩
        · rw [he]
          have HE3 : Hid (RES = some ⟨nb2, cls cts2⟩) := by show _ = _; rw [HE2.out, ho]
          have HN2 := hide hN
          clear HP ho he HE2 hN
          go_wp2
          exact bodyPost_ret (v := .tuple #[.agg #[.bool nb2, .slice co2 N2 d2], .int .i64 0]) (by simp [results, Try.results19, go_sem, t0, t1]) rfl ⟨.inr ⟨nb2, cts2, co2, N2, d2, rfl, HE3.out, HN2.out, hC.stored G3 nb2 _⟩, (bX.setCell (by show w.heap.size ≤ w.heap.size + 1; omega) _).setCell (by show w.heap.size ≤ w.heap.size + 1; omega) _⟩
  · match kids, k0, HKL, sk, hkin, hkr, ih, HRT with
    | [k, j], _, HKL, sk, hkin, hkr, ih, HRT =>
      have HE : Hid (ev (lns l) time (ET.node ⟨kd, en, rg, wd, ms, bs⟩ ⟨ma, mc, ba, bc, ka, kc⟩ [k, j]).ex = (ev (lns l) time k.ex).bind fun m => (ev (lns l) time j.ex).bind fun m' => binM m m' wd) := ev_bin e
      have hk1 : kl = 2 := by rw [HKL.out]; rfl
      obtain ⟨b, off, rfl, hb, hcell⟩ := seg_expr sk (k := 0) (by simp)
      have hc7 : Cells7 w b off k := by simpa using hcell 0 (by simp)
      have hd7 : Cells7 w b (off + 7) j := by simpa using hcell 1 (by simp)
      obtain ⟨c0, c1, c2, c3, c4, c5, c6⟩ := hc7
      have PI := hide (fun w' (hb : Below w.heap.size w w') => ih k (by simp) w' (HA.out.below hb) (ET.In.below hb k (inL_mem hkin k (by simp))) (hkr k.ex (by simp [exL])))
      have PJ := hide (fun w' (hb : Below w.heap.size w w') => ih j (by simp) w' (HA.out.below hb) (ET.In.below hb j (inL_mem hkin j (by simp))) (hkr j.ex (by simp [exL])))
      generalize hev : ev (lns l) time k.ex = O at PI HE
      generalize hev2 : ev (lns l) time j.ex = O2 at PJ HE
      have HO := hide hev
      have HO2 := hide hev2
      have rk := hide (hkr k.ex (by simp [exL]))
      have rj := hide (hkr j.ex (by simp [exL]))
      simp only at e
      subst e
      subst hk1
      rw [HE.out]
      clear ih hev hev2 HIN HRT halone P1 hkr hkin sk
      unfold eval at PI PJ
      obtain ⟨RES, hRES⟩ : ∃ RES, RES = (O.bind fun m => O2.bind fun m' => binM m m' wd) := ⟨_, rfl⟩
      rw [← hRES]
      have HRES := hide hRES
      have HD7 := hide hd7
      clear hRES hd7
      go_enter Try.func19, Try.ntmps19
      go_wp2_with fail
      rw [← HW.out]
      refine (PI.out W bel0).mono ?_
      rintro e w1 ⟨hp, b1⟩
      have G1 := below_block b1 G0
      have F1 := below_block b1 F0
      have bw : Below w.heap.size w w1 := bel0.trans (b1.mono bel0.size)
      have l0 : w.heap.size < w1.heap.size := lt_of_block F1
      have l1 : w.heap.size + 1 < w1.heap.size := lt_of_block G1
      have HP := hide hp
      clear hp c0 c1 c2 c3 c4 c5 c6 PI
      obtain ⟨t0, t1, t2, t3⟩ := two_cells G1
      rcases HP.out with ⟨ho, he⟩ | ⟨nb, cts, co, N, d, he, ho, hN, hC⟩
      · rw [he]
        have HE2 : Hid (RES = none) := by show _ = _; rw [HRES.out, ho]; rfl
        clear HP ho HRES HE he HO HO2
        go_wp2
        exact bodyPost_ret (v := .tuple #[.agg #[.bool false, .slice none 0 0], .int .i64 3]) (by simp [results, Try.results19, go_sem, (err_done G1 (.cells #[.bool false, .slice none 0 0] 56)).1, (err_done G1 (.cells #[.bool false, .slice none 0 0] 56)).2]) rfl ⟨.inl ⟨HE2.out, rfl⟩, below_err bw (by omega) _⟩
      · rw [he]
        have HE2 : Hid (RES = O2.bind fun m' => binM ⟨nb, cls cts⟩ m' wd) := by show _ = _; rw [HRES.out, ho]; rfl
        have gd := HGD.out k.ex rk.out ⟨nb, cls cts⟩ (HO.out.trans ho)
        obtain ⟨V, hV⟩ : ∃ V, V = w1.alloc (.cells #[.bool nb, .slice co N d] 56) := ⟨_, rfl⟩
        obtain ⟨X, hX⟩ : ∃ X, X = w1.heap.size := ⟨_, rfl⟩
        have X0 : V.heap[X]? = some (.cells #[.bool nb, .slice co N d] 56 (0, 0)) := by rw [hV, hX]; exact heap_alloc_new w1 _
        have bV : Below w1.heap.size w1 V := by rw [hV]; exact (Below.refl _ _).alloc (Nat.le_refl _) _
        have hCV := hC.below bV
        have HV := hide hV
        have HX := hide hX
        have HN := hide hN
        have HGK := hide gd
        obtain ⟨p0, p1, p2, p3, p4, p5, p6⟩ := seven_cells F1
        have G2 := below_block bV G1
        have F2 := below_block bV F1
        have bW : Below w.heap.size w V := bw.trans (bV.mono bw.size)
        obtain ⟨d0, d1, d2, d3, d4, d5, d6⟩ := HD7.out
        have q0 := (bw.cell (p := ⟨b, off + 7, none⟩) hb).trans d0
        have q1 := (bw.cell (p := ⟨b, off + 7 + 1, none⟩) hb).trans d1
        have q2 := (bw.cell (p := ⟨b, off + 7 + 2, none⟩) hb).trans d2
        have q3 := (bw.cell (p := ⟨b, off + 7 + 3, none⟩) hb).trans d3
        have q4 := (bw.cell (p := ⟨b, off + 7 + 4, none⟩) hb).trans d4
        have q5 := (bw.cell (p := ⟨b, off + 7 + 5, none⟩) hb).trans d5
        have q6 := (bw.cell (p := ⟨b, off + 7 + 6, none⟩) hb).trans d6
        have bl1 : b < w1.heap.size := Nat.lt_of_lt_of_le hb bw.size
        clear HP ho HRES HE he HO hV gd hC hN d0 d1 d2 d3 d4 d5 d6
        go_wp2_with fail
        rw [← HV.out]
        refine (PJ.out V bW).mono ?_
        rintro e w2 ⟨hp, b2⟩
        rw [← HX.out]
        have G3 := below_block b2 G2
        have F3 := below_block b2 F2
        have X1 := below_block b2 X0
        have hC2 := hCV.below b2
        have bX : Below w.heap.size w w2 := bW.trans (b2.mono bW.size)
        have l2 : w.heap.size < w2.heap.size := lt_of_block F3
        have l3 : w.heap.size + 1 < w2.heap.size := lt_of_block G3
        have l4 : X < w2.heap.size := lt_of_block X1
        obtain ⟨t0, t1, t2, t3⟩ := two_cells G3
        have HP := hide hp
        clear hp PJ p0 p1 p2 p3 p4 p5 p6 q0 q1 q2 q3 q4 q5 q6 HX hX HV
        rcases HP.out with ⟨ho, he⟩ | ⟨nb2, cts2, co2, N2, e2, he, ho, hN, hC⟩
        · rw [he]
          have HE3 : Hid (RES = none) := by show _ = _; rw [HE2.out, ho]; rfl
          clear HP ho he HE2
          go_wp2
          exact bodyPost_ret (v := .tuple #[.agg #[.bool false, .slice none 0 0], .int .i64 3]) (by simp [results, Try.results19, go_sem, (err_done G3 (.cells #[.bool false, .slice none 0 0] 56)).1, (err_done G3 (.cells #[.bool false, .slice none 0 0] 56)).2]) rfl ⟨.inl ⟨HE3.out, rfl⟩, below_err bX (by omega) _⟩
        · rw [he]
          have HE3 : Hid (RES = binM ⟨nb, cls cts⟩ ⟨nb2, cls cts2⟩ wd) := by show _ = _; rw [HE2.out, ho]; rfl
          have gd2 := HGD.out j.ex rj.out ⟨nb2, cls cts2⟩ (HO2.out.trans ho)
          have gd1 := HGK.out
          obtain ⟨U, hU⟩ : ∃ U, U = w2.alloc (.cells #[.bool nb2, .slice co2 N2 e2] 56) := ⟨_, rfl⟩
          have bU : Below w2.heap.size w2 U := by rw [hU]; exact (Below.refl _ _).alloc (Nat.le_refl _) _
          have PB := hide (mbin_any nb nb2 cts cts2 wd co co2 N d N2 e2 U (hC2.below bU) (hC.below bU) HN.out hN gd1.fine gd2.fine (by rw [HN.out, ← cls_len]; exact gd1.len) (by rw [hN, ← cls_len]; exact gd2.len) (fun h => by rw [HN.out, ← cls_len]; exact gd1.num h) (fun h => by rw [hN, ← cls_len]; exact gd2.num h))
          have HU := hide hU
          obtain ⟨x0, x1, _, _⟩ := two_cells X1
          obtain ⟨p0, p1, p2, p3, p4, p5, p6⟩ := seven_cells F3
          have G4 := below_block bU G3
          have bY : Below w.heap.size w U := bX.trans (bU.mono bX.size)
          clear HP ho he HE2 hU hN hC gd1 gd2 HO2
          go_wp2_with fail
          rw [← HU.out]
          refine PB.out.mono ?_
          rintro e w3 ⟨hp, b3⟩
          have G5 := below_block b3 G4
          have bZ : Below w.heap.size w w3 := bY.trans (b3.mono bY.size)
          obtain ⟨t0, t1, t2, t3⟩ := two_cells G5
          have HP := hide hp
          clear hp PB p0 p1 p2 p3 p4 p5 p6 x0 x1 HU
          rcases HP.out with ⟨ho, he⟩ | ⟨nb3, cts3, co3, N3, d3, he, ho, hN, hC⟩
          · rw [he]
            have HE4 : Hid (RES = none) := by show _ = _; rw [HE3.out, ho]
            clear HP ho he HE3
            go_wp2
            exact bodyPost_ret (v := .tuple #[.agg #[.bool false, .slice none 0 0], .int .i64 3]) (by simp [results, Try.results19, go_sem, t0, t1]) rfl ⟨.inl ⟨HE4.out, rfl⟩, (bZ.setCell (by show w.heap.size ≤ w.heap.size + 1; omega) _).setCell (by show w.heap.size ≤ w.heap.size + 1; omega) _⟩
          · rw [he]
            have HE4 : Hid (RES = some ⟨nb3, cls cts3⟩) := by show _ = _; rw [HE3.out, ho]
            have HN3 := hide hN
            clear HP ho he HE3 hN
            go_wp2
            exact bodyPost_ret (v := .tuple #[.agg #[.bool nb3, .slice co3 N3 d3], .int .i64 0]) (by simp [results, Try.results19, go_sem, t0, t1]) rfl ⟨.inr ⟨nb3, cts3, co3, N3, d3, rfl, HE4.out, HN3.out, hC.stored G5 nb3 _⟩, (bZ.setCell (by show w.heap.size ≤ w.heap.size + 1; omega) _).setCell (by show w.heap.size ≤ w.heap.size + 1; omega) _⟩

end Go.Proofs.Ytjgdjbphelkdoad

/-
  The walk of Ask.
-/
namespace Go.GrainU
open Go.RowKit

/-- what is answered of what comes -/
def askOf (o : Option Mn) : List Cl × Int := match o with | none => ([], 3) | some m => (m.cs, 0)

theorem wrLF_zero (l : List Ln) (n : Nat) : ∀ k, (wrLF l n k).1 = 0 → ∀ j, k ≤ j → j < k + n → lnBad l j = 0 := by
  induction n with
  | zero => intro k _ j h1 h2; omega
  | succ n ih =>
    intro k h j h1 h2
    by_cases hb : lnBad l k = 0
    · rw [wrLF_ok hb] at h
      rcases Nat.lt_or_ge k j with h3 | h3
      · exact ih (k + 1) h j h3 (by omega)
      · rw [show j = k from by omega]; exact hb
    · rw [wrLF_no hb] at h; exact absurd h hb

theorem wrLn_zero {l : List Ln} (h : (wrLn l).1 = 0) : l.length ≤ 8 ∧ ∀ k, k < l.length → lnBad l k = 0 := by
  unfold wrLn at h
  by_cases h8 : 8 < l.length
  · rw [if_pos h8] at h; simp at h
  · rw [if_neg h8] at h
    exact ⟨by omega, fun k hk => wrLF_zero l l.length 0 h k (Nat.zero_le _) (by omega)⟩

theorem lnBad_zero {l : List Ln} {k : Nat} (h : lnBad l k = 0) : wrongS (lser l k) = 0 ∧ (Grain.wrong (lsmp l k)).1 = 0 := by
  unfold lnBad at h
  by_cases h1 : lnAlone (lser l k, lsmp l k) = 0
  · unfold lnAlone at h1
    by_cases h2 : wrongS (lser l k) = 0
    · rw [if_pos h2] at h1; exact ⟨h2, h1⟩
    · rw [if_neg h2] at h1; exact absurd h1 h2
  · rw [if_neg h1] at h; exact absurd h h1

theorem wrongS_len {s : Lb} (h : wrongS s = 0) : s.length ≤ 4 := by
  unfold wrongS at h
  by_cases h4 : 4 < s.length
  · rw [if_pos h4] at h; simp at h
  · omega

theorem right_lines {l : List LT} (h : (wrLn (lns l)).1 = 0) : l.length ≤ 8 ∧ ∀ x ∈ l, LnRt x := by
  obtain ⟨h8, hk⟩ := wrLn_zero h
  rw [lns_len] at h8 hk
  refine ⟨h8, fun x hx => ?_⟩
  obtain ⟨k, hk', rfl⟩ := List.mem_iff_getElem.1 hx
  have hb := lnBad_zero (hk k hk')
  rw [lser_lt hk', lsmp_lt hk'] at hb
  have e : lt l k = l[k] := by simp [lt, List.getD, List.getElem?_eq_getElem hk']
  rw [e] at hb
  exact ⟨wrongS_len hb.1, Grain.right_of hb.2⟩

theorem chk_zero {e : Ex} {time : Int} (h : chk e time = 0) : Rt e ∧ 0 ≤ time ∧ time ≤ 1000000 := by
  unfold chk at h
  by_cases h1 : (wr e 1 0).1 = 0
  · rw [if_pos h1] at h
    by_cases h2 : typ e = 0
    · rw [if_pos h2] at h
      by_cases h3 : time < 0 ∨ 1000000 < time
      · rw [if_pos h3] at h; simp at h
      · exact ⟨(wr_ok e 1 0 (by omega) h1).1, by omega, by omega⟩
    · rw [if_neg h2] at h; exact absurd h h2
  · rw [if_neg h1] at h; exact absurd h h1

end Go.GrainU
namespace Go.Proofs.Ytjgdjbphelkdoad
open Go.RowKit Go.GrainU

set_option maxRecDepth 100000 in
set_option maxHeartbeats 4000000 in
theorem mask_any (l : List LT) (t : ET) (time : Int) (ao : Option Addr) (n cap : Nat) (w : World) (hs : Seg w ao (tcells l)) (hl : LnsIn w l) (hin : t.In w) (hn : n = l.length) :
    Calls Try.prog 7 #[.slice ao n cap, eval t, .int .i64 time] w fun e w' => ∃ cts co N d, e = .returned (.tuple #[.slice co N d, .int .i64 (GrainU.ask (lns l) t.ex time).2]) ∧ cls cts = (GrainU.ask (lns l) t.ex time).1 ∧ N = cts.length ∧ CsIn w' co cts ∧ Below w.heap.size w w' := by
  obtain ⟨E, hE⟩ : ∃ E, E = (wrLn (lns l)).1 := ⟨_, rfl⟩
  obtain ⟨A, hA⟩ : ∃ A, A = (wrLn (lns l)).2 := ⟨_, rfl⟩
  obtain ⟨C, hC⟩ : ∃ C, C = chk t.ex time := ⟨_, rfl⟩
  obtain ⟨R, hR⟩ : ∃ R, R = GrainU.ask (lns l) t.ex time := ⟨_, rfl⟩
  have HR : Hid (R = if E = 0 then (if C = 0 then askOf (ev (lns l) time t.ex) else ([], C)) else ([], E)) := by
    show _ = _
    rw [hR, hE, hC]; rfl
  rw [← hR]
  clear hR
  have PW := hide (fun w' (hb : Below w.heap.size w w') => mwrong_any l ao n cap w' (hs.below hb) (hl.below hb) hn)
  have PC := hide (fun w' (hb : Below w.heap.size w w') => mcheck_any t time w' (ET.In.below hb t hin))
  rw [← hE, ← hA] at PW
  rw [← hC] at PC
  have PM := hide (fun (h0 : E = 0) (h1 : C = 0) B1 B2 w' (hb : Below w.heap.size w w') (k1 : w'.cell? ⟨B1, 0, none⟩ = some (.slice ao n cap)) (k2 : w'.cell? ⟨B2, 0, none⟩ = some (.int .i64 time)) => by
    have r1 := right_lines (hE.symm.trans h0)
    have r2 := chk_zero (hC.symm.trans h1)
    exact mcomes_any l time ao n cap B1 B2 r1.2 hn (by rw [hn]; exact r1.1) r2.2.1 r2.2.2 t w' ⟨k1, k2, hs.below hb, hl.below hb⟩ (ET.In.below hb t hin) r2.1)
  generalize hev : ev (lns l) time t.ex = O at PM HR
  clear hev hE hA hC hs hl hin hn
  unfold eval at PC PM ⊢
  generalize t.hd.ms.length = ml at PC PM ⊢
  generalize t.hd.bs.length = bl at PC PM ⊢
  generalize t.kids.length = kl at PC PM ⊢
  obtain ⟨W, hW⟩ : ∃ W, W = ((w.alloc (.cells #[.slice ao n cap] 22)).alloc (.cells #[.int .i64 t.hd.kind, .int .i64 t.hd.n, .int .i64 t.hd.range, .string t.hd.word, .slice t.sp.ma ml t.sp.mc, .slice t.sp.ba bl t.sp.bc, .slice t.sp.ka kl t.sp.kc] 27)).alloc (.cells #[.int .i64 time] 3) := ⟨_, rfl⟩
  have bel0 : Below w.heap.size w W := by rw [hW]; exact (((Below.refl _ _).alloc (Nat.le_refl _) _).alloc (by simp) _).alloc (by simp; omega) _
  have A0 : W.heap[w.heap.size]? = some (.cells #[.slice ao n cap] 22 (0, 0)) := by rw [hW, Below.heap_alloc _ _ _ (by simp; omega), Below.heap_alloc _ _ _ (by simp)]; exact heap_alloc_new w _
  have F0 : W.heap[w.heap.size + 1]? = some (.cells #[.int .i64 t.hd.kind, .int .i64 t.hd.n, .int .i64 t.hd.range, .string t.hd.word, .slice t.sp.ma ml t.sp.mc, .slice t.sp.ba bl t.sp.bc, .slice t.sp.ka kl t.sp.kc] 27 (0, 0)) := by
    rw [hW, Below.heap_alloc _ _ _ (by simp)]
    have := heap_alloc_new (w.alloc (.cells #[.slice ao n cap] 22)) (.cells #[.int .i64 t.hd.kind, .int .i64 t.hd.n, .int .i64 t.hd.range, .string t.hd.word, .slice t.sp.ma ml t.sp.mc, .slice t.sp.ba bl t.sp.bc, .slice t.sp.ka kl t.sp.kc] 27)
    simpa using this
  have T0 : W.heap[w.heap.size + 1 + 1]? = some (.cells #[.int .i64 time] 3 (0, 0)) := by
    have := heap_alloc_new ((w.alloc (.cells #[.slice ao n cap] 22)).alloc (.cells #[.int .i64 t.hd.kind, .int .i64 t.hd.n, .int .i64 t.hd.range, .string t.hd.word, .slice t.sp.ma ml t.sp.mc, .slice t.sp.ba bl t.sp.bc, .slice t.sp.ka kl t.sp.kc] 27)) (.cells #[.int .i64 time] 3)
    rw [hW]; simpa using this
  have HW := hide hW
  clear hW
  go_enter Try.func7, Try.ntmps7
  go_wp2_with fail
  rw [← HW.out]
  refine (PW.out W bel0).mono ?_
  rintro e w1 ⟨rfl, b1⟩
  have A1 := below_block b1 A0
  have F1 := below_block b1 F0
  have T1 := below_block b1 T0
  have bw : Below w.heap.size w w1 := bel0.trans (b1.mono bel0.size)
  obtain ⟨V, hV⟩ : ∃ V, V = w1.alloc (.cells #[.int .i64 E, .int .i64 A] 34) := ⟨_, rfl⟩
  have bV : Below w1.heap.size w1 V := by rw [hV]; exact (Below.refl _ _).alloc (Nat.le_refl _) _
  have bW : Below w.heap.size w V := bw.trans (bV.mono bw.size)
  have HV := hide hV
  clear hV PW
  by_cases h0 : E = 0
  · have HR1 : Hid (R = if C = 0 then askOf O else ([], C)) := by show _ = _; rw [HR.out, if_pos h0]
    subst h0
    clear HR
    obtain ⟨p0, p1, p2, p3, p4, p5, p6⟩ := seven_cells F1
    have q0 : w1.cell? ⟨w.heap.size + 1 + 1, 0, none⟩ = some (.int .i64 time) := by simp [World.cell?, T1]
    have l1 : w.heap.size + 1 < w1.heap.size := lt_of_block F1
    have l2 : w.heap.size + 1 + 1 < w1.heap.size := lt_of_block T1
    go_wp2_with fail
    rw [← HV.out]
    refine (PC.out V bW).mono ?_
    rintro e w2 ⟨rfl, b2⟩
    have A2 := below_block b2 (below_block bV A1)
    have F2 := below_block b2 (below_block bV F1)
    have T2 := below_block b2 (below_block bV T1)
    have bX : Below w.heap.size w w2 := bW.trans (b2.mono bW.size)
    clear p0 p1 p2 p3 p4 p5 p6 q0 l1 l2 PC
    by_cases h1 : C = 0
    · subst h1
      have k1 : w2.cell? ⟨w.heap.size, 0, none⟩ = some (.slice ao n cap) := by simp [World.cell?, A2]
      have k2 : w2.cell? ⟨w.heap.size + 1 + 1, 0, none⟩ = some (.int .i64 time) := by simp [World.cell?, T2]
      have HR2 : Hid (R = askOf O) := by show _ = _; rw [HR1.out, if_pos rfl]
      have PM2 := hide (PM.out (by first | trivial | rfl) (by first | trivial | rfl) w.heap.size (w.heap.size + 1 + 1) w2 bX k1 k2)
      obtain ⟨p0, p1, p2, p3, p4, p5, p6⟩ := seven_cells F2
      clear HR1 PM
      go_wp2_with fail
      refine PM2.out.mono ?_
      rintro e w3 ⟨hp, b3⟩
      have bY : Below w.heap.size w w3 := bX.trans (b3.mono bX.size)
      have HP := hide hp
      clear hp PM2 p0 p1 p2 p3 p4 p5 p6
      rcases HP.out with ⟨ho, he⟩ | ⟨nb, cts, co, N, d, he, ho, hN, hC⟩
      · rw [he]
        have HE2 : Hid (R = ([], 3)) := by show _ = _; rw [HR2.out, ho]; rfl
        clear HP ho he HR2
        go_wp2
        go_ret2
        exact ⟨[], none, 0, 0, by rw [HE2.out]; rfl, by rw [HE2.out]; rfl, rfl, ⟨.inl rfl, fun c hc => by cases hc⟩, bY.alloc bY.size _⟩
      · rw [he]
        have HE2 : Hid (R = (cls cts, 0)) := by show _ = _; rw [HR2.out, ho]; rfl
        have HN := hide hN
        have bz : Below w3.heap.size w3 (w3.alloc (.cells #[.bool nb, .slice co N d] 56)) := (Below.refl _ _).alloc (Nat.le_refl _) _
        have hC2 := hC.below bz
        clear HP ho he HR2 hN
        go_wp2
        go_ret2
        exact ⟨cts, co, N, d, by rw [HE2.out]; rfl, by rw [HE2.out], HN.out, hC2, bY.alloc bY.size _⟩
    · have HR2 : Hid (R = ([], C)) := by show _ = _; rw [HR1.out, if_neg h1]
      have hd : (C != 0) = true := by simpa using h1
      clear h1 HR1 PM
      go_wp2
      go_ret2
      exact ⟨[], none, 0, 0, by rw [HR2.out]; rfl, by rw [HR2.out]; rfl, rfl, ⟨.inl rfl, fun c hc => by cases hc⟩, bX⟩
  · have HR1 : Hid (R = ([], E)) := by show _ = _; rw [HR.out, if_neg h0]
    have hd : (E != 0) = true := by simpa using h0
    clear h0 HR PC PM
    go_wp2
    go_quiet (fail)
    go_wp2
    go_ret2
    exact ⟨[], none, 0, 0, by rw [HR1.out]; rfl, by rw [HR1.out]; rfl, rfl, ⟨.inl rfl, fun c hc => by cases hc⟩, by first | exact below_drewN (bw.alloc bw.size _) _ | exact (below_drewN bw _).alloc (below_drewN bw _).size _⟩

end Go.Proofs.Ytjgdjbphelkdoad

/-
  The walk of SameSeries.
-/
namespace Go.Proofs.Ytjgdjbphelkdoad
open Go.RowKit Go.GrainU

set_option maxHeartbeats 1000000 in
theorem sames_any (a b : List (ByteArray × ByteArray)) (ao bo : Option Addr) (n m c c' : Nat) (w : World) (ha : Seg w ao (lcells a)) (hb : Seg w bo (lcells b)) (hn : n = a.length) (hm : m = b.length) (hc : n ≤ 9223372036854775807) :
    Calls Try.prog 17 #[.slice ao n c, .slice bo m c'] w fun e w' => e = .returned (.bool (decide (a = b))) ∧ Below w.heap.size w w' := by
  have HN := hide hn
  have HM := hide hm
  clear hn hm
  by_cases hl : n = m
  · subst hl
    have hz : ((n : Int) != (n : Int)) = false := by simp
    go_enter Try.func17, Try.ntmps17
    go_wp2
    go_loopw [13] (fun i wr => ∃ (k : Nat), k ≤ n ∧ i = .int .i64 k ∧ Hid (a.take k = b.take k) ∧ Below w.heap.size w wr) (fun i _ => n - (intOf i).toNat)
    case atStart => exact ⟨0, Nat.zero_le _, rfl, rfl, Below.refl _ _⟩
    case round =>
      obtain ⟨k, hk, rfl, HT, bel⟩ := hrel
      by_cases hlt : k < n
      · have h1 : k < a.length := by rw [← HN.out]; exact hlt
        have h2 : k < b.length := by rw [← HM.out]; exact hlt
        obtain ⟨p, off, rfl, hbl, hcell⟩ := seg_label ha h1
        obtain ⟨p', off', rfl, hbl', hcell'⟩ := seg_label hb h2
        obtain ⟨x, hx⟩ : ∃ x, x = lk a k := ⟨_, rfl⟩
        obtain ⟨y, hy⟩ : ∃ y, y = lv a k := ⟨_, rfl⟩
        obtain ⟨x', hx'⟩ : ∃ x, x = lk b k := ⟨_, rfl⟩
        obtain ⟨y', hy'⟩ : ∃ y, y = lv b k := ⟨_, rfl⟩
        have c0 : wr.cell? ⟨p, off + k * 2, none⟩ = some (.string x) := by rw [hx]; exact (bel.cell (by exact hbl)).trans (hcell k h1).1
        have c1 : wr.cell? ⟨p, off + k * 2 + 1, none⟩ = some (.string y) := by rw [hy]; exact (bel.cell (by exact hbl)).trans (hcell k h1).2
        have d0 : wr.cell? ⟨p', off' + k * 2, none⟩ = some (.string x') := by rw [hx']; exact (bel.cell (by exact hbl')).trans (hcell' k h2).1
        have d1 : wr.cell? ⟨p', off' + k * 2 + 1, none⟩ = some (.string y') := by rw [hy']; exact (bel.cell (by exact hbl')).trans (hcell' k h2).2
        clear hcell hcell'
        have HA := take_lab h1
        have HB := take_lab h2
        rw [← hx, ← hy] at HA
        rw [← hx', ← hy'] at HB
        have HA' := hide HA
        have HB' := hide HB
        have NO : Hid ((x, y) ≠ (x', y') → decide (a = b) = false) := by
          intro hne
          have : a ≠ b := by
            intro e
            have e2 := congrArg (List.take (k + 1)) e
            rw [HA'.out, HB'.out] at e2
            have e3 := (List.append_inj' e2 rfl).2
            simp at e3
            exact hne (by rw [e3.1, e3.2])
          simpa using this
        clear HA HB h1 h2 hx hy hx' hy'
        by_cases e1 : x = x'
        · subst e1
          obtain ⟨v1, v2⟩ := word_self x
          by_cases e2 : y = y'
          · subst e2
            obtain ⟨v3, v4⟩ := word_self y
            have HT' : Hid (a.take (k + 1) = b.take (k + 1)) := by
              show a.take (k + 1) = b.take (k + 1)
              rw [HA'.out, HB'.out, HT.out]
            clear HA' HB' HT NO
            go_wp2
            go_quiet (fail)
            go_wp2
            go_roundw
            case rel => exact ⟨k + 1, by omega, by go_num, HT', below_drewN bel _⟩
            case measure => simp [intOf]; omega
          · obtain ⟨v3, v4⟩ := word_ne e2
            have NN := hide (NO.out (by intro h; simp at h; exact e2 h))
            clear HA' HB' HT NO e2
            go_wp2
            go_quiet (fail)
            go_wp2
            go_ret
            exact ⟨ret_bool NN.out.symm, below_drewN bel _⟩
        · obtain ⟨v1, v2⟩ := word_ne e1
          have NN := hide (NO.out (by intro h; simp at h; exact e1 h.1))
          clear HA' HB' HT NO e1
          go_wp2
          go_quiet (fail)
          go_wp2
          go_ret
          exact ⟨ret_bool NN.out.symm, below_drewN bel _⟩
      · have he : k = n := by omega
        subst he
        have hab : a = b := by
          have := HT.out
          rwa [List.take_of_length_le (by rw [← HN.out]; omega), List.take_of_length_le (by rw [← HM.out]; omega)] at this
        clear HT
        go_wp2
        go_ret
        exact ⟨ret_bool (by simp [hab]), bel⟩
  · have hz : ((n : Int) != (m : Int)) = true := by simp; omega
    have hab : Hid (decide (a = b) = false) := by
      show decide (a = b) = false
      have : a ≠ b := by
        intro e
        apply hl
        rw [HN.out, HM.out, e]
      simpa using this
    clear hl
    go_enter Try.func17, Try.ntmps17
    go_wp2
    go_ret
    exact ⟨ret_bool hab.out.symm, Below.refl _ _⟩

end Go.Proofs.Ytjgdjbphelkdoad

/-
  The walk of the document's SameCells, at cells that are the same.
-/
namespace Go.Proofs.Ytjgdjbphelkdoad
open Go.RowKit Go.GrainU

theorem cls_ct {a b : List CT} (h : cls a = cls b) {k : Nat} (hk : k < a.length) (hk' : k < b.length) : (ct a k).ser = (ct b k).ser ∧ (ct a k).v = (ct b k).v := by
  have e : (cls a)[k]? = (cls b)[k]? := by rw [h]
  simp [cls, List.getElem?_eq_getElem hk, List.getElem?_eq_getElem hk', CT.cl] at e
  have e1 : ct a k = a[k] := by simp [ct, List.getD, List.getElem?_eq_getElem hk]
  have e2 : ct b k = b[k] := by simp [ct, List.getD, List.getElem?_eq_getElem hk']
  rw [e1, e2]
  exact e

set_option maxRecDepth 100000 in
set_option maxHeartbeats 4000000 in
theorem rsamec_any (a b : List CT) (ao bo : Option Addr) (n m c c' : Nat) (w : World) (ha : CsIn w ao a) (hb : CsIn w bo b) (hn : n = a.length) (hm : m = b.length) (h : cls a = cls b) (h8 : ∀ x ∈ a, x.ser.length ≤ 9223372036854775807) (hn8 : n ≤ 9223372036854775806) :
    Calls Try.prog 9 #[.slice ao n c, .slice bo m c'] w fun e w' => e = .returned (.bool true) ∧ Below w.heap.size w w' := by
  have hnm : m = n := by rw [hn, hm, ← cls_len, ← cls_len, h]
  subst hnm
  have HN := hide hn
  have HM := hide hm
  have HH := hide h
  have H8 := hide h8
  clear hn hm h h8
  have hd : ((m : Int) != (m : Int)) = false := by simp
  go_enter Try.func9, Try.ntmps9
  go_wp2
  go_loopw [13] (fun i wr => ∃ k : Nat, k ≤ m ∧ i = .int .i64 k ∧ Below w.heap.size w wr) (fun i _ => m - (intOf i).toNat)
  case atStart => exact ⟨0, Nat.zero_le _, rfl, Below.refl _ _⟩
  case round =>
    obtain ⟨k, hk, rfl, bel⟩ := hrel
    have hsz := bel.size
    by_cases hlt : k < m
    · have hka : k < a.length := by rw [← HN.out]; exact hlt
      have hkb : k < b.length := by rw [← HM.out]; exact hlt
      obtain ⟨p, off, rfl, hbl, hcell⟩ := seg_cell ha.seg hka
      obtain ⟨p', off', rfl, hbl', hcell'⟩ := seg_cell hb.seg hkb
      obtain ⟨x, hx⟩ : ∃ x, x = ct a k := ⟨_, rfl⟩
      obtain ⟨y, hy⟩ : ∃ y, y = ct b k := ⟨_, rfl⟩
      obtain ⟨es, ev⟩ := cls_ct HH.out hka hkb
      rw [← hx, ← hy] at es ev
      obtain ⟨xn, hxn⟩ : ∃ xn, xn = x.ser.length := ⟨_, rfl⟩
      obtain ⟨v, hv⟩ : ∃ v, v = x.v := ⟨_, rfl⟩
      have sx : Seg w x.sa (lcells x.ser) := by rw [hx]; exact ha.ser _ (ct_mem hka)
      have sy : Seg w y.sa (lcells x.ser) := by rw [es, hy]; exact hb.ser _ (ct_mem hkb)
      have c0 : wr.cell? ⟨p, off + k * 2, none⟩ = some (.slice x.sa xn x.sc) := by rw [hxn, hx]; exact (bel.cell (by exact hbl)).trans (hcell k hka).1
      have c1 : wr.cell? ⟨p, off + k * 2 + 1, none⟩ = some (.int .i64 v) := by rw [hv, hx]; exact (bel.cell (by exact hbl)).trans (hcell k hka).2
      have d0 : wr.cell? ⟨p', off' + k * 2, none⟩ = some (.slice y.sa xn y.sc) := by rw [hxn, es, hy]; exact (bel.cell (by exact hbl')).trans (hcell' k hkb).1
      have d1 : wr.cell? ⟨p', off' + k * 2 + 1, none⟩ = some (.int .i64 v) := by rw [hv, ev, hy]; exact (bel.cell (by exact hbl')).trans (hcell' k hkb).2
      have x8 : xn ≤ 9223372036854775807 := by rw [hxn, hx]; exact H8.out _ (ct_mem hka)
      have hp1 : p < wr.heap.size := World.block_lt_of_cell? wr _ c0
      have hp2 : p' < wr.heap.size := World.block_lt_of_cell? wr _ d0
      have PS : Hid (∀ w', Below w.heap.size w w' → Calls Try.prog 17 #[.slice x.sa xn x.sc, .slice y.sa xn y.sc] w' fun e w'' => e = .returned (.bool true) ∧ Below w'.heap.size w' w'') := fun w' hb' => by
        have := sames_any x.ser x.ser x.sa y.sa xn xn x.sc y.sc w' (sx.below hb') (sy.below hb') hxn hxn x8
        simpa using this
      have HS : Hid (∀ w', Below wr.heap.size wr w' → w'.cell? ⟨p, off + k * 2, none⟩ = some (.slice x.sa xn x.sc) ∧ w'.cell? ⟨p, off + k * 2 + 1, none⟩ = some (.int .i64 v) ∧ w'.cell? ⟨p', off' + k * 2, none⟩ = some (.slice y.sa xn y.sc) ∧ w'.cell? ⟨p', off' + k * 2 + 1, none⟩ = some (.int .i64 v)) := fun w' hb' =>
        ⟨(hb'.cell (by exact hp1)).trans c0, (hb'.cell (by exact hp1)).trans c1, (hb'.cell (by exact hp2)).trans d0, (hb'.cell (by exact hp2)).trans d1⟩
      have R0 : Below wr.heap.size wr wr.drew := below_drewN (Below.refl _ _) 1
      have hvv : (v != v) = false := by simp
      clear hcell hcell' hx hy es ev hxn hv hka hkb c0 c1 d0 d1
      go_wp2_with fail
      have i7 : k < m := hlt
      have i2 : (k : Int) < (m : Int) := by omega
      go_region_held3 (fun w' => w'.cell? ⟨p, off + k * 2, none⟩ = some (.slice x.sa xn x.sc) ∧ w'.cell? ⟨p, off + k * 2 + 1, none⟩ = some (.int .i64 v) ∧ w'.cell? ⟨p', off' + k * 2, none⟩ = some (.slice y.sa xn y.sc) ∧ w'.cell? ⟨p', off' + k * 2 + 1, none⟩ = some (.int .i64 v)) (exact HS.out _ (by with_reducible assumption))
        (first | (go_at_call 17; refine (PS.out _ (bel.trans (Below.mono (by with_reducible assumption) bel.size))).mono ?_; rintro e w3 ⟨rfl, b3⟩; have R4 := below_step b3 (by with_reducible assumption)))
      all_goals
        have bel3 : Below w.heap.size w w3 := bel.trans (R4.mono bel.size)
        clear R4 b3 R0 HS PS bel
        go_wp2
        go_roundw
        case rel => exact ⟨k + 1, by omega, by go_num, bel3⟩
        case measure => simp [intOf]; omega
    · go_wp2
      go_ret
      exact ⟨rfl, bel⟩

end Go.Proofs.Ytjgdjbphelkdoad

/-
  The closed fact that is asked first.
-/
namespace Go.GrainU
open Go.RowKit

def aLines : List Ln := [([(⟨#[104, 111, 115, 116]⟩, ⟨#[97]⟩)], [(5, 7), (15, 9)]), ([(⟨#[104, 111, 115, 116]⟩, ⟨#[98]⟩)], [(8, 1)])]
def aSum : Hd := ⟨2, 0, 100, ⟨#[115, 117, 109]⟩, [], []⟩
def aAll : Hd := ⟨3, 0, 0, ⟨#[115, 117, 109]⟩, [], []⟩
def aEx : Ex := .mk aAll [.mk aSum []]

set_option maxRecDepth 100000 in
theorem a_ask : GrainU.ask aLines aEx 20 = ([([], 17)], 0) := by kernel_rfl

end Go.GrainU
namespace Go.Proofs.Ytjgdjbphelkdoad
open Go.RowKit Go.GrainU

/-- the lines, as they lie behind w -/
def aLT (A : Nat) : List LT := [⟨[(⟨#[104, 111, 115, 116]⟩, ⟨#[97]⟩)], [(5, 7), (15, 9)], some ⟨A, 0, none⟩, 1, some ⟨A + 1, 0, none⟩, 2⟩, ⟨[(⟨#[104, 111, 115, 116]⟩, ⟨#[98]⟩)], [(8, 1)], some ⟨A + 1 + 1, 0, none⟩, 1, some ⟨A + 1 + 1 + 1, 0, none⟩, 1⟩]

theorem aLT_lns (A : Nat) : lns (aLT A) = aLines := rfl

theorem seg_al {w : World} {ao : Option Addr} {xs : List Value} (h : Seg w ao xs) (o : Obj) : Seg (w.alloc o) ao xs := h.below ((Below.refl _ _).alloc (Nat.le_refl _) _)

theorem seg_at (w : World) (A : Nat) (hA : w.heap.size = A) (cs : Array Value) (t : TypeId) : Seg (w.alloc (.cells cs t)) (some ⟨A, 0, none⟩) cs.toList := by subst hA; exact seg_new w cs t

theorem fits_one (a b : ByteArray) (ha : a.size ≤ 12) (hb : b.size ≤ 12) : Fits [(a, b)] := by
  intro k hk
  simp at hk
  subst hk
  exact ⟨by show a.size ≤ _; omega, by show b.size ≤ _; omega⟩

set_option maxRecDepth 100000 in
set_option maxHeartbeats 2000000 in
theorem alines_any (w : World) : Calls Try.prog 36 #[] w fun e w' => ∃ g, e = .returned (.slice (some ⟨g, 0, none⟩) 2 2) ∧ Seg w' (some ⟨g, 0, none⟩) (tcells (aLT w.heap.size)) ∧ LnsIn w' (aLT w.heap.size) ∧ Below w.heap.size w w' := by
  go_enter Try.func36, Try.ntmps36
  go_wp2
  go_ret
  have s1 := seg_at w w.heap.size rfl #[.string ⟨#[104, 111, 115, 116]⟩, .string ⟨#[97]⟩] 51
  have s2 := seg_at (w.alloc (.cells #[.string ⟨#[104, 111, 115, 116]⟩, .string ⟨#[97]⟩] 51)) (w.heap.size + 1) (by simp) #[.int .i64 5, .int .i64 7, .int .i64 15, .int .i64 9] 54
  have s3 := seg_at ((w.alloc (.cells #[.string ⟨#[104, 111, 115, 116]⟩, .string ⟨#[97]⟩] 51)).alloc (.cells #[.int .i64 5, .int .i64 7, .int .i64 15, .int .i64 9] 54)) (w.heap.size + 1 + 1) (by simp) #[.string ⟨#[104, 111, 115, 116]⟩, .string ⟨#[98]⟩] 51
  have s4 := seg_at (((w.alloc (.cells #[.string ⟨#[104, 111, 115, 116]⟩, .string ⟨#[97]⟩] 51)).alloc (.cells #[.int .i64 5, .int .i64 7, .int .i64 15, .int .i64 9] 54)).alloc (.cells #[.string ⟨#[104, 111, 115, 116]⟩, .string ⟨#[98]⟩] 51)) (w.heap.size + 1 + 1 + 1) (by simp) #[.int .i64 8, .int .i64 1] 54
  have s5 := seg_at ((((w.alloc (.cells #[.string ⟨#[104, 111, 115, 116]⟩, .string ⟨#[97]⟩] 51)).alloc (.cells #[.int .i64 5, .int .i64 7, .int .i64 15, .int .i64 9] 54)).alloc (.cells #[.string ⟨#[104, 111, 115, 116]⟩, .string ⟨#[98]⟩] 51)).alloc (.cells #[.int .i64 8, .int .i64 1] 54)) (w.heap.size + 1 + 1 + 1 + 1) (by simp) #[.slice (some ⟨w.heap.size, 0, none⟩) 1 1, .slice (some ⟨w.heap.size + 1, 0, none⟩) 2 2, .slice (some ⟨w.heap.size + 1 + 1, 0, none⟩) 1 1, .slice (some ⟨w.heap.size + 1 + 1 + 1, 0, none⟩) 1 1] 49
  refine ⟨_, rfl, s5, ?_, ?_⟩
  · intro x hx
    simp only [aLT, List.mem_cons, List.not_mem_nil, or_false] at hx
    rcases hx with e | e
    · subst e
      exact ⟨seg_al (seg_al (seg_al (seg_al s1 _) _) _) _, seg_al (seg_al (seg_al s2 _) _) _, fits_one _ _ (by decide) (by decide), (by simp), (by simp), fun h => (by cases h), (by simp), fun h => (by cases h)⟩
    · subst e
      exact ⟨seg_al (seg_al s3 _) _, seg_al s4 _, fits_one _ _ (by decide) (by decide), (by simp), (by simp), fun h => (by cases h), (by simp), fun h => (by cases h)⟩
  · exact (((((Below.refl _ _).alloc (Nat.le_refl _) _).alloc (by simp) _).alloc (by simp; omega) _).alloc (by simp; omega) _).alloc (by simp; omega) _

set_option maxRecDepth 100000 in
set_option maxHeartbeats 2000000 in
theorem asum_any (w : World) : Calls Try.prog 37 #[] w fun e w' => e = .returned (.agg #[.int .i64 2, .int .i64 0, .int .i64 100, .string ⟨#[115, 117, 109]⟩, .slice none 0 0, .slice none 0 0, .slice none 0 0]) ∧ Below w.heap.size w w' := by
  go_enter Try.func37, Try.ntmps37
  go_wp2
  exact bodyPost_ret (v := .agg #[.int .i64 2, .int .i64 0, .int .i64 100, .string ⟨#[115, 117, 109]⟩, .slice none 0 0, .slice none 0 0, .slice none 0 0]) (by simp [results, Try.results37, go_sem]) rfl ⟨rfl, by go_grown⟩

/-- the expression, its kid in block K -/
def aKid : ET := .node aSum ⟨none, 0, none, 0, none, 0⟩ []
def aET (K : Nat) : ET := .node aAll ⟨none, 0, none, 0, some ⟨K, 0, none⟩, 1⟩ [aKid]

set_option maxRecDepth 100000 in
set_option maxHeartbeats 4000000 in
theorem malive_any (w : World) : Calls Try.prog 14 #[] w fun e w' => e = .returned (.bool true) ∧ Below w.heap.size w w' := by
  go_enter Try.func14, Try.ntmps14
  go_wp2_with fail
  refine (alines_any w).mono ?_
  rintro e w1 ⟨g, rfl, hs, hl, b1⟩
  generalize hA : aLT w.heap.size = LL at hs hl
  have HLL : Hid (lns LL = aLines ∧ LL.length = 2) := by rw [← hA]; exact ⟨rfl, rfl⟩
  clear hA
  go_wp2_with fail
  refine (asum_any w1).mono ?_
  rintro e w2 ⟨rfl, b2⟩
  have b12 : Below w.heap.size w w2 := b1.trans (b2.mono b1.size)
  obtain ⟨V, hV⟩ : ∃ V, V = w2.alloc (.cells #[.int .i64 2, .int .i64 0, .int .i64 100, .string ⟨#[115, 117, 109]⟩, .slice none 0 0, .slice none 0 0, .slice none 0 0] 27) := ⟨_, rfl⟩
  have bV : Below w2.heap.size w2 V := by rw [hV]; exact (Below.refl _ _).alloc (Nat.le_refl _) _
  have sk : Seg V (some ⟨w2.heap.size, 0, none⟩) (ecells [aKid]) := by rw [hV]; exact seg_at w2 w2.heap.size rfl _ _
  have hin : (aET w2.heap.size).In V := by
    simp only [aET, aKid, ET.In, InL, aAll, aSum, mcells, wcells, ecells, List.map_nil]
    refine ⟨⟨.inl rfl, .inl rfl, sk⟩, ⟨by decide, by decide, by decide, by decide, fun m hm => (by cases hm), fun b hb => (by cases hb), by decide, fun m hm => (by cases hm)⟩, ⟨⟨.inl rfl, .inl rfl, .inl rfl⟩, ⟨by decide, by decide, by decide, by decide, fun m hm => (by cases hm), fun b hb => (by cases hb), by decide, fun m hm => (by cases hm)⟩, trivial⟩, trivial⟩
  have PM := mask_any LL (aET w2.heap.size) 20 (some ⟨g, 0, none⟩) 2 2 V ((hs.below b2).below bV) ((hl.below b2).below bV) hin HLL.out.2.symm
  have hask : GrainU.ask (lns LL) (aET w2.heap.size).ex 20 = ([([], 17)], 0) := by rw [HLL.out.1]; exact a_ask
  rw [hask] at PM
  have HPM := hide PM
  have HV := hide hV
  clear hV PM hask sk hin hs hl HLL
  go_wp2_with fail
  rw [← HV.out]
  refine HPM.out.mono ?_
  rintro e w3 ⟨cts, co, N, d, rfl, hc, hN, hC, b3⟩
  have b4 : Below w.heap.size w w3 := b12.trans ((bV.trans (b3.mono bV.size)).mono b12.size)
  obtain ⟨c, rfl⟩ : ∃ c, cts = [c] := by
    have := congrArg List.length hc
    simp [cls] at this
    exact List.length_eq_one_iff.1 this
  simp [cls, CT.cl] at hc
  obtain ⟨h1, h2⟩ := hc
  obtain ⟨b, off, rfl, hb, hcell⟩ := seg_cell hC.seg (k := 0) (by simp)
  have k0 := (hcell 0 (by simp)).1
  have k1 := (hcell 0 (by simp)).2
  simp [ct, h1, h2] at k0 k1
  simp at hN
  subst hN
  clear hcell hC h1 h2 HPM
  go_wp2
  go_ret
  exact ⟨rfl, b4⟩

end Go.Proofs.Ytjgdjbphelkdoad

/-
  All later is the same, later. No program is named here.
-/
namespace Go.GrainU
open Go.RowKit

/-- what comes hangs on the windows alone -/
theorem ev_same {l l' : List Ln} {time time' : Int} (hw : ∀ h, winC l h time = winC l' h time') : ∀ x : Ex, ev l time x = ev l' time' x := by
  refine Ex.ind ?_
  intro h kids ih
  have hL : ∀ ks : List Ex, (∀ k ∈ ks, ev l time k = ev l' time' k) → evL l time ks = evL l' time' ks := by
    intro ks
    induction ks with
    | nil => intro _; rfl
    | cons a r ihr =>
      intro hk
      rw [evL, evL, hk a (by simp), ihr (fun k hk' => hk k (by simp [hk']))]
  rw [ev, ev, hw h, hL kids ih]

/-- samples so much later -/
def latS (b : Int) (s : List (Int × Int)) : List (Int × Int) := s.map fun x => (x.1 + b, x.2)
def latL (b : Int) (l : List Ln) : List Ln := l.map fun x => (x.1, latS b x.2)

theorem latS_tm {b : Int} {s : List (Int × Int)} {k : Nat} (hk : k < s.length) : Grain.tm (latS b s) k = Grain.tm s k + b := by
  simp [Grain.tm, latS, List.getD, List.getElem?_eq_getElem hk]
theorem latS_vl {b : Int} {s : List (Int × Int)} (k : Nat) : Grain.vl (latS b s) k = Grain.vl s k := by
  simp only [Grain.vl, latS, List.getD, List.getElem?_map]
  cases s[k]? <;> rfl
theorem latS_len (b : Int) (s : List (Int × Int)) : (latS b s).length = s.length := by simp [latS]

theorem lat_ofN (b : Int) (s : List (Int × Int)) : ∀ k, Grain.ofN (latS b s) k = Grain.ofN s k
  | 0 => rfl
  | k + 1 => by rw [Grain.ofN, Grain.ofN, lat_ofN b s k, latS_vl]

theorem lat_of (b : Int) (s : List (Int × Int)) : Grain.of (latS b s) = Grain.of s := by
  unfold Grain.of
  rw [latS_len, lat_ofN]

theorem lat_win (b f t : Int) (s : List (Int × Int)) : Grain.win (latS b s) (f + b) (t + b) = latS b (Grain.win s f t) := by
  unfold Grain.win latS
  rw [List.filter_map]
  congr 1
  apply List.filter_congr
  intro x _
  simp

theorem lat_winC (b : Int) (h : Hd) (time : Int) : ∀ l : List Ln, winC (latL b l) h (time + b) = winC l h time
  | [] => rfl
  | x :: r => by
    have e : winX (x.1, latS b x.2) h (time + b) = winX x h time := by
      have hv : winV (x.1, latS b x.2) h (time + b) = winV x h time := by
        unfold winV
        rw [show time + b - h.range = (time - h.range) + b from by omega]
        simp only [lat_win, lat_of]
      unfold winX
      rw [hv]
    show winX (x.1, latS b x.2) h (time + b) ++ winC (latL b r) h (time + b) = _
    rw [e, lat_winC b h time r]
    rfl

/-- times that stay in their range -/
def LatOk (b : Int) (s : List (Int × Int)) : Prop := ∀ x ∈ s, 0 ≤ x.1 ∧ x.1 + b ≤ 1000000

theorem lat_bad {b : Int} (hb : 0 ≤ b) {s : List (Int × Int)} (h : LatOk b s) {k : Nat} (hk : k < s.length) : Grain.bad (latS b s) k = Grain.bad s k := by
  have hx := h s[k] (List.getElem_mem hk)
  have e1 : Grain.tm s k = (s[k]).1 := tm_get hk
  have hr : Grain.inR (Grain.tm (latS b s) k) (Grain.vl (latS b s) k) = Grain.inR (Grain.tm s k) (Grain.vl s k) := by
    rw [latS_tm hk, latS_vl, e1]
    unfold Grain.inR
    rw [decide_eq_decide]
    omega
  unfold Grain.bad
  rw [hr]
  have ht : (0 < k ∧ Grain.tm (latS b s) k ≤ Grain.tm (latS b s) (k - 1)) ↔ (0 < k ∧ Grain.tm s k ≤ Grain.tm s (k - 1)) := by
    rw [latS_tm hk, latS_tm (show k - 1 < s.length by omega)]
    omega
  simp only [ht]

theorem lat_wrongF {b : Int} (hb : 0 ≤ b) {s : List (Int × Int)} (h : LatOk b s) : ∀ n k, k + n ≤ s.length → Grain.wrongF (latS b s) n k = Grain.wrongF s n k
  | 0, _, _ => rfl
  | n + 1, k, hk => by
    rw [Grain.wrongF, Grain.wrongF, lat_bad hb h (by omega), lat_wrongF hb h n (k + 1) (by omega)]

theorem lat_wrong {b : Int} (hb : 0 ≤ b) {s : List (Int × Int)} (h : LatOk b s) : Grain.wrong (latS b s) = Grain.wrong s := by
  unfold Grain.wrong
  rw [latS_len, lat_wrongF hb h _ _ (by omega)]

theorem latL_ser (b : Int) (l : List Ln) (k : Nat) : lser (latL b l) k = lser l k := by
  simp only [lser, latL, List.getD, List.getElem?_map]
  cases l[k]? <;> rfl
theorem latL_smp (b : Int) (l : List Ln) (k : Nat) : lsmp (latL b l) k = latS b (lsmp l k) := by
  simp only [lsmp, latL, List.getD, List.getElem?_map]
  cases l[k]? <;> rfl

theorem lat_lnBad {b : Int} (hb : 0 ≤ b) {l : List Ln} (h : ∀ x ∈ l, LatOk b x.2) (k : Nat) : lnBad (latL b l) k = lnBad l k := by
  have ho : LatOk b (lsmp l k) := by
    unfold lsmp
    simp only [List.getD]
    cases hq : l[k]? with
    | none => intro x hx; cases hx
    | some q => exact h q (List.mem_of_getElem? hq)
  unfold lnBad lnAlone
  simp only [latL_ser, latL_smp, lat_wrong hb ho]

theorem lat_wrLF {b : Int} (hb : 0 ≤ b) {l : List Ln} (h : ∀ x ∈ l, LatOk b x.2) : ∀ n k, wrLF (latL b l) n k = wrLF l n k
  | 0, _ => rfl
  | n + 1, k => by rw [wrLF, wrLF, lat_lnBad hb h k, lat_wrLF hb h n (k + 1)]

theorem lat_wrLn {b : Int} (hb : 0 ≤ b) {l : List Ln} (h : ∀ x ∈ l, LatOk b x.2) : wrLn (latL b l) = wrLn l := by
  unfold wrLn
  rw [lat_wrLF hb h]
  simp [latL]

/-- ALL LATER IS THE SAME, LATER -/
theorem lat_ask {b time : Int} (hb : 0 ≤ b) (h0 : 0 ≤ time) (h1 : time + b ≤ 1000000) {l : List Ln} (h : ∀ x ∈ l, LatOk b x.2) (e : Ex) : GrainU.ask (latL b l) e (time + b) = GrainU.ask l e time := by
  have hc : chk e (time + b) = chk e time := by
    unfold chk
    rw [if_neg (show ¬ (time + b < 0 ∨ 1000000 < time + b) by omega), if_neg (show ¬ (time < 0 ∨ 1000000 < time) by omega)]
  unfold GrainU.ask
  rw [lat_wrLn hb h, hc, ev_same (fun hd => lat_winC b hd time l) e]

end Go.GrainU

/-
  Lines that are made anew: a row of lines, each with a row of samples of its own.
-/
namespace Go.GrainU
open Go.RowKit

/-- what is asked has few cells, of few labels -/
theorem ask_gd (l : List LT) (e : Ex) (time : Int) : (∀ c ∈ (GrainU.ask (lns l) e time).1, c.1.length ≤ 4) ∧ (GrainU.ask (lns l) e time).1.length ≤ 8 := by
  unfold GrainU.ask
  by_cases h1 : (wrLn (lns l)).1 = 0
  · rw [if_pos h1]
    by_cases h2 : chk e time = 0
    · rw [if_pos h2]
      cases hev : ev (lns l) time e with
      | none => exact ⟨fun c hc => (by cases hc), by simp⟩
      | some m =>
        have r1 := right_lines h1
        have g := ev_gd (l := lns l) (fun x hx => by
          obtain ⟨y, hy, rfl⟩ := List.mem_map.1 hx
          exact ⟨(r1.2 y hy).ser, (r1.2 y hy).smp⟩) (by rw [lns_len]; exact r1.1) time e (chk_zero h2).1 m hev
        exact ⟨fun c hc => (g.fine c hc).2.2, g.len⟩
    · rw [if_neg h2]; exact ⟨fun c hc => (by cases hc), by simp⟩
  · rw [if_neg h1]; exact ⟨fun c hc => (by cases hc), by simp⟩

theorem tcells_append (a b : List LT) : tcells (a ++ b) = tcells a ++ tcells b := by
  induction a with
  | nil => rfl
  | cons x r ih => simp [tcells, ih]

/-- a row's block is none of another type -/
theorem mown_far {w : World} {base e size n : Nat} {v : Value} {xs : List Value} (h : w.ownsRow base e size v n xs) {k : Nat} {c : Array Value} {t : TypeId} {fr : Nat × Nat} (hk : w.heap[k]? = some (.cells c t fr)) (ht : t ≠ e) : v.ownBlock ≠ some k := by
  intro hv
  rcases h.2 with ⟨h2, _⟩ | ⟨g, cap, cur, h2, _, hg, _⟩
  · rw [h2] at hv; simp [Value.ownBlock] at hv
  · rw [h2] at hv
    simp [Value.ownBlock] at hv
    subst hv
    rw [hk] at hg
    simp at hg
    exact ht hg.2.1

theorem mown_keep {w w' : World} {base e size n : Nat} {v : Value} {xs : List Value} {r : Option Nat} (h : w.ownsRow base e size v n xs) (hg : w.grownBy w' r) (hne : ∀ k, v.ownBlock = some k → r ≠ some k) : w'.ownsRow base e size v n xs := by
  obtain ⟨h1, h2⟩ := h
  refine ⟨h1, ?_⟩
  rcases h2 with h2 | ⟨g, cap, cur, hv, hb, hh, rest⟩
  · exact Or.inl h2
  · have hl : g < w.heap.size := by
      rcases Nat.lt_or_ge g w.heap.size with h | h
      · exact h
      · rw [Array.getElem?_eq_none h] at hh; cases hh
    refine Or.inr ⟨g, cap, cur, hv, hb, ?_, rest⟩
    rw [hg.block g hl (fun e => hne g (by rw [hv]; rfl) e.symm)]; exact hh

theorem mown_types {w : World} {base base' e e' size size' n n' : Nat} {v v' : Value} {xs xs' : List Value} (h : w.ownsRow base e size v n xs) (h' : w.ownsRow base' e' size' v' n' xs') (ht : e ≠ e') : ∀ k, v.ownBlock = some k → v'.ownBlock ≠ some k := by
  intro k hk
  rcases h.2 with ⟨h2, _⟩ | ⟨g, cap, cur, h2, _, hg, _⟩
  · rw [h2] at hk; simp [Value.ownBlock] at hk
  · rw [h2] at hk
    simp [Value.ownBlock] at hk
    subst hk
    exact mown_far h' hg ht

theorem mown_down {w : World} {base base' e size n : Nat} {v : Value} {xs : List Value} (h : w.ownsRow base e size v n xs) (hb : base' ≤ base) : w.ownsRow base' e size v n xs := by
  obtain ⟨h1, h2⟩ := h
  refine ⟨h1, ?_⟩
  rcases h2 with h2 | ⟨g, cap, cur, hv, hg, r⟩
  · exact Or.inl h2
  · exact Or.inr ⟨g, cap, cur, hv, Nat.le_trans hb hg, r⟩

theorem mown_facts {w : World} {base e size n c : Nat} {ao : Option Addr} {xs : List Value} (h : w.ownsRow base e size (.slice ao n c) n xs) : Seg w ao xs ∧ (ao = none → n = 0 ∧ c = 0) ∧ n ≤ c ∧ c ≤ 9223372036854775807 := by
  obtain ⟨ao', c', hv, hs, hc⟩ := own_open h
  simp at hv
  obtain ⟨rfl, rfl⟩ := hv
  refine ⟨hs, ?_, hc, ?_⟩
  · intro hn
    subst hn
    rcases h.2 with ⟨h2, _⟩ | ⟨g, cap, cur, hv, _⟩
    · simp at h2; exact h2
    · simp at hv
  · rcases h.2 with ⟨h2, _⟩ | ⟨g, cap, cur, hv, _, _, _, hm, _⟩
    · simp at h2; omega
    · simp at hv
      obtain ⟨_, rfl⟩ := hv
      unfold maxLen at hm
      exact hm

end Go.GrainU
namespace Go.Proofs.Ytjgdjbphelkdoad
open Go.RowKit Go.GrainU

theorem Try.infoLine : (Try.prog.info? 49).map (fun i => (i.zero, i.size, i.bytes)) = some (some (.agg #[.slice none 0 0, .slice none 0 0]), 2, 48) := by kernel_rfl
theorem Try.infoSmpX : (Try.prog.info? 54).map (fun i => (i.zero, i.size, i.bytes)) = some (some (.agg #[.int .i64 0, .int .i64 0]), 2, 16) := by kernel_rfl

/-- what a new line keeps of an old one -/
structure SerOk (w : World) (x : LT) : Prop where
  ser : Seg w x.sa (lcells x.ser)
  fit : Fits x.ser
  ls : x.ser.length ≤ 9223372036854775806
  nil : x.sa = none → x.ser.length = 0 ∧ x.sc = 0

/-- the row of new lines -/
structure LI (w wr : World) (mo : Option Addr) (M mc : Nat) (ms : List LT) : Prop where
  row : wr.ownsRow w.heap.size 49 2 (.slice mo M mc) M (tcells ms)
  each : ∀ x ∈ ms, SerOk w x ∧ x.smp.length * 16 ≤ 140737488355328 ∧ wr.ownsRow w.heap.size 54 2 (.slice x.pa x.smp.length x.pc) x.smp.length (scells x.smp)
  bel : Below w.heap.size w wr

theorem LI.call {w wr w' : World} {mo : Option Addr} {M mc : Nat} {ms : List LT} (h : LI w wr mo M mc ms) (hb : Below wr.heap.size wr w') : LI w w' mo M mc ms :=
  ⟨own_below h.row hb, fun x hx => ⟨(h.each x hx).1, (h.each x hx).2.1, own_below (h.each x hx).2.2 hb⟩, h.bel.trans (hb.mono h.bel.size)⟩

theorem LI.lns {w wr : World} {mo : Option Addr} {M mc : Nat} {ms : List LT} (h : LI w wr mo M mc ms) : LnsIn wr ms := by
  intro x hx
  obtain ⟨s, hb, o⟩ := h.each x hx
  obtain ⟨f1, f2, f3, f4⟩ := mown_facts o
  exact ⟨s.ser.below h.bel, f1, s.fit, s.ls, by omega, s.nil, ⟨f3, f4⟩, f2⟩

/-- a new line put behind the others -/
theorem LI.push {w W w5 : World} {mo : Option Addr} {M mc g' cp' : Nat} {ms : List LT} (h : LI w W mo M mc ms) (x : LT) (hs : SerOk w x) (hx : x.smp.length * 16 ≤ 140737488355328) (ho : W.ownsRow w.heap.size 54 2 (.slice x.pa x.smp.length x.pc) x.smp.length (scells x.smp))
    (own : w5.ownsRow w.heap.size 49 2 (.slice (some ⟨g', 0, none⟩) (M + 1) cp') (M + 1) (tcells ms ++ [.slice x.sa x.ser.length x.sc, .slice x.pa x.smp.length x.pc])) (gr : W.grownBy w5 (Value.slice mo M mc).ownBlock) :
    LI w w5 (some ⟨g', 0, none⟩) (M + 1) cp' (ms ++ [x]) := by
  refine ⟨by rw [tcells_append]; exact own, fun y hy => ?_, h.bel.grown gr h.bel.size (fun j hj => (h.row.lt j hj).1)⟩
  rcases List.mem_append.1 hy with e | e
  · obtain ⟨p, q, o⟩ := h.each y e
    exact ⟨p, q, mown_keep o gr (mown_types o h.row (by decide))⟩
  · simp at e
    subst e
    exact ⟨hs, hx, mown_keep ho gr (mown_types ho h.row (by decide))⟩

/-- a new line that is being made: the old one lies in a block, the new one in the next -/
structure DI (wk wr : World) (c0 c1 : Value) (po : Option Addr) (p pc : Nat) (s : List (Int × Int)) : Prop where
  cb : wr.heap[wk.heap.size]? = some (.cells #[c0, c1] 49 (0, 0))
  db : wr.heap[wk.heap.size + 1]? = some (.cells #[c0, .slice po p pc] 49 (0, 0))
  own : wr.ownsRow (wk.heap.size + 2) 54 2 (.slice po p pc) p (scells s)
  bel : Below wk.heap.size wk wr

theorem DI.start (wk : World) (c0 c1 : Value) : DI wk ((wk.alloc (.cells #[c0, c1] 49)).alloc (.cells #[c0, .slice none 0 0] 49)) c0 c1 none 0 0 [] := by
  refine ⟨?_, ?_, World.ownsRow_nil _ _ _ _, ((Below.refl _ _).alloc (Nat.le_refl _) _).alloc (by simp) _⟩
  · rw [Below.heap_alloc _ _ _ (by simp)]; exact heap_alloc_new _ _
  · have e : wk.heap.size + 1 = (wk.alloc (.cells #[c0, c1] 49)).heap.size := by simp
    rw [e]; exact heap_alloc_new _ _

theorem DI.call {wk wr w' : World} {c0 c1 : Value} {po : Option Addr} {p pc : Nat} {s : List (Int × Int)} (h : DI wk wr c0 c1 po p pc s) (hb : Below wr.heap.size wr w') : DI wk w' c0 c1 po p pc s :=
  ⟨below_block hb h.cb, below_block hb h.db, own_below h.own hb, h.bel.trans (hb.mono h.bel.size)⟩

theorem DI.grown {wk wr w' : World} {c0 c1 : Value} {po : Option Addr} {p pc : Nat} {s : List (Int × Int)} (h : DI wk wr c0 c1 po p pc s) (gr : wr.grownBy w' (Value.slice po p pc).ownBlock) :
    w'.heap[wk.heap.size]? = some (.cells #[c0, c1] 49 (0, 0)) ∧ w'.heap[wk.heap.size + 1]? = some (.cells #[c0, .slice po p pc] 49 (0, 0)) ∧ Below wk.heap.size wk w' := by
  refine ⟨?_, ?_, h.bel.grown gr h.bel.size (fun j hj => by have := (h.own.lt j hj).1; omega)⟩
  · rw [gr.block _ (lt_of_block h.cb) (fun e => mown_far h.own h.cb (by decide) e.symm)]; exact h.cb
  · rw [gr.block _ (lt_of_block h.db) (fun e => mown_far h.own h.db (by decide) e.symm)]; exact h.db

/-- a sample put behind the others -/
theorem DI.push {wk wr w' : World} {c0 c1 : Value} {po : Option Addr} {p pc g' cp' : Nat} {s : List (Int × Int)} (h : DI wk wr c0 c1 po p pc s) (t v : Int)
    (own : w'.ownsRow (wk.heap.size + 2) 54 2 (.slice (some ⟨g', 0, none⟩) (p + 1) cp') (p + 1) (scells s ++ [.int .i64 t, .int .i64 v])) (gr : wr.grownBy w' (Value.slice po p pc).ownBlock) :
    DI wk (w'.setCell ⟨wk.heap.size + 1, 1, none⟩ (.slice (some ⟨g', 0, none⟩) (p + 1) cp')) c0 c1 (some ⟨g', 0, none⟩) (p + 1) cp' (s ++ [(t, v)]) := by
  obtain ⟨k1, k2, k3⟩ := h.grown gr
  refine ⟨by rw [setCell_far (by omega)]; exact k1, two_snd k2 _, ?_, k3.setCell (by show wk.heap.size ≤ wk.heap.size + 1; omega) _⟩
  rw [scells_append]
  exact ownsRow_setCell_below own (by show wk.heap.size + 1 < wk.heap.size + 2; omega) _

end Go.Proofs.Ytjgdjbphelkdoad

/-
  Right samples, otherwise told. No program is named here.
-/
namespace Grain

theorem steps_lt (f : Nat → Int) (n : Nat) (h : ∀ k, k + 1 < n → f k < f (k + 1)) : ∀ d i, i + d + 1 < n → f i < f (i + d + 1) := by
  intro d
  induction d with
  | zero => intro i hi; exact h i hi
  | succ d ih =>
    intro i hi
    have h1 := ih i (by omega)
    have h2 := h (i + d + 1) (by omega)
    rw [show i + (d + 1) + 1 = i + d + 1 + 1 from by omega]
    omega

theorem tm_get {l : List (Int × Int)} {k : Nat} (h : k < l.length) : tm l k = l[k].1 ∧ vl l k = l[k].2 := by simp [tm, vl, List.getD, List.getElem?_eq_getElem h]

/-- right samples, otherwise told -/
theorem right_iff (l : List (Int × Int)) : (wrong l).1 = 0 ↔ l.length ≤ 500 ∧ (∀ x ∈ l, inR x.1 x.2 = true) ∧ l.Pairwise (fun x y => x.1 < y.1) := by
  constructor
  · intro h
    have hr := right_of h
    refine ⟨hr.few, fun x hx => ?_, List.pairwise_iff_getElem.2 fun i j hi hj hij => ?_⟩
    · obtain ⟨k, hk, rfl⟩ := List.mem_iff_getElem.1 hx
      have := hr.rng k hk
      rw [(tm_get hk).1, (tm_get hk).2] at this
      simp only [inR, decide_eq_true_eq]
      exact this
    · obtain ⟨d, rfl⟩ : ∃ d, j = i + d + 1 := ⟨j - i - 1, by omega⟩
      have := steps_lt (tm l) l.length hr.rise d i hj
      rwa [(tm_get hi).1, (tm_get hj).1] at this
  · rintro ⟨h1, h2, h3⟩
    rw [List.pairwise_iff_getElem] at h3
    unfold wrong
    rw [if_neg (by omega)]
    have key : ∀ n k, k + n ≤ l.length → wrongF l n k = (0, 0) := by
      intro n
      induction n with
      | zero => intro k _; rfl
      | succ n ih =>
        intro k hk
        rw [wrongF_ok, ih (k + 1) (by omega)]
        have hk' : k < l.length := by omega
        have e := h2 _ (List.getElem_mem hk')
        unfold bad
        rw [(tm_get hk').1, (tm_get hk').2, if_neg (by simp [e]), if_neg]
        rintro ⟨p, q⟩
        have := h3 (k - 1) k (by omega) hk' (by omega)
        rw [(tm_get (k := k - 1) (by omega)).1] at q
        omega
    rw [key _ 0 (by omega)]

end Grain

/-
  What is not in the window is no matter. No program is named here.
-/
namespace Go.GrainU
open Go.RowKit

/-- lines without all samples that are not in a window -/
def wnL (f t : Int) (l : List Ln) : List Ln := l.map fun x => (x.1, Grain.win x.2 f t)

theorem win_win (s : List (Int × Int)) (f t : Int) : Grain.win (Grain.win s f t) f t = Grain.win s f t := by
  simp [Grain.win, List.filter_filter]

theorem wn_winC (h : Hd) (time : Int) : ∀ l : List Ln, winC (wnL (time - h.range) time l) h time = winC l h time
  | [] => rfl
  | x :: r => by
    have e : winX (x.1, Grain.win x.2 (time - h.range) time) h time = winX x h time := by
      have hv : winV (x.1, Grain.win x.2 (time - h.range) time) h time = winV x h time := by
        unfold winV
        simp only [win_win]
      unfold winX
      rw [hv]
    show winX (x.1, Grain.win x.2 (time - h.range) time) h time ++ winC (wnL (time - h.range) time r) h time = _
    rw [e, wn_winC h time r]
    rfl

theorem wn_right {s : List (Int × Int)} (h : (Grain.wrong s).1 = 0) (f t : Int) : (Grain.wrong (Grain.win s f t)).1 = 0 := by
  obtain ⟨h1, h2, h3⟩ := (Grain.right_iff s).1 h
  refine (Grain.right_iff _).2 ⟨Nat.le_trans (List.length_filter_le _ _) h1, fun x hx => h2 x (List.mem_filter.1 hx).1, h3.filter _⟩

theorem wnL_ser (f t : Int) (l : List Ln) (k : Nat) : lser (wnL f t l) k = lser l k := by
  simp only [lser, wnL, List.getD, List.getElem?_map]
  cases l[k]? <;> rfl
theorem wnL_smp (f t : Int) (l : List Ln) (k : Nat) : lsmp (wnL f t l) k = Grain.win (lsmp l k) f t := by
  simp only [lsmp, wnL, List.getD, List.getElem?_map]
  cases l[k]? <;> rfl

theorem wn_lnBad {l : List Ln} {k : Nat} (h : lnBad l k = 0) (f t : Int) : lnBad (wnL f t l) k = 0 := by
  unfold lnBad at *
  by_cases ha : lnAlone (lser l k, lsmp l k) = 0
  · have hb : lnAlone (lser (wnL f t l) k, lsmp (wnL f t l) k) = 0 := by
      rw [wnL_ser, wnL_smp]
      unfold lnAlone at *
      by_cases hs : wrongS (lser l k) = 0
      · simp only [hs, if_true] at *
        exact wn_right ha f t
      · simp only [hs, if_false] at *
    rw [if_pos ha] at h
    rw [if_pos hb, wnL_ser, wnL_ser]
    exact h
  · rw [if_neg ha] at h; exact absurd h ha

theorem wrLF_all {l : List Ln} : ∀ n k, (wrLF l n k).1 = 0 → ∀ j, k ≤ j → j < k + n → lnBad l j = 0
  | 0, _, _ => fun j h1 h2 => by omega
  | n + 1, k, h => by
    intro j h1 h2
    by_cases hb : lnBad l k = 0
    · rw [wrLF_ok hb] at h
      rcases (show j = k ∨ k + 1 ≤ j from by omega) with e | e
      · subst e; exact hb
      · exact wrLF_all n (k + 1) h j e (by omega)
    · rw [wrLF_no hb] at h; exact absurd h hb

theorem wrLF_of {l : List Ln} : ∀ n k, (∀ j, k ≤ j → j < k + n → lnBad l j = 0) → wrLF l n k = (0, 0)
  | 0, _, _ => rfl
  | n + 1, k, h => by rw [wrLF_ok (h k (by omega) (by omega)), wrLF_of n (k + 1) (fun j h1 h2 => h j (by omega) (by omega))]

theorem wn_wrLn {l : List Ln} (h : (wrLn l).1 = 0) (f t : Int) : (wrLn (wnL f t l)).1 = 0 := by
  unfold wrLn at *
  have hl : (wnL f t l).length = l.length := by simp [wnL]
  rw [hl]
  by_cases h8 : 8 < l.length
  · rw [if_pos h8] at h; exact absurd h (by decide)
  · rw [if_neg h8] at *
    rw [wrLF_of _ _ (fun j h1 h2 => wn_lnBad (wrLF_all _ _ h j h1 h2) f t)]

/-- WHAT IS NOT IN THE WINDOW IS NO MATTER -/
theorem wn_ask {time : Int} {l : List Ln} {h : Hd} {kids : List Ex} (hk : h.kind = 2) (hok : (GrainU.ask l (.mk h kids) time).2 = 0) : GrainU.ask (wnL (time - h.range) time l) (.mk h kids) time = GrainU.ask l (.mk h kids) time := by
  have hev : ∀ m, ev m time (.mk h kids) = some ⟨false, winC m h time⟩ := fun m => by
    rw [ev, if_neg (by omega), if_pos hk]
  unfold GrainU.ask at *
  by_cases h1 : (wrLn l).1 = 0
  · rw [if_pos h1, if_pos (wn_wrLn h1 _ _), hev, hev, wn_winC]
  · rw [if_neg h1] at hok; exact absurd hok h1

end Go.GrainU

/-
  The walk of MeanWindow.
-/
namespace Go.GrainU
open Go.RowKit

theorem lnsw_append (a b : List LT) : lns (a ++ b) = lns a ++ lns b := by simp [lns]
theorem wnL_append (f t : Int) (a b : List Ln) : wnL f t (a ++ b) = wnL f t a ++ wnL f t b := by simp [wnL]

theorem ex_mk (t : ET) : t.ex = .mk t.hd (exL t.kids) := by cases t; rfl

/-- a window that was asked for and answered is of a right length -/
theorem win_range {l : List Ln} {h : Hd} {kids : List Ex} {time : Int} (hk : h.kind = 2) (hok : (GrainU.ask l (.mk h kids) time).2 = 0) : 1 ≤ h.range ∧ h.range ≤ 100000 ∧ 0 ≤ time ∧ time ≤ 1000000 := by
  unfold GrainU.ask at hok
  by_cases h1 : (wrLn l).1 = 0
  · rw [if_pos h1] at hok
    by_cases h2 : chk (.mk h kids) time = 0
    · obtain ⟨r, t0, t1⟩ := chk_zero h2
      obtain ⟨ha, _⟩ := r.parts
      rcases alone_cases ha with ⟨e, _⟩ | ⟨e, _, wb⟩ | ⟨e, _⟩ | ⟨e, _⟩
      · omega
      · have : ¬ (h.range < 1 ∨ 100000 < h.range) := by
          intro hc
          unfold winBad at wb
          by_cases h3 : has words8 h.word = false
          · rw [if_pos h3] at wb; simp at wb
          · rw [if_neg h3] at wb
            by_cases h4 : 5 < h.ms.length
            · rw [if_pos h4] at wb; simp at wb
            · rw [if_neg h4] at wb
              by_cases h5 : msBad h.ms = 0
              · rw [if_pos h5, if_pos hc] at wb; simp at wb
              · rw [if_neg h5] at wb; exact h5 wb
        omega
      · omega
      · omega
    · rw [if_neg h2] at hok; exact absurd hok h2
  · rw [if_neg h1] at hok; exact absurd hok h1

end Go.GrainU
namespace Go.Proofs.Ytjgdjbphelkdoad
open Go.RowKit Go.GrainU

set_option maxRecDepth 100000 in
set_option maxHeartbeats 8000000 in
theorem mwindow_any (l : List LT) (t : ET) (time : Int) (ao : Option Addr) (n cap : Nat) (w : World) (hs : Seg w ao (tcells l)) (hl : LnsIn w l) (hq : ∀ x ∈ l, x.smp.length * 16 ≤ 140737488355328) (hin : t.In w) (hn : n = l.length) (hb : n * 48 ≤ 140737488355328) :
    Calls Try.prog 6 #[.slice ao n cap, eval t, .int .i64 time] w fun e w' => e = .returned (.bool true) ∧ Below w.heap.size w w' := by
  obtain ⟨V, hV⟩ : ∃ V, V = w.alloc (.cells #[.int .i64 t.hd.kind, .int .i64 t.hd.n, .int .i64 t.hd.range, .string t.hd.word, .slice t.sp.ma t.hd.ms.length t.sp.mc, .slice t.sp.ba t.hd.bs.length t.sp.bc, .slice t.sp.ka t.kids.length t.sp.kc] 27) := ⟨_, rfl⟩
  obtain ⟨X, hX⟩ : ∃ X, X = w.heap.size := ⟨_, rfl⟩
  have bel : Below w.heap.size w V := by rw [hV]; exact (Below.refl _ _).alloc (Nat.le_refl _) _
  have F0 : V.heap[X]? = some (.cells #[.int .i64 t.hd.kind, .int .i64 t.hd.n, .int .i64 t.hd.range, .string t.hd.word, .slice t.sp.ma t.hd.ms.length t.sp.mc, .slice t.sp.ba t.hd.bs.length t.sp.bc, .slice t.sp.ka t.kids.length t.sp.kc] 27 (0, 0)) := by rw [hV, hX]; exact heap_alloc_new w _
  have He : Hid (eval t = .agg #[.int .i64 t.hd.kind, .int .i64 t.hd.n, .int .i64 t.hd.range, .string t.hd.word, .slice t.sp.ma t.hd.ms.length t.sp.mc, .slice t.sp.ba t.hd.bs.length t.sp.bc, .slice t.sp.ka t.kids.length t.sp.kc]) := rfl
  have HV := hide hV
  have HX := hide hX
  have HN := hide hn
  have HQ := hide hq
  rw [He.out]
  clear hV hX hn hq
  go_enter Try.func6, Try.ntmps6
  go_wp2_with fail
  rw [← HV.out, ← HX.out]
  refine (malive_any V).mono ?_
  rintro e wa ⟨rfl, hba⟩
  have bela : Below w.heap.size w wa := bel.trans (hba.mono bel.size)
  have Fa := below_block hba F0
  have hsa := hs.below bela
  have hla := hl.below bela
  have hina := ET.In.below bela t hin
  clear HV hba F0 hs hl hin bel
  obtain ⟨p0, p1, p2, p3, p4, p5, p6⟩ := seven_cells Fa
  have xla : X < wa.heap.size := lt_of_block Fa
  go_wp2_with fail
  rw [← He.out]
  refine (mask_any l t time ao n cap wa hsa hla hina HN.out).mono ?_
  rintro e w0 ⟨ca, co, Na, da, rfl, hca, hNa, csa, hb6⟩
  rw [He.out]
  obtain ⟨E1, hE1⟩ : ∃ E, E = (GrainU.ask (lns l) t.ex time).2 := ⟨_, rfl⟩
  rw [← hE1]
  have HE1 := hide hE1
  have F1 := below_block hb6 Fa
  have bel0 : Below w.heap.size w w0 := bela.trans (hb6.mono bela.size)
  have hs0 := hsa.below hb6
  have hl0 := hla.below hb6
  have hin0 := ET.In.below hb6 t hina
  have HCA := hide hca
  have HNA := hide hNa
  clear hE1 hca hNa p0 p1 p2 p3 p4 p5 p6 hb6 Fa hsa hla hina bela xla
  obtain ⟨p0, p1, p2, p3, p4, p5, p6⟩ := seven_cells F1
  have xl0 : X < w0.heap.size := lt_of_block F1
  by_cases g : E1 = 0 ∧ t.hd.kind = 2
  · obtain ⟨g1, g2⟩ := g
    have hok : (GrainU.ask (lns l) (.mk t.hd (exL t.kids)) time).2 = 0 := by rw [← ex_mk]; exact HE1.out.symm.trans g1
    obtain ⟨r1, r2, r3, r4⟩ := win_range g2 hok
    have WA : Hid (GrainU.ask (wnL (time - t.hd.range) time (lns l)) t.ex time = GrainU.ask (lns l) t.ex time) := by
      show _ = _
      rw [ex_mk]; exact wn_ask g2 hok
    obtain ⟨rg, hrg⟩ : ∃ r, r = t.hd.range := ⟨_, rfl⟩
    have p0' : w0.cell? ⟨X, 0, none⟩ = some (.int .i64 2) := by rw [p0, g2]
    have HG1 := hide g1
    rw [g1]
    have HRG := hide hrg
    rw [← hrg] at r1 r2 WA
    have p2' : w0.cell? ⟨X, 2, none⟩ = some (.int .i64 rg) := by rw [hrg]; exact p2
    clear g1 g2 hok hrg p0 p2
    obtain ⟨il, hil, hl0', hl1', hl2'⟩ := info_parts Try.infoLine
    obtain ⟨is, his, hs0', hs1', hs2'⟩ := info_parts Try.infoSmpX
    go_wp2_with fail
    go_loopw [9, 35] (fun m i wr => ∃ (k mc : Nat) (mo : Option Addr) (ms : List LT), k ≤ n ∧ i = .int .i64 k ∧ m = .slice mo k mc ∧ Hid (lns ms = wnL (time - rg) time (lns (l.take k))) ∧ LI w0 wr mo k mc ms) (fun _ i _ => n - (intOf i).toNat)
    case atStart => exact ⟨0, 0, none, [], Nat.zero_le _, rfl, rfl, rfl, ⟨World.ownsRow_nil _ _ _ _, fun x hx => (by cases hx), Below.refl _ _⟩⟩
    case round =>
      obtain ⟨k, mc, mo, ms, hk, rfl, rfl, HM, li⟩ := hrel
      by_cases hlt : k < n
      · have hkl : k < l.length := by rw [← HN.out]; exact hlt
        obtain ⟨b, off, rfl, hbl, hcell⟩ := seg_line hs0 hkl
        obtain ⟨x, hx⟩ : ∃ x, x = lt l k := ⟨_, rfl⟩
        have hxo : LnOk w0 x := by rw [hx]; exact hl0 _ (lt_mem hkl)
        have hxq : x.smp.length * 16 ≤ 140737488355328 := by rw [hx]; exact HQ.out _ (lt_mem hkl)
        obtain ⟨sn, hsn⟩ : ∃ m, m = x.ser.length := ⟨_, rfl⟩
        obtain ⟨pn, hpn⟩ : ∃ m, m = x.smp.length := ⟨_, rfl⟩
        have c0 : wr.cell? ⟨b, off + k * 2, none⟩ = some (.slice x.sa sn x.sc) := by rw [hsn, hx]; exact (li.bel.cell (by exact hbl)).trans (hcell k hkl).1
        have c1 : wr.cell? ⟨b, off + k * 2 + 1, none⟩ = some (.slice x.pa pn x.pc) := by rw [hpn, hx]; exact (li.bel.cell (by exact hbl)).trans (hcell k hkl).2
        have HT : Hid (l.take (k + 1) = l.take k ++ [x]) := by show _ = _; rw [hx]; exact take_lt hkl
        have HSn := hide hsn
        have HPn := hide hpn
        rw [← hpn] at hxq
        clear hx hsn hpn hkl hcell p0' p1 p2' p3 p4 p5 p6
        obtain ⟨wk, hwk⟩ : ∃ W, W = wr := ⟨_, rfl⟩
        obtain ⟨Z, hZ⟩ : ∃ Z, Z = wk.heap.size := ⟨_, rfl⟩
        rw [← hwk] at c0 c1 li ⊢
        clear hwk
        obtain ⟨Wd, hWd⟩ : ∃ W, W = (wk.alloc (.cells #[.slice x.sa sn x.sc, .slice x.pa pn x.pc] 49)).alloc (.cells #[.slice x.sa sn x.sc, .slice none 0 0] 49) := ⟨_, rfl⟩
        have di0 : DI wk Wd (.slice x.sa sn x.sc) (.slice x.pa pn x.pc) none 0 0 [] := by rw [hWd]; exact DI.start _ _ _
        have HWd := hide hWd
        have HZ := hide hZ
        clear hWd hZ
        go_wp2_with fail
        rw [← HWd.out, ← HZ.out]
        go_loopw [45] (fun j wi => ∃ (q p pc : Nat) (po : Option Addr), q ≤ pn ∧ p ≤ q ∧ j = .int .i64 q ∧ DI wk wi (.slice x.sa sn x.sc) (.slice x.pa pn x.pc) po p pc (Grain.win (x.smp.take q) (time - rg) time)) (fun j _ => pn - (intOf j).toNat)
        case atStart => exact ⟨0, 0, 0, none, Nat.zero_le _, Nat.le_refl _, rfl, by simpa [Grain.win] using di0⟩
        case round =>
          obtain ⟨q, pp, pc, po, hq, hpq, rfl, di⟩ := hrel
          have bw : Below w0.heap.size w0 wr := li.bel.trans (di.bel.mono li.bel.size)
          by_cases hlq : q < pn
          · have hql : q < x.smp.length := by rw [← HPn.out]; exact hlq
            obtain ⟨b2, off2, hpa, hcell2⟩ := hxo.smp.sample hql
            have hb2 : b2 < w0.heap.size := World.block_lt_of_cell? w0 ⟨b2, off2 + q * 2, none⟩ (hcell2 q hql).1
            obtain ⟨T, hT⟩ : ∃ T, T = Grain.tm x.smp q := ⟨_, rfl⟩
            obtain ⟨U, hU⟩ : ∃ U, U = Grain.vl x.smp q := ⟨_, rfl⟩
            have e0 : wr.cell? ⟨b2, off2 + q * 2, none⟩ = some (.int .i64 T) := by rw [hT]; exact (bw.cell (by exact hb2)).trans (hcell2 q hql).1
            have e1 : wr.cell? ⟨b2, off2 + q * 2 + 1, none⟩ = some (.int .i64 U) := by rw [hU]; exact (bw.cell (by exact hb2)).trans (hcell2 q hql).2
            have HTk : Hid (Grain.win (x.smp.take (q + 1)) (time - rg) time = if time - rg ≤ T ∧ T < time then Grain.win (x.smp.take q) (time - rg) time ++ [(T, U)] else Grain.win (x.smp.take q) (time - rg) time) := by
              show _ = _
              rw [hT, hU, Grain.take_tm hql, Grain.win_snoc]
            have HPA := hide hpa
            clear hT hU hcell2 hql
            obtain ⟨W1, hW1⟩ : ∃ W, W = wr.alloc (.cells #[.int .i64 T, .int .i64 U] 54) := ⟨_, rfl⟩
            obtain ⟨Y, hY⟩ : ∃ Y, Y = wr.heap.size := ⟨_, rfl⟩
            have hbW1 : Below wr.heap.size wr W1 := by rw [hW1]; exact (Below.refl _ _).alloc (Nat.le_refl _) _
            have di1 := di.call hbW1
            have S1 : W1.heap[Y]? = some (.cells #[.int .i64 T, .int .i64 U] 54 (0, 0)) := by rw [hW1, hY]; exact heap_alloc_new wr _
            have F2 := below_block hbW1 (below_block bw F1)
            obtain ⟨i0, i1, i2, i3, i4, i5, i6⟩ := seven_cells F2
            rw [← HRG.out] at i2
            have xl1 : X < W1.heap.size := lt_of_block F2
            have HW1 := hide hW1
            have HY := hide hY
            clear hW1 hY hbW1 i0 i1 i3 i4 i5 i6 F2
            rw [hpa] at c1 di0 di di1 ⊢
            clear hpa
            by_cases hT : time - rg ≤ T ∧ T < time
            · have HTk' : Hid (Grain.win (x.smp.take (q + 1)) (time - rg) time = Grain.win (x.smp.take q) (time - rg) time ++ [(T, U)]) := by show _ = _; rw [HTk.out, if_pos hT]
              obtain ⟨hT0, hT1⟩ := hT
              have j1 : decide (T < time) = true := by simp; omega
              have j2 : decide (time - rg ≤ T) = true := by simp; omega
              go_upto_region 14 with fail
              rw [← HW1.out, ← HY.out]
              obtain ⟨s0, s1, _, _⟩ := two_cells S1
              obtain ⟨v0, v1, f0, f1⟩ := two_cells di1.db
              have dl : wk.heap.size + 1 < W1.heap.size := lt_of_block di1.db
              rw [← HZ.out] at v0 v1 f0 f1
              go_wp2_with (at_builtin; refine wpList_append_lies _ rfl _ _ 47 rfl (wk.heap.size + 2) 54 is (.agg #[.int .i64 0, .int .i64 0]) 2 16 Try.underlying47 his hs0' hs1' hs2' rfl (by decide) _ _ _ rfl (di1.own.alloc _) ⟨W1.heap.size, 0, none⟩ 1 1 [.int .i64 T, .int .i64 U] rfl rfl (news_two rfl _ _ _) (by simp [Value.oneCell']) (by decide) (by unfold maxLen; omega) (by omega) (by simp; omega) (W1.heap.size + 1) (by simp) ?_)
              intro g' cp' w5 own5 gr5 hat5 hlt5
              have di2 := (di1.call ((Below.refl W1.heap.size W1).alloc (Nat.le_refl _) (.cells #[.int .i64 T, .int .i64 U] 54)))
              obtain ⟨k1, k2, k3⟩ := di2.grown gr5
              have di3 := di2.push T U own5 gr5
              obtain ⟨v0', v1', f0', f1'⟩ := two_cells k2
              rw [← HZ.out] at v0' v1' f0' f1' di3
              have di4 : DI wk (w5.setCell ⟨Z + 1, 1, none⟩ (.slice (some ⟨g', 0, none⟩) (pp + 1) cp')) (.slice x.sa sn x.sc) (.slice (some ⟨b2, off2, none⟩) pn x.pc) (some ⟨g', 0, none⟩) (pp + 1) cp' (Grain.win (x.smp.take (q + 1)) (time - rg) time) := by
                rw [HTk'.out]; exact di3
              clear own5 gr5 hat5 hlt5 di1 di2 di3 k1 k2 k3 v0 v1 f0 f1 s0 s1 S1 HTk HTk'
              go_wp2
              go_roundw
              case rel => exact ⟨q + 1, pp + 1, cp', _, by omega, by omega, by go_num, di4⟩
              case measure => simp [intOf]; omega
            · have HTk' : Hid (Grain.win (x.smp.take (q + 1)) (time - rg) time = Grain.win (x.smp.take q) (time - rg) time) := by show _ = _; rw [HTk.out, if_neg hT]
              have di4 : DI wk W1 (.slice x.sa sn x.sc) (.slice (some ⟨b2, off2, none⟩) pn x.pc) po pp pc (Grain.win (x.smp.take (q + 1)) (time - rg) time) := by rw [HTk'.out]; exact di1
              have hr2 : Hid (T < time - rg ∨ time ≤ T) := by show _ ∨ _; omega
              clear hT HTk HTk' di1
              go_upto_region 14 with fail
              rw [← HW1.out, ← HY.out]
              obtain ⟨s0, s1, _, _⟩ := two_cells S1
              by_cases hT2 : T < time
              · have j1 : decide (T < time) = true := by simpa using hT2
                have j2 : decide (time - rg ≤ T) = false := by have := hr2.out; simp; omega
                go_wp2
                go_roundw
                case rel => exact ⟨q + 1, pp, pc, po, by omega, by omega, by go_num, di4⟩
                case measure => simp [intOf]; omega
              · have j1 : decide (T < time) = false := by simpa using hT2
                go_wp2
                go_roundw
                case rel => exact ⟨q + 1, pp, pc, po, by omega, by omega, by go_num, di4⟩
                case measure => simp [intOf]; omega
          · have hqe : q = pn := by omega
            subst hqe
            have HTq : Hid (x.smp.take q = x.smp) := by show _ = _; exact List.take_of_length_le (by rw [← HPn.out]; omega)
            rw [HTq.out] at di
            obtain ⟨v0, v1, f0, f1⟩ := two_cells di.db
            have dl : wk.heap.size + 1 < wr.heap.size := lt_of_block di.db
            rw [← HZ.out] at v0 v1 f0 f1
            have li1 := li.call di.bel
            have liA := li1.call ((Below.refl wr.heap.size wr).alloc (Nat.le_refl _) (.cells #[.slice x.sa sn x.sc, .slice po pp pc] 49))
            have hbs := li1.bel.size
            go_wp2_with (at_builtin; refine wpList_append_lies _ rfl _ _ 22 rfl w0.heap.size 49 il (.agg #[.slice none 0 0, .slice none 0 0]) 2 48 Try.underlying22 hil hl0' hl1' hl2' rfl (by decide) _ _ _ rfl liA.row ⟨wr.heap.size, 0, none⟩ 1 1 [.slice x.sa sn x.sc, .slice po pp pc] rfl rfl (news_two rfl _ _ _) (by simp [Value.oneCell']) (by decide) (by unfold maxLen; omega) (by omega) (by simp; omega) (wr.heap.size + 1) (by simp) ?_)
            intro g' cp' w5 own5 gr5 hat5 hlt5
            have hlen : (Grain.win x.smp (time - rg) time).length = pp := (own_slen di.own).symm
            have ox := own_below (di.own) ((Below.refl wr.heap.size wr).alloc (Nat.le_refl _) (.cells #[.slice x.sa sn x.sc, .slice po pp pc] 49))
            have hzk := HZ.out
            have lw := li.bel.size
            have li2 := liA.push ⟨x.ser, Grain.win x.smp (time - rg) time, x.sa, x.sc, po, pc⟩ ⟨hxo.ser, hxo.fit, hxo.ls, hxo.nil⟩ (by show (Grain.win x.smp (time - rg) time).length * 16 ≤ _; rw [hlen]; omega) (by show World.ownsRow _ _ _ _ (.slice po (Grain.win x.smp (time - rg) time).length pc) (Grain.win x.smp (time - rg) time).length _; rw [hlen]; exact mown_down ox (by omega)) (by show World.ownsRow _ _ _ _ _ _ (tcells ms ++ [.slice x.sa x.ser.length x.sc, .slice po (Grain.win x.smp (time - rg) time).length pc]); rw [hlen, ← HSn.out]; exact own5) gr5
            have HM' : Hid (lns (ms ++ [⟨x.ser, Grain.win x.smp (time - rg) time, x.sa, x.sc, po, pc⟩]) = wnL (time - rg) time (lns (l.take (k + 1)))) := by
              show _ = _
              rw [HT.out, lnsw_append, lnsw_append, wnL_append, HM.out]; rfl
            clear own5 gr5 hat5 hlt5 ox liA li1 di HM v0 v1 f0 f1
            go_wp2
            go_roundw
            case rel => exact ⟨k + 1, cp', _, _, by omega, by go_num, rfl, HM', li2⟩
            case measure => simp [intOf]; omega
      · have he : k = n := by omega
        subst he
        have HTk : Hid (l.take k = l) := by show _ = _; exact List.take_of_length_le (by rw [← HN.out]; omega)
        rw [HTk.out] at HM
        have LA : Hid (GrainU.ask (lns ms) t.ex time = GrainU.ask (lns l) t.ex time) := by
          show _ = _
          rw [HM.out]; exact WA.out
        clear p0' p1 p2' p3 p4 p5 p6
        have F2 := below_block li.bel F1
        obtain ⟨p0, p1, p2, p3, p4, p5, p6⟩ := seven_cells F2
        have xl : X < wr.heap.size := lt_of_block F2
        have bw : Below w.heap.size w wr := bel0.trans (li.bel.mono bel0.size)
        have hin1 := ET.In.below li.bel t hin0
        have csa1 := csa.below li.bel
        have hml : k = ms.length := by have := li.row.1; rw [tcells_length] at this; omega
        have HML := hide hml
        clear hml
        go_wp2_with fail
        rw [← He.out]
        refine (mask_any ms t time mo k mc wr (mown_facts li.row).1 li.lns hin1 HML.out).mono ?_
        rintro e w7 ⟨cb, bo, Nb, db, rfl, hcb, hNb, csb, hb7⟩
        rw [LA.out] at hcb ⊢
        rw [← HE1.out, HG1.out]
        have bw7 : Below w.heap.size w w7 := bw.trans (hb7.mono bw.size)
        have csa7 := csa1.below hb7
        have ag := ask_gd l t.ex time
        have h8 : ∀ z ∈ ca, z.ser.length ≤ 9223372036854775807 := by
          intro z hz
          have := ag.1 z.cl (by rw [← HCA.out]; exact List.mem_map_of_mem hz)
          have h2 : z.ser.length ≤ 4 := this
          omega
        have hn8 : Na ≤ 9223372036854775806 := by
          have := ag.2
          rw [← HCA.out, cls_len, ← HNA.out] at this
          omega
        have SC := hide (rsamec_any ca cb co bo Na Nb da db w7 csa7 csb HNA.out hNb (by rw [HCA.out, hcb]) h8 hn8)
        clear hcb hNb h8 hn8 ag csa csa1 csa7 csb p0 p1 p2 p3 p4 p5 p6 hb7
        go_wp2_with fail
        refine SC.out.mono ?_
        rintro e w8 ⟨rfl, hb8⟩
        go_wp2
        go_ret
        exact ⟨rfl, bw7.trans (hb8.mono bw7.size)⟩
  · have hr : Hid (E1 ≠ 0 ∨ t.hd.kind ≠ 2) := by show _ ∨ _; omega
    clear g
    by_cases z : E1 = 0
    · have q0 : (t.hd.kind == 2) = false := by have := hr.out; simp; omega
      rw [z]
      go_wp2
      go_ret
      exact ⟨rfl, bel0⟩
    · have q1 : (E1 == 0) = false := by simpa using z
      go_wp2
      go_ret
      exact ⟨rfl, bel0⟩

end Go.Proofs.Ytjgdjbphelkdoad

/-
  For every input, MeanWindow returns true: of lines without all samples that are not in the window the same comes. No condition.
-/
namespace Go.Proofs.Ytjgdjbphelkdoad
open Go.ChangeShapes Go.WideShapes Go.ChangeAt Go.RowKit Go.GrainU

theorem mwtrodAll_three {H : Type} {enc : TypeId × Value → H} {P : Program} {w : World} {base : Nat} {sp : Nat → Bool} {held : Bool} {t0 t1 t2 : TypeId} {args : Array Value} {ds : List (DataW H)} {p : List MemPlace} (h : DataW.TrodAll enc P w base sp held [t0, t1, t2] args.toList ds p) :
    ∃ v0 v1 v2 d0 d1 d2 p0 p1 p2, args = #[v0, v1, v2] ∧ ds = [d0, d1, d2] ∧ p = p0 ++ (p1 ++ (p2 ++ [])) ∧ DataW.Trod enc P w base sp held t0 v0 d0 p0 ∧ DataW.Trod enc P w base sp held t1 v1 d1 p1 ∧ DataW.Trod enc P w base sp held t2 v2 d2 p2 := by
  obtain ⟨v0, vs0, d0, ds0, p0, q0, e0, rfl, rfl, h0, r0⟩ := trodAll_cons h
  obtain ⟨v1, vs1, d1, ds1, p1, q1, e1, rfl, rfl, h1, r1⟩ := trodAll_cons r0
  obtain ⟨v2, vs2, d2, ds2, p2, q2, e2, rfl, rfl, h2, r2⟩ := trodAll_cons r1
  obtain ⟨rfl, rfl, rfl⟩ := trodAll_nil r2
  refine ⟨v0, v1, v2, d0, d1, d2, p0, p1, p2, ?_, rfl, rfl, h0, h1, h2⟩
  cases args
  simp_all

theorem mw_array {cs : Array Value} {l : List Value} (h : cs.toList = l) : cs = l.toArray := by rw [← h]

set_option maxRecDepth 100000 in
theorem mwindow_lifted (os : Os) (started : os.Started) (H : Type) (enc : TypeId × Value → H) :
    ReturnsInHanded {} Try.checked os 6 .any (Rows.meanWindowSpec.pre6 enc Try.prog Try.f6 Rows.meanWindowRow.domain false) (Rows.meanWindowSpec.post enc Try.prog Try.f6 false true false false) := by
  refine returnsInHanded_of_change_sized (C := Try.checked) Try.own started (by kernel_rfl) Try.func6
    (ChangeSpec.witness6 (enc := enc) (C := Try.checked) false ⟨#[], #[.slice none 0 0, .agg #[.int .i64 0, .int .i64 0, .int .i64 0, .string ⟨#[]⟩, .slice none 0 0, .slice none 0 0, .slice none 0 0], .int .i64 0], []⟩ 8 (by kernel_rfl) (by kernel_rfl) (by kernel_rfl) (by kernel_rfl)) ?_
  intro W base args ds gs before hval0 hW hcnd hsz0 _
  have hval : ∀ (j : Nat) t v, Try.f6.params[j]? = some t → args[j]? = some v → Value.okWide Try.prog W .any base t v := hval0
  have hsz : (DataW.weightsEach Try.prog (Try.f6.params.toList ++ Rows.meanWindowSpec.plain.varTypes Try.prog) (ds ++ gs)).all (· ≤ reachBytes) = true := hsz0
  have hW' := hW
  obtain ⟨p, q, hA0, hV, rfl, hfz, hnd⟩ := hW
  have hA : DataW.TrodAll enc Try.prog W 0 (fun _ => true) true Try.f6.params.toList args.toList ds p := hA0
  rw [Try.params6] at hA hval hsz
  obtain ⟨v0, v1, v2, d0, d1, d2, p0, p1, p2, rfl, rfl, rfl, h0, h1, h2⟩ := mwtrodAll_three hA
  obtain ⟨rfl, rfl⟩ := trodVars_none hV
  have lt0 : ∀ x ∈ p0, x.block < W.heap.size := by obtain ⟨m, hm⟩ := h0; exact DataW.trod_lt m _ _ _ hm
  have lt1 : ∀ x ∈ p1, x.block < W.heap.size := by obtain ⟨m, hm⟩ := h1; exact DataW.trod_lt m _ _ _ hm
  obtain ⟨a0, len0, cap0, rfl⟩ := okWide_slice Try.underlying22 (hval 0 22 v0 rfl rfl)
  obtain ⟨cs, rfl, hcs⟩ := okWide_struct Try.underlying27 (hval 1 27 v1 rfl rfl)
  obtain ⟨z2, rfl, rfl, rfl, w2⟩ := open_int Try.underlying3 (hval 2 3 v2 rfl rfl) h2
  have k0 := h0
  have k1 := h1
  obtain ⟨f0, hf0⟩ := h0
  obtain ⟨f1, hf1⟩ := h1
  obtain ⟨l, ao, cap, e0, sg, ln, hb⟩ := open_lines hf0 (fun k hk => of_decide_eq_true (List.all_eq_true.1 hsz k (DataW.weights_mem_each (j := 0) rfl rfl k hk)))
  obtain ⟨t, ht, hin⟩ := open_expr f1 _ _ hf1 (fun k hk => of_decide_eq_true (List.all_eq_true.1 hsz k (DataW.weights_mem_each (j := 1) rfl rfl k hk)))
  simp only [Value.cells, List.cons.injEq, Value.slice.injEq, and_true] at e0
  obtain ⟨rfl, rfl, rfl⟩ := e0
  have hv : Value.agg cs = eval t := by
    simp only [Value.cells] at ht
    rw [mw_array ht]
    rfl
  clear hA0 hval0 hsz0 hsz
  rw [hv] at hW' k1 ⊢
  refine (mwindow_any l t z2 a0 l.length cap0 W sg (fun x hx => (ln x hx).ok) (fun x hx => (ln x hx).lp) hin rfl hb).mono fun e W' ⟨he, bel⟩ => ?_
  subst he
  exact ⟨_, rfl, _, _, _, [], _, [], hW', trodAll_mk1 (shut_bool Try.underlying4 _), (trodAll_cons_mk (Below.trod Try.laidOut (by kernel_rfl) (of_decide_eq_true (by kernel_rfl)) k0 bel lt0) (trodAll_cons_mk (Below.trod Try.laidOut (by kernel_rfl) (of_decide_eq_true (by kernel_rfl)) k1 bel lt1) (trodAll_cons_mk (shut_int Try.underlying3 w2) trodAll_mk0))), rfl, bel.frame _, fun h => by cases h⟩

theorem mwindow_holds : Rows.MeanWindowSaid :=
  OpenClaim.holds_of_wide 6 Try.f6 rfl rfl rfl rfl rfl rfl rfl ⟨rfl, rfl, rfl, rfl, rfl⟩ rfl rfl rfl rfl rfl (by kernel_rfl) Try.func6 (by kernel_rfl)
    (of_decide_eq_true (by kernel_rfl)) (by unfold Func.isWrapper; first | (rw [if_pos (by decide +kernel)]; kernel_rfl) | (rw [if_neg (by decide +kernel)]; exact ⟨rfl, rfl⟩))
    (fun os started H enc _ => mwindow_lifted os started H enc)

end Go.Proofs.Ytjgdjbphelkdoad
