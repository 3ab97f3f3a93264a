/-
  Lists, matches, windows that were written are read. No program is named here.
-/
import Derived.Test.YtfgablhgjbjbkadGreatDoorPTa
namespace Go.GrainU
open Go.RowKit

/-- a match, as it comes back -/
def bareM (m : Mt) : Mt := if 2 < m.kind then ⟨m.kind, m.key, lit []⟩ else m
def bareH (h : Hd) : Hd :=
  if h.kind = 1 then ⟨1, h.n, 0, lit [], [], []⟩
  else if h.kind = 2 then ⟨2, 0, h.range, h.word, h.ms.map bareM, []⟩
  else if h.kind = 3 then ⟨3, 0, 0, h.word, [], h.bs⟩
  else ⟨h.kind, 0, 0, h.word, [], []⟩
mutual
/-- an expression, as it comes back -/
def bare : Ex → Ex
  | .mk h kids => .mk (bareH h) (bareL kids)
def bareL : List Ex → List Ex
  | [] => []
  | x :: l => bare x :: bareL l
end

/-- commas ahead of each, as bytes -/
def comB : List (List UInt8) → List UInt8
  | [] => []
  | x :: r => 44 :: (x ++ comB r)

theorem bl_commas (l : List ByteArray) : bl (commas l) = comB (l.map bl) := by
  induction l with
  | nil => simp [commas, comB, bl_lit]
  | cons a r ih => simp [commas, comB, bl_app, bl_lit, ih]

theorem lstF_read {α : Type} {part : List UInt8 → Except Flt (α × List UInt8)} {most : Nat} {S : List UInt8 → Prop} (hS : ∀ t, S (44 :: t)) :
    ∀ (items : List (List UInt8 × α)) (k : Nat) (l : List α) (r : List UInt8), (∀ x ∈ items, ∀ r, S r → part (x.1 ++ r) = .ok (x.2, r)) → S r → acc [44] r = none → l.length + items.length ≤ most → items.length ≤ k →
    lstF part most k l (comB (items.map (·.1)) ++ r) = .ok (l ++ items.map (·.2), r) := by
  intro items
  induction items with
  | nil =>
    intro k l r _ _ ha _ _
    cases k with
    | zero => simp [lstF, comB]
    | succ k => simp [lstF, comB, ha]
  | cons x items ih =>
    intro k l r hp hr ha hl hk
    cases k with
    | zero => simp at hk
    | succ k =>
      simp only [List.length_cons] at hl hk
      have h1 : acc [44] (comB ((x :: items).map (·.1)) ++ r) = some (x.1 ++ (comB (items.map (·.1)) ++ r)) := by
        simp only [List.map_cons, comB, List.cons_append, List.append_assoc]
        exact acc_hit (skip_of _ (by decide))
      have hS2 : S (comB (items.map (·.1)) ++ r) := by
        cases items with
        | nil => simpa [comB] using hr
        | cons y items => simp only [List.map_cons, comB, List.cons_append]; exact hS _
      have h2 := hp x (by simp) _ hS2
      unfold lstF
      rw [h1]
      simp only
      rw [if_neg (by omega), h2]
      simp only
      rw [ih k (l ++ [x.2]) r (fun y hy => hp y (by simp [hy])) hr ha (by simp; omega) (by omega)]
      simp

theorem lst_read {α : Type} {part : List UInt8 → Except Flt (α × List UInt8)} {most : Nat} {S : List UInt8 → Prop} (hS : ∀ t, S (44 :: t)) (x : List UInt8 × α) (items : List (List UInt8 × α)) (r : List UInt8)
    (hp : ∀ y ∈ x :: items, ∀ r, S r → part (y.1 ++ r) = .ok (y.2, r)) (hr : S r) (ha : acc [44] r = none) (hl : items.length + 1 ≤ most) :
    lst part most (x.1 ++ comB (items.map (·.1)) ++ r) = .ok (x.2 :: items.map (·.2), r) := by
  have hS2 : S (comB (items.map (·.1)) ++ r) := by
    cases items with
    | nil => simpa [comB] using hr
    | cons y items => simp only [List.map_cons, comB, List.cons_append]; exact hS _
  unfold lst
  rw [List.append_assoc, hp x (by simp) _ hS2]
  simp only
  rw [lstF_read hS items most [x.2] r (fun y hy => hp y (by simp [hy])) hr ha (by simp; omega) (by omega)]
  simp

/-- what may stand behind a match -/
def SepM (r : List UInt8) : Prop := ∃ c t, r = c :: t ∧ (c = 44 ∨ c = 125)
/-- what may stand behind a key -/
def SepK (r : List UInt8) : Prop := ∃ c t, r = c :: t ∧ (c = 44 ∨ c = 32)

theorem sepM_end {r : List UInt8} (h : SepM r) : ∀ c t, r = c :: t → wbyte c = false := by
  obtain ⟨c, t, rfl, h | h⟩ := h <;> (intro d u e; injection e with e _; rw [← e, h]; decide)
theorem sepK_end {r : List UInt8} (h : SepK r) : ∀ c t, r = c :: t → wbyte c = false := by
  obtain ⟨c, t, rfl, h | h⟩ := h <;> (intro d u e; injection e with e _; rw [← e, h]; decide)
theorem sepM_miss {r : List UInt8} (h : SepM r) : acc [61] r = none ∧ acc [33, 61] r = none := by
  obtain ⟨c, t, rfl, h | h⟩ := h <;> (subst h; exact ⟨acc_miss (skip_of _ (by decide)) (by decide), acc_miss2 (skip_of _ (by decide)) (by decide)⟩)

theorem ends_of {c : UInt8} {t : List UInt8} (h : wbyte c = false) : ∀ d u, c :: t = d :: u → wbyte d = false := by
  intro d u e; injection e with e _; rw [← e]; exact h

theorem mtc_read {m : Mt} (h : mBad m = 0) {r : List UInt8} (hr : SepM r) : mtc (bl (mtx m) ++ r) = .ok (bareM m, r) := by
  obtain ⟨h1, h2, h3, h4⟩ := mBad_ok h
  have hk := named_wordy h3
  obtain ⟨kd, key, val⟩ := m
  simp only at h1 h2 h3 h4 hk
  have hcases : kd = 1 ∨ kd = 2 ∨ kd = 3 ∨ kd = 4 := by omega
  rcases hcases with rfl | rfl | rfl | rfl
  · have hv := named_wordy (h4 (by omega))
    have e : bl (mtx ⟨1, key, val⟩) ++ r = bl key ++ (61 :: (bl val ++ r)) := by simp [mtx, bl_app, bl_lit]
    rw [e]
    obtain ⟨c, t, e1, hc, hs⟩ := wordy_skip hk (61 :: (bl val ++ r))
    unfold mtc
    rw [acc_miss hs (letter_ne' hc (by decide)), wrd_read hk (ends_of (by decide))]
    simp only
    rw [acc_hit (r' := bl val ++ r) (skip_of _ (by decide))]
    simp only
    rw [wrd_read hv (sepM_end hr)]
    simp [bareM, lit_bl]
  · have hv := named_wordy (h4 (by omega))
    have e : bl (mtx ⟨2, key, val⟩) ++ r = bl key ++ (33 :: 61 :: (bl val ++ r)) := by simp [mtx, bl_app, bl_lit]
    rw [e]
    obtain ⟨c, t, e1, hc, hs⟩ := wordy_skip hk (33 :: 61 :: (bl val ++ r))
    unfold mtc
    rw [acc_miss hs (letter_ne' hc (by decide)), wrd_read hk (ends_of (by decide))]
    simp only
    rw [acc_miss (c := 61) (d := 33) (skip_of _ (by decide)) (by decide)]
    simp only
    rw [acc_hit2 (r' := bl val ++ r) (skip_of _ (by decide))]
    simp only
    rw [wrd_read hv (sepM_end hr)]
    simp [bareM, lit_bl]
  · have e : bl (mtx ⟨3, key, val⟩) ++ r = bl key ++ r := by simp [mtx]
    rw [e]
    obtain ⟨c, t, e1, hc, hs⟩ := wordy_skip hk r
    unfold mtc
    rw [acc_miss hs (letter_ne' hc (by decide)), wrd_read hk (sepM_end hr)]
    simp only
    rw [(sepM_miss hr).1]
    simp only
    rw [(sepM_miss hr).2]
    simp [bareM, lit_bl]
  · have e : bl (mtx ⟨4, key, val⟩) ++ r = 33 :: (bl key ++ r) := by simp [mtx, bl_app, bl_lit]
    rw [e]
    unfold mtc
    rw [acc_hit (r' := bl key ++ r) (skip_of _ (by decide))]
    simp only
    rw [wrd_read hk (sepM_end hr)]
    simp [bareM, lit_bl]

/-- a match begins with a letter or an ! -/
theorem mtx_head {m : Mt} (h : mBad m = 0) (r : List UInt8) : ∃ c t, skip (bl (mtx m) ++ r) = c :: t ∧ ((125 : UInt8) == c) = false := by
  obtain ⟨h1, h2, h3, h4⟩ := mBad_ok h
  have hk := named_wordy h3
  obtain ⟨kd, key, val⟩ := m
  simp only at h1 h2 h3 h4 hk
  have hcases : kd = 1 ∨ kd = 2 ∨ kd = 3 ∨ kd = 4 := by omega
  rcases hcases with rfl | rfl | rfl | rfl
  · obtain ⟨c, t, e1, hc, hs⟩ := wordy_skip hk (61 :: (bl val ++ r))
    exact ⟨c, _, by rw [← hs]; simp [mtx, bl_app, bl_lit], letter_ne' hc (by decide)⟩
  · obtain ⟨c, t, e1, hc, hs⟩ := wordy_skip hk (33 :: 61 :: (bl val ++ r))
    exact ⟨c, _, by rw [← hs]; simp [mtx, bl_app, bl_lit], letter_ne' hc (by decide)⟩
  · obtain ⟨c, t, e1, hc, hs⟩ := wordy_skip hk r
    exact ⟨c, _, by rw [← hs]; simp [mtx], letter_ne' hc (by decide)⟩
  · refine ⟨33, bl key ++ r, ?_, by decide⟩
    simp only [mtx]
    exact skip_of _ (by decide)

theorem wnM_read {l : List Mt} (h : msBad l = 0) (hl : l.length ≤ 5) (r : List UInt8) : wnM (bl (jn (l.map mtx)) ++ 125 :: r) = .ok (l.map bareM, r) := by
  cases l with
  | nil =>
    have e : bl (jn (([] : List Mt).map mtx)) ++ 125 :: r = 125 :: r := by simp [jn, bl_lit]
    rw [e]
    unfold wnM
    rw [acc_hit (r' := r) (skip_of _ (by decide))]
    rfl
  | cons m l =>
    have hm := msBad_ok h
    have e : bl (jn ((m :: l).map mtx)) ++ 125 :: r = bl (mtx m) ++ comB ((l.map fun x => (bl (mtx x), bareM x)).map (·.1)) ++ 125 :: r := by
      simp [jn, bl_app, bl_commas, Function.comp_def]
    obtain ⟨c, t, hs, hc⟩ := mtx_head (hm m (by simp)) (comB ((l.map fun x => (bl (mtx x), bareM x)).map (·.1)) ++ 125 :: r)
    have hrd := lst_read (part := mtc) (most := 5) (S := SepM) (fun t => ⟨44, t, rfl, .inl rfl⟩) (bl (mtx m), bareM m) (l.map fun x => (bl (mtx x), bareM x)) (125 :: r)
      (fun y hy s hs => by
        rcases List.mem_cons.1 hy with e | e
        · rw [e]; exact mtc_read (hm m (by simp)) hs
        · obtain ⟨x, hx, rfl⟩ := List.mem_map.1 e
          exact mtc_read (hm x (by simp [hx])) hs)
      ⟨125, r, rfl, .inr rfl⟩ (acc_miss (skip_of _ (by decide)) (by decide)) (by simp at hl ⊢; omega)
    rw [e]
    unfold wnM
    rw [List.append_assoc, acc_miss hs hc, ← List.append_assoc, hrd]
    simp only
    rw [expe_hit (r' := r) (skip_of _ (by decide))]
    simp [Function.comp_def]

/-- a window's text, read behind its word -/
theorem wnd_read {h : Hd} (hb : winBad h = 0) (n : Nat) (hn : n + 1 ≤ 100) (r : List UInt8) :
    wnd h.word ⟨40 :: 123 :: (bl (jn (h.ms.map mtx)) ++ 125 :: 91 :: (Go.Lib.itoa h.range ++ 93 :: 41 :: r)), n⟩ = .ok (.mk ⟨2, 0, h.range, h.word, h.ms.map bareM, []⟩ [], ⟨r, n + 1⟩) := by
  obtain ⟨a1, a2, a3, a4, a5⟩ := winBad_ok hb
  unfold wnd
  simp only
  rw [expe_hit (c := 40) (skip_of _ (by decide))]
  simp only
  rw [expe_hit (c := 123) (skip_of _ (by decide))]
  simp only
  rw [wnM_read a3 a2]
  simp only
  rw [expe_hit (c := 91) (skip_of _ (by decide))]
  simp only
  rw [numb_read (by omega) (by omega) a4 a5 (fun c t e => by injection e with e _; rw [← e]; decide)]
  simp only
  rw [expe_hit (c := 93) (skip_of _ (by decide))]
  simp only
  rw [expe_hit (c := 41) (skip_of _ (by decide))]
  simp only [fin]
  rw [if_neg (by omega)]

/-- an all's keys, and its bracket -/
theorem alB_read {l : List ByteArray} (h : l.all Grain.named = true) (hl : l.length ≤ 4) (r : List UInt8) : alB (bl (byt l) ++ 32 :: 40 :: r) = .ok (l, r) := by
  cases l with
  | nil =>
    have e : bl (byt []) ++ 32 :: 40 :: r = 32 :: 40 :: r := by simp [byt, bl_lit]
    rw [e]
    unfold alB
    rw [acc_hit (r' := r) (by rw [skip_32]; exact skip_of _ (by decide))]
  | cons m l =>
    rw [List.all_eq_true] at h
    have e : bl (byt (m :: l)) ++ 32 :: 40 :: r = 32 :: ([98, 121] ++ (32 :: (bl m ++ comB ((l.map fun x => (bl x, x)).map (·.1)) ++ 32 :: 40 :: r))) := by
      simp [byt, jn, bl_app, bl_lit, bl_commas, Function.comp_def]
    have hby : wordy [98, 121] := ⟨98, [121], rfl, by decide, by decide, by decide⟩
    have hrd := lst_read (part := words1) (most := 4) (S := SepK) (fun t => ⟨44, t, rfl, .inl rfl⟩) (bl m, m) (l.map fun x => (bl x, x)) (32 :: 40 :: r)
      (fun y hy s hs => by
        have key : ∀ x : ByteArray, Grain.named x = true → words1 (bl x ++ s) = .ok (x, s) := fun x hx => by
          unfold words1
          rw [wrd_read (named_wordy hx) (sepK_end hs)]
          simp [lit_bl]
        rcases List.mem_cons.1 hy with e | e
        · rw [e]; exact key m (h m (by simp))
        · obtain ⟨x, hx, rfl⟩ := List.mem_map.1 e
          exact key x (h x (by simp [hx])))
      ⟨32, _, rfl, .inr rfl⟩ (by rw [acc_32]; exact acc_miss (skip_of _ (by decide)) (by decide)) (by simp at hl ⊢; omega)
    have hbw : byW (32 :: ([98, 121] ++ (32 :: (bl m ++ comB ((l.map fun x => (bl x, x)).map (·.1)) ++ 32 :: 40 :: r)))) = .ok (32 :: (bl m ++ comB ((l.map fun x => (bl x, x)).map (·.1)) ++ 32 :: 40 :: r)) := by
      have := anyW_read (r := 32 :: (bl m ++ comB ((l.map fun x => (bl x, x)).map (·.1)) ++ 32 :: 40 :: r)) hby (ends_of (by decide))
      unfold byW
      unfold anyW nxt at this ⊢
      rw [skip_32]
      split at this
      · rename_i hl
        rw [if_pos hl]
        rw [this]
        simp
      · injection this with h1 _; cases h1
    rw [e]
    unfold alB
    rw [acc_miss (c := 40) (d := 98) (by rw [skip_32]; exact skip_of _ (by decide)) (by decide), hbw]
    simp only
    rw [lst_32, hrd]
    simp only
    rw [expe_hit (r' := r) (by rw [skip_32]; exact skip_of _ (by decide))]
    simp [Function.comp_def]

end Go.GrainU
