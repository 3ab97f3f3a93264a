/-
  What comes to something is within its bounds.
-/
import Derived.Test.YthohkokhimdamaaMeN
namespace Go.GrainU
open Go.RowKit

/-- cells within their bounds; a number has one -/
structure Gd (m : Mn) : Prop where
  fine : ∀ c ∈ m.cs, Fine c
  len : m.cs.length ≤ 8
  num : m.num = true → 0 < m.cs.length

theorem winX_len (x : Ln) (h : Hd) (time : Int) : (winX x h time).length ≤ 1 := by
  unfold winX
  split
  · split <;> simp
  · simp

theorem winC_len : ∀ (l : List Ln) (h : Hd) (time : Int), (winC l h time).length ≤ l.length
  | [], _, _ => by simp [winC]
  | x :: r, h, time => by
    have h1 := winX_len x h time
    have h2 := winC_len r h time
    simp only [winC, List.length_append, List.length_cons]
    omega

theorem Grain_win_val {l : List (Int × Int)} (h : Grain.Right l) (a b : Int) : ∀ x ∈ Grain.win l a b, -1000000000 ≤ x.2 ∧ x.2 ≤ 1000000000 := by
  intro y hy
  have hy' := (List.mem_filter.1 hy).1
  obtain ⟨q, hq, rfl⟩ := List.mem_iff_getElem.1 hy'
  have := h.rng q hq
  simp [Grain.vl, List.getD, List.getElem?_eq_getElem hq] at this
  omega

theorem winV_bd {x : Ln} (h : Grain.Right x.2) (hd : Hd) (time : Int) : -W1 ≤ (winV x hd time).1 ∧ (winV x hd time).1 ≤ W1 := by
  have hl : (Grain.win x.2 (time - hd.range) time).length ≤ 500 := Nat.le_trans (Grain.win_len _ _ _) h.few
  exact valP_bd (of_ok (Grain_win_val h _ _) hl) (by omega) (by omega) _

theorem winC_fine : ∀ (l : List Ln), (∀ x ∈ l, x.1.length ≤ 4 ∧ Grain.Right x.2) → ∀ (h : Hd) (time : Int), ∀ c ∈ winC l h time, -W1 ≤ c.2 ∧ c.2 ≤ W1 ∧ c.1.length ≤ 4
  | [], _, _, _, c, hc => by simp [winC] at hc
  | x :: r, hl, h, time, c, hc => by
    simp only [winC, List.mem_append] at hc
    rcases hc with e | e
    · have hx := hl x (by simp)
      unfold winX at e
      split at e
      · split at e
        · simp at e
          rw [e]
          exact ⟨(winV_bd hx.2 h time).1, (winV_bd hx.2 h time).2, hx.1⟩
        · simp at e
      · simp at e
    · exact winC_fine r (fun y hy => hl y (by simp [hy])) h time c e

theorem W1_MC : W1 ≤ MC := by decide

theorem gd_win {l : List Ln} (hl : ∀ x ∈ l, x.1.length ≤ 4 ∧ Grain.Right x.2) (h8 : l.length ≤ 8) (h : Hd) (time : Int) : Gd ⟨false, winC l h time⟩ :=
  ⟨fun c hc => by
    have := winC_fine l hl h time c hc
    have := W1_MC
    exact ⟨by omega, by omega, by omega⟩, Nat.le_trans (winC_len l h time) h8, fun e => by cases e⟩

theorem allA_gd {w : ByteArray} {ks : List ByteArray} : ∀ (l out : List Cl), (∀ c ∈ l, Fine c) → (∀ c ∈ out, Fine c) → ∀ r, allA w ks out l = some r → (∀ c ∈ r, Fine c) ∧ r.length ≤ out.length + l.length
  | [], out, _, ho, r, h => by
    simp [allA] at h
    subst h
    exact ⟨ho, by simp⟩
  | c :: q, out, hl, ho, r, h => by
    have fc := hl c (by simp)
    have hv : -MC ≤ one1 w c.2 ∧ one1 w c.2 ≤ MC := by
      unfold one1
      split
      · simp [MC]
      · exact ⟨fc.1, fc.2.1⟩
    have hs : (only c.1 ks).length ≤ 4 := Nat.le_trans (only_len c.1 ks) fc.2.2
    rw [allA] at h
    cases hp : putA w (only c.1 ks) (one1 w c.2) out with
    | none => rw [hp] at h; cases h
    | some o =>
      rw [hp] at h
      obtain ⟨i1, i2⟩ := put_fine hs hv ho hp
      obtain ⟨j1, j2⟩ := allA_gd q o (fun x hx => hl x (by simp [hx])) i1 r h
      exact ⟨j1, by simp; omega⟩

theorem binA_gd {a b : Mn} {w : ByteArray} (fb : ∀ c ∈ b.cs, Fine c) : ∀ (l acc : List Cl), (∀ c ∈ l, Fine c) → (∀ c ∈ acc, Fine c) → ∀ r, binA a b w acc l = some r → (∀ c ∈ r, Fine c) ∧ r.length ≤ acc.length + l.length ∧ acc.length ≤ r.length
  | [], acc, _, ha, r, h => by
    simp [binA] at h
    subst h
    exact ⟨ha, by simp, Nat.le_refl _⟩
  | c :: q, acc, hl, ha, r, h => by
    have fc := hl c (by simp)
    have hq : ∀ x ∈ q, Fine x := fun x hx => hl x (by simp [hx])
    cases h1 : atM a c.1 with
    | none =>
      rw [binA_no (.inl h1)] at h
      obtain ⟨j1, j2, j3⟩ := binA_gd fb q acc hq ha r h
      exact ⟨j1, by simp; omega, j3⟩
    | some x =>
      cases h2 : atM b c.1 with
      | none =>
        rw [binA_no (.inr h2)] at h
        obtain ⟨j1, j2, j3⟩ := binA_gd fb q acc hq ha r h
        exact ⟨j1, by simp; omega, j3⟩
      | some y =>
        cases h3 : wkd w x y with
        | none => rw [binA_bad h1 h2 h3] at h; cases h
        | some v =>
          rw [binA_yes h1 h2 h3] at h
          have bv := wkd_bd (atM_fine fb h2) h3
          obtain ⟨j1, j2, j3⟩ := binA_gd fb q (acc ++ [(c.1, v)]) hq (fun z hz => by
            rcases List.mem_append.1 hz with e | e
            · exact ha z e
            · simp at e; rw [e]; exact ⟨bv.1, bv.2, fc.2.2⟩) r h
          exact ⟨j1, by simp at j2 ⊢; omega, by simp at j3; omega⟩

theorem gd_all {w : ByteArray} {ks : List ByteArray} {m r : Mn} (g : Gd m) (h : ((allA w ks [] m.cs).map fun c => (⟨false, c⟩ : Mn)) = some r) : Gd r := by
  cases hq : allA w ks [] m.cs with
  | none => rw [hq] at h; cases h
  | some q =>
    rw [hq] at h
    simp at h
    subst h
    obtain ⟨i1, i2⟩ := allA_gd m.cs [] g.fine (fun c hc => by cases hc) q hq
    exact ⟨i1, by have := g.len; simp at i2 ⊢; omega, fun e => by cases e⟩

theorem gd_bin {w : ByteArray} {a b r : Mn} (ga : Gd a) (gb : Gd b) (h : binM a b w = some r) : Gd r := by
  unfold binM at h
  cases hq : binA a b w [] (fromM a b).cs with
  | none => rw [hq] at h; cases h
  | some q =>
    rw [hq] at h
    simp at h
    subst h
    have gf : Gd (fromM a b) := by unfold fromM; split <;> assumption
    obtain ⟨i1, i2, _⟩ := binA_gd gb.fine (fromM a b).cs [] gf.fine (fun c hc => by cases hc) q hq
    refine ⟨i1, by have := gf.len; simp at i2 ⊢; omega, fun e => ?_⟩
    have hn := gf.num e
    have ha : a.num = true := by
      unfold fromM at e
      split at e
      · assumption
      · exact e
    have hb : b.num = true := by
      unfold fromM at e
      rw [if_pos ha] at e
      exact e
    cases hc : (fromM a b).cs with
    | nil => rw [hc] at hn; simp at hn
    | cons c s =>
      rw [hc] at hq
      have h1 : atM a c.1 = some (cl0 a.cs) := by simp [atM, ha]
      have h2 : atM b c.1 = some (cl0 b.cs) := by simp [atM, hb]
      cases h3 : wkd w (cl0 a.cs) (cl0 b.cs) with
      | none => rw [binA_bad h1 h2 h3] at hq; cases hq
      | some v =>
        rw [binA_yes h1 h2 h3] at hq
        have fc : Fine c := by
          have := (show Gd (fromM a b) from by unfold fromM; split <;> assumption).fine c (by rw [hc]; simp)
          exact this
        have bv := wkd_bd (atM_fine gb.fine h2) h3
        have fs : ∀ x ∈ s, Fine x := fun x hx => (show Gd (fromM a b) from by unfold fromM; split <;> assumption).fine x (by rw [hc]; simp [hx])
        obtain ⟨_, _, j3⟩ := binA_gd gb.fine s ([] ++ [(c.1, v)]) fs (fun z hz => by simp at hz; rw [hz]; exact ⟨bv.1, bv.2, fc.2.2⟩) q hq
        simp at j3
        exact j3

end Go.GrainU
