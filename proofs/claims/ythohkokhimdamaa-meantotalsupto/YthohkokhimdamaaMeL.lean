/-
  A cell among cells that rise: where it goes.
-/
import Derived.Test.YthohkokhimdamaaMeK
namespace Go.GrainU
open Go.RowKit

theorem ct_zero (a : CT) (r : List CT) : ct (a :: r) 0 = a := rfl
theorem ct_succ (a : CT) (r : List CT) (k : Nat) : ct (a :: r) (k + 1) = ct r k := rfl

/-- the cell p with another value -/
def ctw (c : CT) (v : Int) : CT := ⟨c.ser, v, c.sa, c.sc⟩

theorem put_idx (w : ByteArray) (s : Lb) (v : Int) : ∀ l : List CT, Srt (cls l) → ∃ p, p ≤ l.length ∧ (∀ k, k < l.length → (cmpS (ct l k).ser s < 0 ↔ k < p)) ∧
    ((p < l.length ∧ cmpS (ct l p).ser s = 0 ∧ putA w s v (cls l) = if big (tog w (ct l p).v v) = true then none else some (cls (l.set p (ctw (ct l p) (tog w (ct l p).v v))))) ∨
     (¬ (p < l.length ∧ cmpS (ct l p).ser s = 0) ∧ ∀ c : CT, c.cl = (s, v) → putA w s v (cls l) = some (cls (l.take p ++ c :: l.drop p)))) := by
  intro l
  induction l with
  | nil => intro _; exact ⟨0, Nat.le_refl _, fun k hk => by simp at hk, .inr ⟨fun h => by simp at h, fun c hc => by simp [cls, putA, hc]⟩⟩
  | cons a r ih =>
    intro hs
    have hs' : (∀ x ∈ cls r, cmpS a.cl.1 x.1 = -1) ∧ Srt (cls r) := List.pairwise_cons.1 hs
    by_cases ha : cmpS a.ser s < 0
    · obtain ⟨p, hp, hk, hc⟩ := ih hs'.2
      refine ⟨p + 1, by simp; omega, ?_, ?_⟩
      · intro k hk'
        match k with
        | 0 => exact ⟨fun _ => by omega, fun _ => ha⟩
        | k + 1 =>
          rw [ct_succ]
          have := hk k (by simpa using hk')
          omega
      · rw [ct_succ]
        have e : putA w s v (cls (a :: r)) = (putA w s v (cls r)).map (a.cl :: ·) := by
          show putA w s v (a.cl :: cls r) = _
          rw [putA, if_pos (show cmpS a.cl.1 s < 0 from ha)]
        rcases hc with ⟨h1, h2, h3⟩ | ⟨h1, h2⟩
        · refine .inl ⟨by simp; omega, h2, ?_⟩
          rw [e, h3]
          split
          · rfl
          · simp [cls]
        · refine .inr ⟨fun h => h1 ⟨by have := h.1; simp at this; omega, h.2⟩, fun c hc => ?_⟩
          rw [e, h2 c hc]
          simp [cls]
    · refine ⟨0, Nat.zero_le _, ?_, ?_⟩
      · intro k hk'
        refine ⟨fun h => ?_, fun h => by omega⟩
        match k with
        | 0 => exact absurd h ha
        | k + 1 =>
          rw [ct_succ] at h
          have hk2 : k < r.length := by simpa using hk'
          have h1 : cmpS a.ser (ct r k).ser = -1 := hs'.1 (ct r k).cl (List.mem_map_of_mem (ct_mem hk2))
          have h2 : cmpS (ct r k).ser s = -1 := by rcases cmpS_cases (ct r k).ser s with e | ⟨e, _⟩ | e <;> omega
          have := cmpS_trans h1 h2
          omega
      · rw [ct_zero]
        have e : putA w s v (cls (a :: r)) = if cmpS a.ser s = 0 then (if big (tog w a.v v) = true then none else some ((a.ser, tog w a.v v) :: cls r)) else some ((s, v) :: a.cl :: cls r) := by
          show putA w s v (a.cl :: cls r) = _
          rw [putA, if_neg (show ¬ cmpS a.cl.1 s < 0 from ha)]
          rfl
        by_cases h0 : cmpS a.ser s = 0
        · refine .inl ⟨by simp, h0, ?_⟩
          rw [e, if_pos h0]
          rfl
        · refine .inr ⟨fun h => h0 h.2, fun c hc => ?_⟩
          rw [e, if_neg h0]
          simp [cls, hc]

/-- .. and what comes of it rises still -/
theorem put_srt (w : ByteArray) (s : Lb) (v : Int) : ∀ l : List Cl, Srt l → ∀ l', putA w s v l = some l' → Srt l' ∧ (∀ c ∈ l', c.1 = s ∨ c ∈ l) := by
  intro l
  induction l with
  | nil =>
    intro _ l' h
    simp [putA] at h
    subst h
    exact ⟨by simp [Srt], fun c hc => by simp at hc; left; rw [hc]⟩
  | cons a r ih =>
    intro hs l' h
    have hs' : (∀ x ∈ r, cmpS a.1 x.1 = -1) ∧ Srt r := List.pairwise_cons.1 hs
    rw [putA] at h
    split at h
    · rename_i ha
      cases hq : putA w s v r with
      | none => rw [hq] at h; cases h
      | some q =>
        rw [hq] at h
        simp at h
        subst h
        obtain ⟨i1, i2⟩ := ih hs'.2 q hq
        refine ⟨List.pairwise_cons.2 ⟨fun x hx => ?_, i1⟩, fun c hc => ?_⟩
        · rcases i2 x hx with e | e
          · rw [e]; rcases cmpS_cases a.1 s with e' | ⟨e', _⟩ | e' <;> omega
          · exact hs'.1 x e
        · rcases List.mem_cons.1 hc with e | e
          · right; rw [e]; simp
          · rcases i2 c e with e | e
            · exact .inl e
            · right; simp [e]
    · rename_i ha
      split at h
      · rename_i h0
        split at h
        · cases h
        · simp at h
          subst h
          refine ⟨List.pairwise_cons.2 ⟨fun x hx => hs'.1 x hx, hs'.2⟩, fun c hc => ?_⟩
          rcases List.mem_cons.1 hc with e | e
          · left; rw [e]; exact (cmpS_zero _ _).1 h0
          · right; simp [e]
      · rename_i h0
        simp at h
        subst h
        have h1 : cmpS s a.1 = -1 := by
          have := cmpS_back a.1 s
          rcases cmpS_cases a.1 s with e' | ⟨e', _⟩ | e' <;> omega
        refine ⟨List.pairwise_cons.2 ⟨fun x hx => ?_, hs⟩, fun c hc => ?_⟩
        · rcases List.mem_cons.1 hx with e | e
          · rw [e]; exact h1
          · exact cmpS_trans h1 (hs'.1 x e)
        · rcases List.mem_cons.1 hc with e | e
          · left; rw [e]
          · right; exact e

theorem put_fine {w : ByteArray} {s : Lb} {v : Int} (hs : s.length ≤ 4) (hv : -MC ≤ v ∧ v ≤ MC) : ∀ {l : List Cl}, (∀ c ∈ l, Fine c) → ∀ {l'}, putA w s v l = some l' → (∀ c ∈ l', Fine c) ∧ l'.length ≤ l.length + 1 := by
  intro l
  induction l with
  | nil =>
    intro _ l' h
    simp [putA] at h
    subst h
    exact ⟨fun c hc => by simp at hc; rw [hc]; exact ⟨hv.1, hv.2, hs⟩, by simp⟩
  | cons a r ih =>
    intro hf l' h
    have fa := hf a (by simp)
    have fr : ∀ c ∈ r, Fine c := fun c hc => hf c (by simp [hc])
    rw [putA] at h
    split at h
    · cases hq : putA w s v r with
      | none => rw [hq] at h; cases h
      | some q =>
        rw [hq] at h
        simp at h
        subst h
        obtain ⟨i1, i2⟩ := ih fr hq
        refine ⟨fun c hc => ?_, by simp; omega⟩
        rcases List.mem_cons.1 hc with e | e
        · rw [e]; exact fa
        · exact i1 c e
    · split at h
      · split at h
        · cases h
        · rename_i hb
          simp at h
          subst h
          refine ⟨fun c hc => ?_, by simp⟩
          rcases List.mem_cons.1 hc with e | e
          · rw [e]
            have := big_false (by simpa using hb : big (tog w a.2 v) = false)
            exact ⟨this.1, this.2, fa.2.2⟩
          · exact fr c e
      · simp at h
        subst h
        refine ⟨fun c hc => ?_, by simp⟩
        rcases List.mem_cons.1 hc with e | e
        · rw [e]; exact ⟨hv.1, hv.2, hs⟩
        · rcases List.mem_cons.1 e with e | e
          · rw [e]; exact fa
          · exact fr c e

end Go.GrainU
