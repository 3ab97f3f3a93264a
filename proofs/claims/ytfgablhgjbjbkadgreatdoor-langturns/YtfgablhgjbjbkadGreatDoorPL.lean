/-
  What is left to read only gets shorter. No program is named here.
-/
import Derived.Test.YtfgablhgjbjbkadGreatDoorPM
namespace Go.GrainU
open Go.RowKit

theorem skip_le (r : List UInt8) : (skip r).length ≤ r.length := (List.dropWhile_suffix _).length_le

theorem acc_le {sg r r' : List UInt8} (h : acc sg r = some r') : r'.length ≤ r.length := by
  unfold acc at h
  split at h
  · rw [← Option.some.inj h, List.length_drop]; have := skip_le r; omega
  · cases h

theorem expe_le {sg r r' : List UInt8} (h : expe sg r = .ok r') : r'.length ≤ r.length := by
  unfold expe at h
  split at h
  · rename_i r2 ha; injection h with h; rw [← h]; exact acc_le ha
  · cases h

theorem anyW_le (r : List UInt8) : (anyW r).2.length ≤ r.length := by
  unfold anyW
  split
  · exact Nat.le_trans (List.dropWhile_suffix _).length_le (skip_le r)
  · exact Nat.le_refl _

theorem wrd_le {r x r' : List UInt8} (h : wrd r = .ok (x, r')) : r'.length ≤ r.length := by
  unfold wrd at h
  split at h
  · cases h
  · split at h
    · cases h
    · injection h with h
      have := anyW_le r
      rw [h] at this
      exact this

theorem wrdOf_le {may : List ByteArray} {r x r' : List UInt8} (h : wrdOf may r = .ok (x, r')) : r'.length ≤ r.length := by
  unfold wrdOf at h
  split at h
  · cases h
  · rename_i p hp
    split at h
    · injection h with h; rw [h] at hp; exact wrd_le hp
    · cases h

theorem numb_le {a b : Int} {r r' : List UInt8} {n : Int} (h : numb a b r = .ok (n, r')) : r'.length ≤ r.length := by
  unfold numb at h
  split at h
  · cases h
  · split at h
    · split at h
      · injection h with h
        simp at h
        rw [← h.2]
        exact Nat.le_trans (List.dropWhile_suffix _).length_le (skip_le r)
      · cases h
    · cases h

theorem byW_le {r r' : List UInt8} (h : byW r = .ok r') : r'.length ≤ r.length := by
  unfold byW at h
  split at h
  · injection h with h; rw [← h]; exact anyW_le r
  · cases h

theorem lstF_le {α : Type} {part : List UInt8 → Except Flt (α × List UInt8)} (hp : ∀ r a r', part r = .ok (a, r') → r'.length ≤ r.length) {most : Nat} : ∀ (k : Nat) (l : List α) (r : List UInt8) (l' : List α) (r' : List UInt8), lstF part most k l r = .ok (l', r') → r'.length ≤ r.length := by
  intro k
  induction k with
  | zero => intro l r l' r' h; simp [lstF] at h; rw [← h.2]; exact Nat.le_refl _
  | succ k ih =>
    intro l r l' r' h
    rw [lstF] at h
    split at h
    · injection h with h; simp at h; rw [← h.2]; exact Nat.le_refl _
    · rename_i r1 ha
      have h1 := acc_le ha
      split at h
      · cases h
      · split at h
        · cases h
        · rename_i a r2 hq
          have h2 := hp _ _ _ hq
          have h3 := ih _ _ _ _ h
          omega

theorem lst_le {α : Type} {part : List UInt8 → Except Flt (α × List UInt8)} (hp : ∀ r a r', part r = .ok (a, r') → r'.length ≤ r.length) {most : Nat} {r : List UInt8} {l : List α} {r' : List UInt8} (h : lst part most r = .ok (l, r')) : r'.length ≤ r.length := by
  unfold lst at h
  split at h
  · cases h
  · rename_i a r1 hq
    have h1 := hp _ _ _ hq
    have h2 := lstF_le hp _ _ _ _ _ h
    omega

theorem mtc_le {r r' : List UInt8} {m : Mt} (h : mtc r = .ok (m, r')) : r'.length ≤ r.length := by
  unfold mtc at h
  split at h
  · rename_i r1 ha
    have h1 := acc_le ha
    split at h
    · cases h
    · rename_i k r2 hw
      have h2 := wrd_le hw
      injection h with h; simp at h; rw [← h.2]; omega
  · split at h
    · cases h
    · rename_i k r2 hw
      have h2 := wrd_le hw
      split at h
      · rename_i r3 hb
        have h3 := acc_le hb
        split at h
        · cases h
        · rename_i v r4 hv
          have h4 := wrd_le hv
          injection h with h; simp at h; rw [← h.2]; omega
      · split at h
        · rename_i r3 hb
          have h3 := acc_le hb
          split at h
          · cases h
          · rename_i v r4 hv
            have h4 := wrd_le hv
            injection h with h; simp at h; rw [← h.2]; omega
        · injection h with h; simp at h; rw [← h.2]; exact h2

theorem words1_le {r r' : List UInt8} {m : ByteArray} (h : words1 r = .ok (m, r')) : r'.length ≤ r.length := by
  unfold words1 at h
  split at h
  · cases h
  · rename_i w r1 hw
    injection h with h; simp at h; rw [← h.2]; exact wrd_le hw

theorem fin_le {e g : Ex} {st q : St} (h : fin e st = .ok (g, q)) : q.r.length ≤ st.r.length := by
  unfold fin at h
  split at h
  · cases h
  · injection h with h; simp at h; rw [← h.2]; exact Nat.le_refl _

theorem wnM_le {r r' : List UInt8} {l : List Mt} (h : wnM r = .ok (l, r')) : r'.length ≤ r.length := by
  unfold wnM at h
  split at h
  · rename_i r1 ha; injection h with h; simp at h; rw [← h.2]; exact acc_le ha
  · split at h
    · cases h
    · rename_i l1 r1 hl
      have h1 := lst_le (fun _ _ _ hh => mtc_le hh) hl
      split at h
      · cases h
      · rename_i r2 he
        have h2 := expe_le he
        injection h with h; simp at h; rw [← h.2]; omega

theorem wnd_le {w : ByteArray} {st q : St} {x : Ex} (h : wnd w st = .ok (x, q)) : q.r.length ≤ st.r.length := by
  unfold wnd at h
  split at h
  · cases h
  · rename_i r1 e1
    split at h
    · cases h
    · rename_i r2 e2
      split at h
      · cases h
      · rename_i l r3 e3
        split at h
        · cases h
        · rename_i r4 e4
          split at h
          · cases h
          · rename_i n r5 e5
            split at h
            · cases h
            · rename_i r6 e6
              split at h
              · cases h
              · rename_i r7 e7
                have := fin_le h
                have := expe_le e1; have := expe_le e2; have := wnM_le e3; have := expe_le e4; have := numb_le e5; have := expe_le e6; have := expe_le e7
                simp only at *
                omega

theorem alB_le {r r' : List UInt8} {l : List ByteArray} (h : alB r = .ok (l, r')) : r'.length ≤ r.length := by
  unfold alB at h
  split at h
  · rename_i r1 ha; injection h with h; simp at h; rw [← h.2]; exact acc_le ha
  · split at h
    · cases h
    · rename_i r1 hb
      have h1 := byW_le hb
      split at h
      · cases h
      · rename_i l1 r2 hl
        have h2 := lst_le (fun _ _ _ hh => words1_le hh) hl
        split at h
        · cases h
        · rename_i r3 he
          have h3 := expe_le he
          injection h with h; simp at h; rw [← h.2]; omega

theorem al_le {sub : St → Except Flt (Ex × St)} (hs : ∀ st x q, sub st = .ok (x, q) → q.r.length ≤ st.r.length) {st q : St} {x : Ex} (h : al sub st = .ok (x, q)) : q.r.length ≤ st.r.length := by
  unfold al at h
  split at h
  · cases h
  · rename_i w r1 e1
    split at h
    · cases h
    · rename_i bs r2 e2
      split at h
      · cases h
      · rename_i e s1 e3
        split at h
        · cases h
        · rename_i r3 e4
          have := fin_le h
          have := wrdOf_le e1; have := alB_le e2; have := hs _ _ _ e3; have := expe_le e4
          simp only at *
          omega

theorem accAny_le {l : List (List UInt8)} {r x r1 : List UInt8} (h : accAny l r = some (x, r1)) : r1.length ≤ r.length := by
  induction l with
  | nil => simp [accAny] at h
  | cons a t ih =>
    rw [accAny] at h
    split at h
    · rename_i r2 ha; simp at h; rw [← h.2]; exact acc_le ha
    · exact ih h

theorem chnF_le {p : St → Except Flt (Ex × St)} (hp : ∀ st x q, p st = .ok (x, q) → q.r.length ≤ st.r.length) {sg : List (List UInt8)} : ∀ (k : Nat) (e : Ex) (st : St) (x : Ex) (q : St), chnF p sg k e st = .ok (x, q) → q.r.length ≤ st.r.length := by
  intro k
  induction k with
  | zero => intro e st x q h; simp [chnF] at h; rw [← h.2]; exact Nat.le_refl _
  | succ k ih =>
    intro e st x q h
    rw [chnF] at h
    split at h
    · injection h with h; simp at h; rw [← h.2]; exact Nat.le_refl _
    · rename_i s1 r1 ha
      have h1 := accAny_le ha
      split at h
      · cases h
      · rename_i f s2 hq
        have h2 := hp _ _ _ hq
        split at h
        · cases h
        · rename_i g s3 hf
          have h3 := fin_le hf
          have h4 := ih _ _ _ _ h
          simp only at *
          omega

theorem chn_le {p : St → Except Flt (Ex × St)} (hp : ∀ st x q, p st = .ok (x, q) → q.r.length ≤ st.r.length) {sg : List (List UInt8)} : ∀ (st : St) (x : Ex) (q : St), chn p sg st = .ok (x, q) → q.r.length ≤ st.r.length := by
  intro st x q h
  unfold chn at h
  split at h
  · cases h
  · rename_i e s1 hq
    have h1 := hp _ _ _ hq
    have h2 := chnF_le hp _ _ _ _ _ h
    omega

theorem fct_le : ∀ (k : Nat) (st : St) (x : Ex) (q : St), fct k st = .ok (x, q) → q.r.length ≤ st.r.length := by
  intro k
  induction k with
  | zero => intro st x q h; simp [fct] at h
  | succ k ih =>
    have hsm : ∀ st x q, smm (fct k) st = .ok (x, q) → q.r.length ≤ st.r.length := chn_le (chn_le ih)
    intro st x q h
    rw [fct] at h
    split at h
    · rename_i r1 ha
      have h1 := acc_le ha
      split at h
      · cases h
      · rename_i e s1 hq
        have h2 := hsm _ _ _ hq
        split at h
        · cases h
        · rename_i r2 he
          have h3 := expe_le he
          injection h with h; simp at h; rw [← h.2]; simp only at *; omega
    · split at h
      · split at h
        · cases h
        · rename_i n r1 hn
          have h1 := numb_le hn
          have h2 := fin_le h
          simp only at *
          omega
      · split at h
        · cases h
        · rename_i w r1 hw
          have h1 := wrdOf_le hw
          split at h
          · have h2 := al_le hsm h; simp only at *; omega
          · have h2 := wnd_le h; simp only at *; omega

end Go.GrainU
