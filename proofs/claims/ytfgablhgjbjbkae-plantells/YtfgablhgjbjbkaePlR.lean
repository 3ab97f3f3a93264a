/-
  What is chosen by runs of buckets is what is chosen bucket by bucket. No program is named here.
-/
import Derived.Test.YtfgablhgjbjbkaePlM
namespace Grain

/-- all whole buckets of a tier within a window, as far as the tier goes -/
def bks (k tf tt st a to : Int) : Pt := ⟨k, (max a tf + st - 1) / st * st, min to tt / st * st⟩

def nx2 (s : Shf) (a to : Int) : Pt :=
  if (bks 1 s.ff s.ft 10 a to).t ≤ (bks 1 s.ff s.ft 10 a to).f then ⟨0, a, to⟩
  else if (bks 1 s.ff s.ft 10 a to).f = a then bks 1 s.ff s.ft 10 a to
  else ⟨0, a, (bks 1 s.ff s.ft 10 a to).f⟩

/-- the next run -/
def nxr (s : Shf) (a to : Int) : Pt :=
  if (bks 2 s.cf s.ct 60 a to).t ≤ (bks 2 s.cf s.ct 60 a to).f then nx2 s a to
  else if (bks 2 s.cf s.ct 60 a to).f = a then bks 2 s.cf s.ct 60 a to
  else nx2 s a (bks 2 s.cf s.ct 60 a to).f

def chr (s : Shf) (to : Int) : Nat → Int → List Pt → List Pt × Int
  | 0, _, out => (out, 0)
  | n + 1, a, out => if a < to then (if may s (nxr s a to) = true then chr s to n (nxr s a to).t (out ++ [nxr s a to]) else ([], 10)) else (out, 0)

theorem chr_end {s : Shf} {to a : Int} (h : ¬ a < to) (n : Nat) (out : List Pt) : chr s to n a out = (out, 0) := by
  cases n with
  | zero => rfl
  | succ n => simp [chr, h]

/-- a coarse, a fine bucket begins there -/
def Co (s : Shf) (to x : Int) : Prop := x % 60 = 0 ∧ s.cf ≤ x ∧ x + 60 ≤ to ∧ x + 60 ≤ s.ct
def Fi (s : Shf) (to x : Int) : Prop := x % 10 = 0 ∧ s.ff ≤ x ∧ x + 10 ≤ to ∧ x + 10 ≤ s.ft

theorem may2 {s : Shf} {to x : Int} : (x + 60 ≤ to ∧ may s ⟨2, x, x + 60⟩ = true) ↔ Co s to x := by
  simp [may, Co]
  omega
theorem may1 {s : Shf} {to x : Int} : (x + 10 ≤ to ∧ may s ⟨1, x, x + 10⟩ = true) ↔ Fi s to x := by
  simp [may, Fi]
  omega

theorem nxt_co {s : Shf} {to x : Int} (h : Co s to x) : nxt s x to = ⟨2, x, x + 60⟩ := by
  unfold nxt; rw [if_pos (may2.2 h)]
theorem nxt_fi {s : Shf} {to x : Int} (h : ¬ Co s to x) (h' : Fi s to x) : nxt s x to = ⟨1, x, x + 10⟩ := by
  unfold nxt; rw [if_neg (fun e => h (may2.1 e)), if_pos (may1.2 h')]
theorem nxt_raw {s : Shf} {to x : Int} (h : ¬ Co s to x) (h' : ¬ Fi s to x) : nxt s x to = if s.ft ≤ x then ⟨0, x, to⟩ else ⟨0, x, min to (x - x % 10 + 10)⟩ := by
  unfold nxt; rw [if_neg (fun e => h (may2.1 e)), if_neg (fun e => h' (may1.1 e))]

/-- what the next run is -/
inductive Run (s : Shf) (a to : Int) : Pt → Prop where
  | co (T : Int) (h1 : a % 60 = 0) (h2 : s.cf ≤ a) (h3 : a < T) (h4 : T % 60 = 0) (h5 : T ≤ to) (h6 : T ≤ s.ct) (h7 : to < T + 60 ∨ s.ct < T + 60) : Run s a to ⟨2, a, T⟩
  | fi (T : Int) (h1 : a % 10 = 0) (h2 : s.ff ≤ a) (h3 : a < T) (h4 : T % 10 = 0) (h5 : T ≤ to) (h6 : T ≤ s.ft) (h7 : ∀ x, a ≤ x → x < T → ¬ Co s to x) (h8 : to < T + 10 ∨ s.ft < T + 10 ∨ Co s to T) : Run s a to ⟨1, a, T⟩
  | raw (T : Int) (h3 : a < T) (h4 : T = to ∨ T % 10 = 0) (h5 : T ≤ to) (h6 : ∀ x, a ≤ x → x < T → ¬ Co s to x) (h7 : ∀ x, a ≤ x → x < T → ¬ Fi s to x) (h8 : T = to ∨ Co s to T ∨ Fi s to T) (h9 : T ≤ s.ft ∨ T = to) : Run s a to ⟨0, a, T⟩

theorem nx2_run {s : Shf} (sr : SR s) {a to e : Int} (hae : a < e) (he : e = to ∨ Co s to e) (het : e ≤ to) (hno : ∀ x, a ≤ x → x < e → ¬ Co s to x) : Run s a to (nx2 s a e) := by
  obtain ⟨f1, f2, f3, f4, f5⟩ := sr.fsp
  obtain ⟨c1, c2, c3, c4, c5⟩ := sr.csp
  obtain ⟨b1, b2, b3, b4⟩ := sr.bd
  have he10 : e = to ∨ (e % 10 = 0 ∧ e + 60 ≤ s.ft) := by
    rcases he with h | h
    · exact .inl h
    · obtain ⟨q1, q2, q3, q4⟩ := h; exact .inr ⟨by omega, by omega⟩
  obtain ⟨F, hF⟩ : ∃ F, F = (max a s.ff + 10 - 1) / 10 * 10 := ⟨_, rfl⟩
  obtain ⟨T, hT⟩ : ∃ T, T = min e s.ft / 10 * 10 := ⟨_, rfl⟩
  have hF1 : a ≤ F ∧ s.ff ≤ F ∧ F % 10 = 0 ∧ (F < a + 10 ∨ F < s.ff + 10) := by rw [hF]; omega
  have hF2 : ∀ x, x % 10 = 0 → a ≤ x → s.ff ≤ x → F ≤ x := by intro x q1 q2 q3; rw [hF]; omega
  have hT1 : T ≤ e ∧ T ≤ s.ft ∧ T % 10 = 0 ∧ (e < T + 10 ∨ s.ft < T + 10) := by rw [hT]; omega
  unfold nx2 bks
  simp only
  rw [← hF, ← hT]
  clear hF hT
  by_cases h1 : T ≤ F
  · rw [if_pos h1]
    refine .raw e hae (by rcases he10 with h | h; exact .inl h; exact .inr h.1) het hno ?_ (by rcases he with h | h; exact .inl h; exact .inr (.inl h)) (by rcases he10 with h | h; exact .inr h; exact .inl (by omega))
    intro x q1 q2 ⟨r1, r2, r3, r4⟩
    have := hF2 x r1 q1 r2
    rcases he10 with h | h <;> omega
  · rw [if_neg h1]
    by_cases h2 : F = a
    · rw [if_pos h2]
      rw [h2] at h1 hF1 hF2
      rw [h2]
      refine .fi T (by omega) (by omega) (by omega) hT1.2.2.1 (by omega) hT1.2.1 (fun x q1 q2 => hno x q1 (by omega)) ?_
      rcases he with h | h
      · omega
      · right; right
        have : T = e := by
          rcases he10 with q | q
          · have := h.2.2.1; omega
          · omega
        rw [this]; exact h
    · rw [if_neg h2]
      refine .raw F (by omega) (.inr hF1.2.2.1) (by omega) (fun x q1 q2 => hno x q1 (by omega)) ?_ (.inr (.inr ⟨hF1.2.2.1, hF1.2.1, by omega, by omega⟩)) (.inl (by omega))
      intro x q1 q2 ⟨r1, r2, r3, r4⟩
      have := hF2 x r1 q1 r2
      omega

theorem nxr_run {s : Shf} (sr : SR s) {a to : Int} (hto : a < to) : Run s a to (nxr s a to) := by
  obtain ⟨f1, f2, f3, f4, f5⟩ := sr.fsp
  obtain ⟨c1, c2, c3, c4, c5⟩ := sr.csp
  obtain ⟨b1, b2, b3, b4⟩ := sr.bd
  obtain ⟨F, hF⟩ : ∃ F, F = (max a s.cf + 60 - 1) / 60 * 60 := ⟨_, rfl⟩
  obtain ⟨T, hT⟩ : ∃ T, T = min to s.ct / 60 * 60 := ⟨_, rfl⟩
  have hF1 : a ≤ F ∧ s.cf ≤ F ∧ F % 60 = 0 := by rw [hF]; omega
  have hF2 : ∀ x, x % 60 = 0 → a ≤ x → s.cf ≤ x → F ≤ x := by intro x q1 q2 q3; rw [hF]; omega
  have hT1 : T ≤ to ∧ T ≤ s.ct ∧ T % 60 = 0 ∧ (to < T + 60 ∨ s.ct < T + 60) := by rw [hT]; omega
  unfold nxr
  have e1 : (bks 2 s.cf s.ct 60 a to).f = F := by rw [hF]; rfl
  have e2 : (bks 2 s.cf s.ct 60 a to).t = T := by rw [hT]; rfl
  have e3 : bks 2 s.cf s.ct 60 a to = ⟨2, F, T⟩ := by rw [hF, hT]; rfl
  rw [e1, e2, e3]
  clear hF hT e1 e2 e3
  by_cases h1 : T ≤ F
  · rw [if_pos h1]
    refine nx2_run sr hto (.inl rfl) (Int.le_refl _) ?_
    intro x q1 q2 ⟨r1, r2, r3, r4⟩
    have := hF2 x r1 q1 r2
    omega
  · rw [if_neg h1]
    by_cases h2 : F = a
    · rw [if_pos h2]
      rw [h2] at h1 hF1
      rw [h2]
      exact .co T hF1.2.2 hF1.2.1 (by omega) hT1.2.2.1 hT1.1 hT1.2.1 hT1.2.2.2
    · rw [if_neg h2]
      refine nx2_run sr (by omega) (.inr ⟨hF1.2.2, hF1.2.1, by omega, by omega⟩) (by omega) ?_
      intro x q1 q2 ⟨r1, r2, r3, r4⟩
      have := hF2 x r1 q1 r2
      omega

theorem nxr_ft {s : Shf} (sr : SR s) {a to : Int} (hto : a < to) : (nxr s a to).f = a ∧ (nxr s a to).t ≤ to ∧ a < (nxr s a to).t := by
  have h := nxr_run sr hto
  generalize nxr s a to = p at h
  cases h with
  | co T h1 h2 h3 h4 h5 h6 h7 => exact ⟨rfl, h5, h3⟩
  | fi T h1 h2 h3 h4 h5 h6 h7 h8 => exact ⟨rfl, h5, h3⟩
  | raw T h3 h4 h5 h6 h7 h8 h9 => exact ⟨rfl, h5, h3⟩

/-- the next run is of another tier -/
theorem run_other {s : Shf} {a to : Int} {p : Pt} (h : Run s a to p) : p.t = to ∨ ∀ q, Run s p.t to q → q.k ≠ p.k := by
  cases h with
  | co T h1 h2 h3 h4 h5 h6 h7 =>
    right
    intro q hq
    cases hq with
    | co U g1 g2 g3 g4 g5 g6 g7 => simp only at *; omega
    | fi U => simp
    | raw U => simp
  | fi T h1 h2 h3 h4 h5 h6 h7 h8 =>
    right
    intro q hq
    cases hq with
    | co U => simp
    | fi U g1 g2 g3 g4 g5 g6 g7 g8 =>
      simp only at *
      rcases h8 with e | e | e
      · omega
      · omega
      · exact absurd e (g7 T (Int.le_refl _) g3)
    | raw U => simp
  | raw T h3 h4 h5 h6 h7 h8 h9 =>
    rcases h8 with e | e | e
    · exact .inl e
    · right
      intro q hq
      cases hq with
      | co U => simp
      | fi U => simp
      | raw U g3 g4 g5 g6 g7 g8 g9 => simp only at *; exact absurd e (g6 T (Int.le_refl _) g3)
    · right
      intro q hq
      cases hq with
      | co U => simp
      | fi U => simp
      | raw U g3 g4 g5 g6 g7 g8 g9 => simp only at *; exact absurd e (g7 T (Int.le_refl _) g3)

theorem chs_fuel {s : Shf} {to : Int} : ∀ (n m : Nat) (a : Int) (out : List Pt), (to - a).toNat ≤ n → (to - a).toNat ≤ m → chs s to n a out = chs s to m a out := by
  intro n
  induction n with
  | zero => intro m a out h1 h2; rw [chs_end (by omega), chs_end (by omega)]
  | succ n ih =>
    intro m a out h1 h2
    by_cases h : a < to
    · cases m with
      | zero => omega
      | succ m =>
        simp only [chs, if_pos h]
        by_cases hm : may s (nxt s a to) = true
        · rw [if_pos hm, if_pos hm]
          have := may_lt hm
          rw [nxt_f] at this
          exact ih m _ _ (by omega) (by omega)
        · rw [if_neg hm, if_neg hm]
    · rw [chs_end h, chs_end h]

theorem putP_two (out : List Pt) (k a b t : Int) : putP (putP out ⟨k, a, b⟩) ⟨k, b, t⟩ = putP out ⟨k, a, t⟩ := by
  rcases snoc_or out with rfl | ⟨r, q, rfl⟩
  · rw [putP_nil, putP_nil]
    exact putP_same [] ⟨k, a, b⟩ ⟨k, b, t⟩ rfl
  · by_cases e : q.k = k
    · rw [putP_same r q ⟨k, a, b⟩ e, putP_same r q ⟨k, a, t⟩ e]
      exact putP_same r ⟨q.k, q.f, b⟩ ⟨k, b, t⟩ e
    · rw [putP_other r q ⟨k, a, b⟩ e, putP_other r q ⟨k, a, t⟩ e]
      exact putP_same (r ++ [q]) ⟨k, a, b⟩ ⟨k, b, t⟩ rfl

/-- piece by piece, a run -/
theorem chs_run {s : Shf} {to T k : Int} {I : Int → Prop} (hT : T ≤ to) (step : ∀ x, I x → x < T → ∃ b, nxt s x to = ⟨k, x, b⟩ ∧ x < b ∧ b ≤ T ∧ may s ⟨k, x, b⟩ = true ∧ I b) :
    ∀ (n : Nat) (a : Int) (out : List Pt) (m m' : Nat), I a → a < T → (T - a).toNat ≤ n → (to - a).toNat ≤ m → (to - T).toNat ≤ m' → chs s to m a out = chs s to m' T (putP out ⟨k, a, T⟩) := by
  intro n
  induction n with
  | zero => intro a out m m' _ h h1; omega
  | succ n ih =>
    intro a out m m' hI h h1 h2 h3
    obtain ⟨b, e, q1, q2, q3, q4⟩ := step a hI h
    cases m with
    | zero => omega
    | succ m =>
      simp only [chs, if_pos (show a < to by omega), e, q3, if_true]
      by_cases hb : b = T
      · subst hb
        exact chs_fuel _ _ _ _ (by omega) h3
      · rw [ih b _ m m' q4 (by omega) (by omega) (by omega) h3, putP_two]

theorem putP_new {out : List Pt} {p : Pt} (h : ∀ q, out.getLast? = some q → q.k ≠ p.k) : putP out p = out ++ [p] := by
  rcases snoc_or out with rfl | ⟨r, q, rfl⟩
  · rfl
  · rw [putP_other r q p (h q (by simp))]

theorem chr_chs {s : Shf} (sr : SR s) {to : Int} (hto : to ≤ 1000000) : ∀ (n : Nat) (a : Int) (out : List Pt) (m : Nat), 0 ≤ a → (to - a).toNat ≤ n → (to - a).toNat ≤ m → (a < to → ∀ q, out.getLast? = some q → q.k ≠ (nxr s a to).k) → chr s to n a out = chs s to m a out := by
  obtain ⟨f1, f2, f3, f4, f5⟩ := sr.fsp
  obtain ⟨c1, c2, c3, c4, c5⟩ := sr.csp
  obtain ⟨b1, b2, b3, b4⟩ := sr.bd
  intro n
  induction n with
  | zero => intro a out m ha h1 h2 h3; rw [chr_end (by omega), chs_end (by omega)]
  | succ n ih =>
    intro a out m ha h1 h2 h3
    by_cases h : a < to
    · have hrun := nxr_run sr h
      have hnew := putP_new (h3 h)
      obtain ⟨p, hp⟩ : ∃ p, p = nxr s a to := ⟨_, rfl⟩
      simp only [chr, if_pos h]
      rw [← hp] at hrun hnew ⊢
      have hnext : p.t ≤ to → a < p.t → (p.t < to → ∀ q, (out ++ [p]).getLast? = some q → q.k ≠ (nxr s p.t to).k) := by
        intro hpt hap hlt q hq
        simp at hq
        rw [← hq]
        rcases run_other hrun with e | e
        · omega
        · exact fun e2 => e _ (nxr_run sr hlt) e2.symm
      cases hrun with
      | co T h1' h2' h3' h4 h5 h6 h7 =>
        have hm : may s ⟨2, a, T⟩ = true := by simp [may]; omega
        rw [if_pos hm, ih T _ (to - T).toNat (by omega) (by simp only at *; omega) (by omega) (hnext h5 h3'), ← hnew]
        refine (chs_run (k := 2) (I := fun x => x % 60 = 0 ∧ a ≤ x) h5 ?_ _ a out m _ ⟨h1', Int.le_refl _⟩ h3' (Nat.le_refl _) h2 (Nat.le_refl _)).symm
        intro x ⟨g1, g2⟩ g3
        have hco : Co s to x := ⟨g1, by omega, by omega, by omega⟩
        exact ⟨x + 60, nxt_co hco, by omega, by omega, (may2.2 hco).2, by omega, by omega⟩
      | fi T h1' h2' h3' h4 h5 h6 h7 h8 =>
        have hm : may s ⟨1, a, T⟩ = true := by simp [may]; omega
        rw [if_pos hm, ih T _ (to - T).toNat (by omega) (by simp only at *; omega) (by omega) (hnext h5 h3'), ← hnew]
        refine (chs_run (k := 1) (I := fun x => x % 10 = 0 ∧ a ≤ x) h5 ?_ _ a out m _ ⟨h1', Int.le_refl _⟩ h3' (Nat.le_refl _) h2 (Nat.le_refl _)).symm
        intro x ⟨g1, g2⟩ g3
        have hfi : Fi s to x := ⟨g1, by omega, by omega, by omega⟩
        exact ⟨x + 10, nxt_fi (h7 x g2 g3) hfi, by omega, by omega, (may1.2 hfi).2, by omega, by omega⟩
      | raw T h3' h4 h5 h6 h7 h8 h9 =>
        have hraw : ∀ x, a ≤ x → x < T → ∃ b, nxt s x to = ⟨0, x, b⟩ ∧ x < b ∧ b ≤ T := by
          intro x g2 g3
          rw [nxt_raw (h6 x g2 g3) (h7 x g2 g3)]
          by_cases hf : s.ft ≤ x
          · rw [if_pos hf]
            exact ⟨to, rfl, by omega, by omega⟩
          · rw [if_neg hf]
            exact ⟨_, rfl, by omega, by omega⟩
        by_cases hr : s.rf ≤ a
        · have hm : may s ⟨0, a, T⟩ = true := by simp [may]; omega
          rw [if_pos hm, ih T _ (to - T).toNat (by omega) (by simp only at *; omega) (by omega) (hnext h5 h3'), ← hnew]
          refine (chs_run (k := 0) (I := fun x => a ≤ x) h5 ?_ _ a out m _ (Int.le_refl _) h3' (Nat.le_refl _) h2 (Nat.le_refl _)).symm
          intro x g2 g3
          obtain ⟨b, q1, q2, q3⟩ := hraw x g2 g3
          exact ⟨b, q1, q2, q3, by simp [may]; omega, by omega⟩
        · have hm : ¬ may s ⟨0, a, T⟩ = true := by simp [may]; omega
          rw [if_neg hm]
          obtain ⟨b, q1, q2, q3⟩ := hraw a (Int.le_refl _) h3'
          cases m with
          | zero => omega
          | succ m =>
            have hm2 : ¬ may s ⟨0, a, b⟩ = true := by simp [may]; omega
            simp only [chs, if_pos h, q1]
            rw [if_neg hm2]
    · rw [chr_end h, chs_end h]

/-- what is chosen, by runs -/
theorem choose_runs {s : Shf} (h : swrong s = 0) {f t : Int} (h0 : 0 ≤ f) (h1 : t ≤ 1000000) (n : Nat) (hn : (t - f).toNat ≤ n) : chr s t n f [] = chs s t (t - f).toNat f [] :=
  chr_chs ((sr_iff s).1 h) h1 n f [] _ h0 hn (Nat.le_refl _) (fun _ q hq => by simp at hq)

end Grain
