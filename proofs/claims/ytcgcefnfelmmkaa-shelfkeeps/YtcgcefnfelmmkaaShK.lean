/-
  What is kept is true: whatever is done with a shelf, what is raw is what was taken from then on, and buckets are those of what was taken in their time. No program is named here.
-/
import Derived.Test.YtcgcefnfelmmkaaShM
namespace Grain

theorem put_append {X Y : List Bk} {A : Int} (h : Y = [] → Off X A) (s : Sm) : put (X ++ Y) A s = X ++ put Y A s := by
  rcases snoc_or Y with rfl | ⟨R, b, rfl⟩
  · rw [List.append_nil, put_off (h rfl)]; rfl
  · by_cases e : b.a = A
    · subst e
      obtain ⟨a, q⟩ := b
      rw [← List.append_assoc, put_same, put_same, List.append_assoc]
    · rw [← List.append_assoc, put_other _ _ _ _ e, put_other _ _ _ _ e]; simp

theorem put_nonempty (X : List Bk) (A : Int) (s : Sm) : put X A s ≠ [] := by
  obtain ⟨R, q, e⟩ := put_ne X A s
  rw [e]; simp

theorem up_empty {st : Int} {l : List (Int × Int)} (h : up l st = []) : l = [] := by
  rcases snoc_or l with rfl | ⟨r, x, rfl⟩
  · rfl
  · rw [up_snoc] at h; exact absurd h (put_nonempty _ _ _)

/-- buckets on both sides of a border -/
theorem up_append {st m : Int} (hst : st = 10 ∨ st = 60) (hm : m % st = 0) {a : List (Int × Int)} (ha : ∀ x ∈ a, x.1 < m) : ∀ b : List (Int × Int), (∀ x ∈ b, m ≤ x.1) → up (a ++ b) st = up a st ++ up b st := by
  refine snoc_ind ?_ ?_
  · intro _; simp [up]
  · intro b y ih hb
    have hy : m ≤ y.1 := hb y (by simp)
    rw [← List.append_assoc, up_snoc, up_snoc, ih (fun x hx => hb x (by simp [hx]))]
    refine put_append (fun _ R c e => ?_) _
    obtain ⟨x, hx, ex⟩ := up_mem st a c (by rw [e]; simp)
    have := ha x hx
    have := beg_ge hst hm hy
    rw [ex]
    unfold beg at *
    rcases hst with e | e <;> subst e <;> omega

/-- all that were taken: in range, and rising -/
structure Took (A : List (Int × Int)) : Prop where
  rin : ∀ x ∈ A, inR x.1 x.2 = true
  pw : A.Pairwise (fun x y => x.1 < y.1)

theorem pigeon (hi : Int) : ∀ (l : List (Int × Int)) (lo : Int), lo ≤ hi → (∀ x ∈ l, lo ≤ x.1 ∧ x.1 < hi) → l.Pairwise (fun x y => x.1 < y.1) → (l.length : Int) ≤ hi - lo := by
  intro l
  induction l with
  | nil => intro lo h _ _; simp; omega
  | cons x r ih =>
    intro lo h h1 h2
    rw [List.pairwise_cons] at h2
    have hx := h1 x (by simp)
    have := ih (x.1 + 1) (by omega) (fun y hy => ⟨by have := h2.1 y hy; omega, (h1 y (by simp [hy])).2⟩) h2.2
    simp
    omega

theorem Took.len {A : List (Int × Int)} (h : Took A) : A.length ≤ 1000001 := by
  have := pigeon 1000001 A 0 (by decide) (fun x hx => by have := h.rin x hx; simp [inR] at this; omega) h.pw
  omega

theorem Took.win_len {A : List (Int × Int)} (h : Took A) {f t : Int} (ht : t ≤ 1000000) (h0 : 0 ≤ f) (hf : f ≤ t) : (win A f t).length ≤ 1000000 := by
  have := pigeon t (win A f t) f hf (fun x hx => by simp [win] at hx; omega) (h.pw.filter _)
  omega

/-- two windows beside each other -/
theorem win_split {f m t : Int} (h1 : f ≤ m) (h2 : m ≤ t) : ∀ l : List (Int × Int), l.Pairwise (fun x y => x.1 < y.1) → win l f t = win l f m ++ win l m t := by
  intro l
  induction l with
  | nil => intro _; rfl
  | cons x r ih =>
    intro h
    rw [List.pairwise_cons] at h
    have ih := ih h.2
    simp only [win] at ih ⊢
    by_cases c1 : f ≤ x.1 ∧ x.1 < m
    · rw [List.filter_cons_of_pos (by simp; omega), List.filter_cons_of_pos (p := fun x : Int × Int => decide (f ≤ x.1 ∧ x.1 < m)) (by simp; omega), List.filter_cons_of_neg (p := fun x : Int × Int => decide (m ≤ x.1 ∧ x.1 < t)) (by simp; omega), ih]; rfl
    · by_cases c2 : m ≤ x.1 ∧ x.1 < t
      · have hn : List.filter (fun x => decide (f ≤ x.1 ∧ x.1 < m)) r = [] := by
          rw [List.filter_eq_nil_iff]
          intro y hy
          have := h.1 y hy
          simp; omega
        rw [hn] at ih
        rw [List.filter_cons_of_pos (by simp; omega), List.filter_cons_of_neg (p := fun x : Int × Int => decide (f ≤ x.1 ∧ x.1 < m)) (by simp; omega), List.filter_cons_of_pos (p := fun x : Int × Int => decide (m ≤ x.1 ∧ x.1 < t)) (by simp; omega), hn, ih]; rfl
      · rw [List.filter_cons_of_neg (by simp; omega), List.filter_cons_of_neg (p := fun x : Int × Int => decide (f ≤ x.1 ∧ x.1 < m)) (by simp; omega), List.filter_cons_of_neg (p := fun x : Int × Int => decide (m ≤ x.1 ∧ x.1 < t)) (by simp; omega), ih]

theorem win_in {l : List (Int × Int)} {f t : Int} {x : Int × Int} (h : x ∈ win l f t) : f ≤ x.1 ∧ x.1 < t := by simp [win] at h; exact h.2

/-- the buckets of two windows beside each other -/
theorem up_split {st f m t : Int} (hst : st = 10 ∨ st = 60) (hm : m % st = 0) (h1 : f ≤ m) (h2 : m ≤ t) {A : List (Int × Int)} (h : Took A) : up (win A f t) st = up (win A f m) st ++ up (win A m t) st := by
  rw [win_split h1 h2 A h.pw]
  exact up_append hst hm (fun x hx => (win_in hx).2) _ (fun x hx => (win_in hx).1)

theorem up_in {st f t : Int} (hst : st = 10 ∨ st = 60) (hf : f % st = 0) {A : List (Int × Int)} (h : Took A) : ∀ b ∈ up (win A f t) st, f ≤ b.a ∧ b.a < t := by
  intro b hb
  obtain ⟨x, hx, e⟩ := up_mem st _ b hb
  have := win_in hx
  have h3 := h.rin x (List.mem_filter.1 hx).1
  simp [inR] at h3
  have := beg_ge hst hf this.1
  have := beg_bd hst h3.1
  rw [e]
  omega

theorem filter_none {α : Type} {p : α → Bool} {l : List α} (h : ∀ x ∈ l, p x = false) : l.filter p = [] := by
  rw [List.filter_eq_nil_iff]; intro x hx; rw [h x hx]; decide
theorem filter_all {α : Type} {p : α → Bool} {l : List α} (h : ∀ x ∈ l, p x = true) : l.filter p = l := List.filter_eq_self.2 h

/-- buckets from a border on -/
theorem up_from {st f m t : Int} (hst : st = 10 ∨ st = 60) (hf : f % st = 0) (hm : m % st = 0) (h1 : f ≤ m) (h2 : m ≤ t) {A : List (Int × Int)} (h : Took A) :
    (up (win A f t) st).filter (fun b => decide (m ≤ b.a)) = up (win A m t) st := by
  rw [up_split hst hm h1 h2 h, List.filter_append, filter_none (fun b hb => by have := up_in hst hf h b hb; simp; omega), filter_all (fun b hb => by have := up_in hst hm h b hb; simp; omega)]
  rfl

/-- fine buckets in a window -/
theorem up_winB {f m n t : Int} (hf : f % 10 = 0) (hm : m % 10 = 0) (hn : n % 10 = 0) (h1 : f ≤ m) (h2 : m ≤ n) (h3 : n ≤ t) {A : List (Int × Int)} (h : Took A) :
    winB (up (win A f t) 10) m n = up (win A m n) 10 := by
  rw [up_split (.inl rfl) hm h1 (by omega) h, up_split (f := m) (.inl rfl) hn h2 h3 h]
  simp only [winB, List.filter_append]
  rw [filter_none (fun b hb => by have := up_in (.inl rfl) hf h b hb; simp; omega), filter_all (fun b hb => by have := up_in (.inl rfl) hm h b hb; simp; omega), filter_none (fun b hb => by have := up_in (.inl rfl) hn h b hb; simp; omega)]
  simp

/-- what a shelf keeps of all that were taken -/
structure Keeps (s : Shf) (A : List (Int × Int)) : Prop where
  sr : SR s
  took : Took A
  ra : s.ra = A.filter fun x => decide (s.rf ≤ x.1)
  fi : s.fi = up (win A s.ff s.ft) 10
  co : s.co = up (win A s.cf s.ct) 60

theorem keeps_new {se : List (ByteArray × ByteArray)} (h : Go.GrainU.wrongS se = 0) : Keeps { szero with se := se } [] := by
  refine ⟨⟨h, ?_, ?_, ?_, ?_, ?_, ?_, ?_, ?_, ?_, ?_, ?_, ?_, ?_, ?_, ?_⟩, ⟨?_, ?_⟩, rfl, rfl, rfl⟩ <;> simp [szero]

theorem win_ra {A : List (Int × Int)} {r f t : Int} (h : r ≤ f) : win (A.filter fun x => decide (r ≤ x.1)) f t = win A f t := by
  simp only [win, List.filter_filter]
  congr 1
  funext x
  simp
  omega

theorem keeps_app {s : Shf} {A : List (Int × Int)} (h : Keeps s A) {t v : Int} (h' : (sapp s t v).2 = 0) : Keeps (sapp s t v).1 (A ++ [(t, v)]) := by
  have hr := (sapp_right h.sr h').1
  unfold sapp at *
  rw [if_neg (by simp [(sr_iff s).2 h.sr])] at *
  by_cases h1 : inR t v = false
  · rw [if_pos h1] at h'; exact absurd h' (by decide)
  · rw [if_neg h1] at *
    by_cases h2 : late s t = true
    · rw [if_pos h2] at h'; exact absurd h' (by decide)
    · rw [if_neg h2] at *
      by_cases h3 : 500 ≤ s.ra.length
      · rw [if_pos h3] at h'; exact absurd h' (by decide)
      · rw [if_neg h3] at *
        have hft : s.ft ≤ t := by simp [late] at h2; exact h2.1
        have hbd := h.sr.bd
        have hp := hr.rpw
        simp only at hp
        rw [List.pairwise_append] at hp
        refine ⟨hr, ⟨?_, ?_⟩, ?_, ?_, ?_⟩
        · intro x hx
          simp at hx
          rcases hx with hx | rfl
          · exact h.took.rin x hx
          · simpa using h1
        · rw [List.pairwise_append]
          refine ⟨h.took.pw, by simp, fun x hx y hy => ?_⟩
          simp at hy
          subst hy
          by_cases e : s.rf ≤ x.1
          · exact hp.2.2 x (by rw [h.ra]; simp [hx, e]) (t, v) (by simp)
          · simp only; omega
        · show s.ra ++ [(t, v)] = (A ++ [(t, v)]).filter fun x => decide (s.rf ≤ x.1)
          rw [List.filter_append, ← h.ra, filter_all (l := [(t, v)]) (fun x hx => by simp at hx; subst hx; simp; omega)]
        · show s.fi = up (win (A ++ [(t, v)]) s.ff s.ft) 10
          rw [win_snoc, if_neg (by simp only; omega)]; exact h.fi
        · show s.co = up (win (A ++ [(t, v)]) s.cf s.ct) 60
          rw [win_snoc, if_neg (by simp only; omega)]; exact h.co

theorem keeps_roll {s : Shf} {A : List (Int × Int)} (h : Keeps s A) {to : Int} (h' : (sroll s to).2 = 0) : Keeps (sroll s to).1 A := by
  have hr := sroll_right h.sr h'
  have h0 : wrongAt s to = 0 := by
    by_cases e : wrongAt s to = 0
    · exact e
    · unfold sroll at h'; rw [if_pos e] at h'; exact absurd h' e
  unfold sroll at *
  rw [if_neg (by simp [h0])] at *
  by_cases h1 : 500 < (nfi s to).length
  · rw [if_pos h1] at h'; exact absurd h' (by decide)
  · rw [if_neg h1] at *
    by_cases h2 : 500 < (nco s to).length
    · rw [if_pos h2] at h'; exact absurd h' (by decide)
    · rw [if_neg h2] at *
      obtain ⟨hr, hw⟩ := hr
      have f1 := h.sr.fsp
      have f2 := h.sr.csp
      have f3 := h.sr.bd
      have g1 := hr.fsp
      have g2 := hr.csp
      have g3 := hr.bd
      simp only [Fwd] at g1 g2 g3 hw
      have e1 : nfi s to = up (win A s.ff (nft s to)) 10 := by
        unfold nfi
        rw [h.ra, win_ra f3.2.1, h.fi, up_split (.inl rfl) f1.2.1 f1.2.2.2.1 hw.2.2.1 h.took]
      refine ⟨hr, h.took, h.ra, e1, ?_⟩
      show nco s to = up (win A s.cf (nct s to)) 60
      unfold nco
      rw [e1, up_winB f1.1 (by omega) (by omega) f3.2.2.1 hw.2.2.2.2 g3.2.2.2 h.took, great_up _ (h.took.win_len g2.2.2.2.2 (by omega) hw.2.2.2.2), h.co, ← up_split (.inr rfl) f2.2.1 f2.2.2.2.1 hw.2.2.2.2 h.took]

theorem keeps_forg {s : Shf} {A : List (Int × Int)} (h : Keeps s A) {tier to : Int} (h' : (sforg s tier to).2 = 0) : Keeps (sforg s tier to).1 A := by
  have hr := sforg_right h.sr h'
  have h0 : wrongAt s to = 0 := by
    by_cases e : wrongAt s to = 0
    · exact e
    · unfold sforg at h'; rw [if_pos e] at h'; exact absurd h' e
  unfold sforg at *
  rw [if_neg (by simp [h0])] at *
  obtain ⟨hr, hw⟩ := hr
  have f1 := h.sr.fsp
  have f2 := h.sr.csp
  have f3 := h.sr.bd
  by_cases k0 : tier = 0
  · rw [if_pos k0] at *
    refine ⟨hr, h.took, ?_, h.fi, h.co⟩
    simp only [Fwd] at hw
    show (s.ra.filter fun x => decide (nrf s to ≤ x.1)) = A.filter fun x => decide (nrf s to ≤ x.1)
    rw [h.ra, List.filter_filter]
    congr 1
    funext x
    simp
    omega
  · rw [if_neg k0] at *
    by_cases k1 : tier = 1
    · rw [if_pos k1] at *
      have g1 := hr.fsp
      simp only [Fwd] at hw g1
      refine ⟨hr, h.took, h.ra, ?_, h.co⟩
      show (s.fi.filter fun x => decide (nff s to ≤ x.a)) = up (win A (nff s to) s.ft) 10
      rw [h.fi]
      exact up_from (.inl rfl) f1.1 g1.1 hw.2.1 g1.2.2.2.1 h.took
    · rw [if_neg k1] at *
      by_cases k2 : tier = 2
      · rw [if_pos k2] at *
        have g1 := hr.csp
        simp only [Fwd] at hw g1
        refine ⟨hr, h.took, h.ra, h.fi, ?_⟩
        show (s.co.filter fun x => decide (ncf s to ≤ x.a)) = up (win A (ncf s to) s.ct) 60
        rw [h.co]
        exact up_from (.inr rfl) f2.1 g1.1 hw.2.2.2.1 g1.2.2.2.1 h.took
      · rw [if_neg k2] at h'; exact absurd h' (by decide)

/-- an act: its kind, a sample, a tier, a time -/
structure Act where
  k : Int
  t : Int
  v : Int
  i : Int
  o : Int

/-- what comes of an act -/
def act (s : Shf) (a : Act) : Shf × Int :=
  if a.k = 0 then sapp s a.t a.v else if a.k = 1 then sroll s a.o else if a.k = 2 then sforg s a.i a.o else (s, 1)

def play1 (p : Shf × List (Int × Int)) (a : Act) : Shf × List (Int × Int) :=
  if (act p.1 a).2 ≠ 0 then p else ((act p.1 a).1, if a.k = 0 then p.2 ++ [(a.t, a.v)] else p.2)

def play (p : Shf × List (Int × Int)) (l : List Act) : Shf × List (Int × Int) := l.foldl play1 p

theorem keeps_act {s : Shf} {A : List (Int × Int)} (h : Keeps s A) (a : Act) : Keeps (play1 (s, A) a).1 (play1 (s, A) a).2 := by
  unfold play1
  by_cases e : (act s a).2 ≠ 0
  · rw [if_pos e]; exact h
  · rw [if_neg e]
    simp only [ne_eq, Decidable.not_not] at e
    unfold act at *
    by_cases k0 : a.k = 0
    · simp only [k0, if_true] at *
      exact keeps_app h e
    · simp only [k0, if_false] at *
      by_cases k1 : a.k = 1
      · simp only [k1, if_true] at *
        exact keeps_roll h e
      · simp only [k1, if_false] at *
        by_cases k2 : a.k = 2
        · simp only [k2, if_true] at *
          exact keeps_forg h e
        · simp only [k2, if_false] at *
          exact absurd e (by decide)

end Grain
