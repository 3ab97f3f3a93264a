/-
  The plain mathematics of a shelf: what is wrong with it, a sample more, rolled, forgotten. No program is named here.
-/
import Derived.Test.YtcgcefnfelmmkaaRollN
import Derived.Test.YtcgcefnfelmmkaaLabM
import Derived.Test.YtcgcefnfelmmkaaRightM
namespace Grain

/-- a shelf -/
structure Shf where
  se : List (ByteArray × ByteArray)
  ra : List (Int × Int)
  fi : List Bk
  co : List Bk
  rf : Int
  ff : Int
  ft : Int
  cf : Int
  ct : Int

def szero : Shf := ⟨[], [], [], [], 0, 0, 0, 0, 0⟩

/-- from a time to a time, by a step -/
def span (f t st : Int) : Bool := decide (f % st = 0 ∧ t % st = 0 ∧ 0 ≤ f ∧ f ≤ t ∧ t ≤ 1000000)
def bfit (s : Shf) : Bool := span s.ff s.ft 10 && (span s.cf s.ct 60 && decide (0 ≤ s.rf ∧ s.rf ≤ s.ft ∧ s.ff ≤ s.ct ∧ s.ct ≤ s.ft))
def within (B : List Bk) (f t : Int) : Bool := B.all fun b => decide (f ≤ b.a ∧ b.a < t)
def efit (s : Shf) : Bool := (s.ra.all fun x => decide (s.rf ≤ x.1)) && (within s.fi s.ff s.ft && within s.co s.cf s.ct)

/-- what is wrong with a shelf -/
def swrong (s : Shf) : Int :=
  if Go.GrainU.wrongS s.se ≠ 0 then Go.GrainU.wrongS s.se
  else if (wrong s.ra).1 ≠ 0 then (wrong s.ra).1
  else if (wrongB s.fi 10).1 ≠ 0 then (wrongB s.fi 10).1
  else if (wrongB s.co 60).1 ≠ 0 then (wrongB s.co 60).1
  else if (bfit s && efit s) = true then 0 else 8

/-- does a time come too late? -/
def late (s : Shf) (t : Int) : Bool := decide (t < s.ft) || (match s.ra.getLast? with | some y => decide (t ≤ y.1) | none => false)

/-- a sample more -/
def sapp (s : Shf) (t v : Int) : Shf × Int :=
  if swrong s ≠ 0 then (szero, swrong s)
  else if inR t v = false then (szero, 3)
  else if late s t = true then (szero, 9)
  else if 500 ≤ s.ra.length then (szero, 5)
  else ({ s with ra := s.ra ++ [(t, v)] }, 0)

def winB (B : List Bk) (f t : Int) : List Bk := B.filter fun b => decide (f ≤ b.a ∧ b.a < t)

/-- where fine buckets end, rolled -/
def nft (s : Shf) (to : Int) : Int := max s.ft (beg to 10)
def nfi (s : Shf) (to : Int) : List Bk := s.fi ++ up (win s.ra s.ft (nft s to)) 10
def nct (s : Shf) (to : Int) : Int := max s.ct (beg (nft s to) 60)
def nco (s : Shf) (to : Int) : List Bk := s.co ++ great (winB (nfi s to) s.ct (nct s to))

def wrongAt (s : Shf) (to : Int) : Int := if swrong s ≠ 0 then swrong s else if to < 0 ∨ 1000000 < to then 3 else 0

/-- rolled -/
def sroll (s : Shf) (to : Int) : Shf × Int :=
  if wrongAt s to ≠ 0 then (szero, wrongAt s to)
  else if 500 < (nfi s to).length then (szero, 5)
  else if 500 < (nco s to).length then (szero, 5)
  else ({ s with fi := nfi s to, co := nco s to, ft := nft s to, ct := nct s to }, 0)

def nrf (s : Shf) (to : Int) : Int := max s.rf (min to s.ft)
def nff (s : Shf) (to : Int) : Int := max s.ff (beg (min to s.ct) 10)
def ncf (s : Shf) (to : Int) : Int := max s.cf (beg (min to s.ct) 60)

/-- forgotten -/
def sforg (s : Shf) (tier to : Int) : Shf × Int :=
  if wrongAt s to ≠ 0 then (szero, wrongAt s to)
  else if tier = 0 then ({ s with rf := nrf s to, ra := s.ra.filter fun x => decide (nrf s to ≤ x.1) }, 0)
  else if tier = 1 then ({ s with ff := nff s to, fi := s.fi.filter fun b => decide (nff s to ≤ b.a) }, 0)
  else if tier = 2 then ({ s with cf := ncf s to, co := s.co.filter fun b => decide (ncf s to ≤ b.a) }, 0)
  else (szero, 1)

theorem bk_get {l : List Bk} {k : Nat} (h : k < l.length) : bk l k = l[k] := by simp [bk, List.getD, List.getElem?_eq_getElem h]

theorem rb_iff (B : List Bk) (st : Int) : RB B st ↔ (∀ b ∈ B, inRB b st = true) ∧ B.Pairwise (fun x y => x.a < y.a) := by
  constructor
  · intro h
    refine ⟨fun x hx => ?_, List.pairwise_iff_getElem.2 fun i j hi hj hij => ?_⟩
    · obtain ⟨k, hk, rfl⟩ := List.mem_iff_getElem.1 hx
      rw [← bk_get hk]; exact h.rng k hk
    · obtain ⟨d, rfl⟩ : ∃ d, j = i + d + 1 := ⟨j - i - 1, by omega⟩
      have := steps_lt (fun k => (bk B k).a) B.length h.rise d i hj
      rwa [bk_get hi, bk_get hj] at this
  · rintro ⟨h1, h2⟩
    rw [List.pairwise_iff_getElem] at h2
    refine ⟨fun k hk => ?_, fun k hk => ?_⟩
    · rw [bk_get hk]; exact h1 _ (List.getElem_mem hk)
    · rw [bk_get hk, bk_get (k := k) (by omega)]; exact h2 k (k + 1) (by omega) hk (by omega)

theorem wrongB_iff (B : List Bk) {st : Int} (h0 : st ≠ 0) : (wrongB B st).1 = 0 ↔ B.length ≤ 500 ∧ (∀ b ∈ B, inRB b st = true) ∧ B.Pairwise (fun x y => x.a < y.a) := by
  rw [← rb_iff]
  constructor
  · intro h; exact (rb_of h).2
  · rintro ⟨h5, h⟩; rw [wrongB_of h0 h5 h]

theorem tim_of {l : List (Int × Int)} (h1 : ∀ x ∈ l, 0 ≤ x.1 ∧ x.1 ≤ 1000000) (h2 : l.Pairwise (fun x y => x.1 < y.1)) : Tim l := by
  refine ⟨h1, ?_⟩
  rintro r x y ⟨q, rfl⟩
  rw [List.append_assoc, List.append_assoc, List.pairwise_append] at h2
  have := h2.2.1
  simp at this
  exact this.1.1

theorem put_mem (X : List Bk) (A : Int) (s : Sm) : ∀ b ∈ put X A s, b.a = A ∨ b ∈ X := by
  intro b hb
  rcases put_cases X A with ho | ⟨R, q, rfl⟩
  · rw [put_off ho] at hb
    simp at hb
    rcases hb with h | rfl
    · exact .inr h
    · exact .inl rfl
  · rw [put_same] at hb
    simp at hb
    rcases hb with h | rfl
    · exact .inr (by simp [h])
    · exact .inl rfl

theorem up_mem (st : Int) : ∀ l : List (Int × Int), ∀ b ∈ up l st, ∃ x ∈ l, b.a = beg x.1 st := by
  refine snoc_ind ?_ ?_
  · intro b hb; simp [up] at hb
  · intro l x ih b hb
    rw [up_snoc] at hb
    rcases put_mem _ _ _ b hb with h | h
    · exact ⟨x, by simp, h⟩
    · obtain ⟨y, hy, e⟩ := ih b h
      exact ⟨y, by simp [hy], e⟩

theorem great_mem : ∀ B : List Bk, ∀ b ∈ great B, ∃ x ∈ B, b.a = beg x.a 60 := by
  refine snoc_ind ?_ ?_
  · intro b hb; simp [great] at hb
  · intro l x ih b hb
    rw [great_snoc] at hb
    rcases put_mem _ _ _ b hb with h | h
    · exact ⟨x, by simp, h⟩
    · obtain ⟨y, hy, e⟩ := ih b h
      exact ⟨y, by simp [hy], e⟩

/-- coarse buckets of right fine ones are right -/
theorem great_rb : ∀ B : List Bk, RB B 10 → RB (great B) 60 ∧ ∀ r x, B = r ++ [x] → ∃ R q, great B = R ++ [⟨beg x.a 60, q⟩] ∧ 1 ≤ q.c ∧ q.c ≤ x.a - beg x.a 60 + 10 := by
  refine snoc_ind ?_ ?_
  · intro _
    exact ⟨RB.nil 60, fun r x e => by simp at e⟩
  · intro l x ih h
    obtain ⟨h1, h2, h3⟩ := h.head
    have h2' := inRB_get h2
    obtain ⟨i1, i2⟩ := ih h1
    have hbeg : 0 ≤ beg x.a 60 ∧ beg x.a 60 ≤ 1000000 ∧ beg x.a 60 % 60 = 0 ∧ 0 ≤ x.a - beg x.a 60 ∧ x.a - beg x.a 60 + 10 ≤ 60 := by
      unfold beg; omega
    rw [great_snoc]
    have key : ∃ R q, put (great l) (beg x.a 60) x.s = R ++ [⟨beg x.a 60, q⟩] ∧ 1 ≤ q.c ∧ q.c ≤ x.a - beg x.a 60 + 10 ∧ RB R 60 ∧ ∀ R' c, R = R' ++ [c] → c.a < beg x.a 60 := by
      rcases put_cases (great l) (beg x.a 60) with ho | ⟨R, q, e⟩
      · refine ⟨_, _, put_off ho _, by omega, by omega, i1, fun R' c e => ?_⟩
        rcases snoc_or l with rfl | ⟨r, y, rfl⟩
        · simp [great] at e
        · obtain ⟨R2, q2, e2, _, _⟩ := i2 r y rfl
          rw [e2] at e
          have hc := (List.append_inj' e rfl).2
          simp at hc
          subst hc
          have hy := h3 r y rfl
          have hne := ho _ _ e2
          simp only at hne ⊢
          unfold beg at hne ⊢
          omega
      · rcases snoc_or l with rfl | ⟨r, y, rfl⟩
        · simp [great] at e
        · obtain ⟨R2, q2, e2, c1, c2⟩ := i2 r y rfl
          rw [e2] at e
          have hc := (List.append_inj' e rfl)
          obtain ⟨hR, hc⟩ := hc
          simp at hc
          obtain ⟨ha, rfl⟩ := hc
          subst hR
          have hy := h3 r y rfl
          have hy2 := inRB_get h1.head.2.1
          rw [e2] at i1
          rw [e2, ha, put_same]
          obtain ⟨j1, j2, j3⟩ := i1.head
          simp only at j3
          have hj : (join q2 x.s).c = q2.c + x.s.c := join_c (by omega) (by omega) (by unfold beg at c2; omega)
          rw [ha] at c2 j3
          exact ⟨R2, _, rfl, by omega, by omega, j1, j3⟩
    obtain ⟨R, q, e, k1, k2, k3, k4⟩ := key
    refine ⟨?_, fun r y e' => ?_⟩
    · rw [e]
      refine k3.snoc ?_ k4
      simp only [inRB, decide_eq_true_eq]
      omega
    · have := (List.append_inj' e' rfl).2
      simp at this
      subst this
      exact ⟨R, q, e, k1, k2⟩

/-- a right shelf -/
structure SR (s : Shf) : Prop where
  se : Go.GrainU.wrongS s.se = 0
  rlen : s.ra.length ≤ 500
  rin : ∀ x ∈ s.ra, inR x.1 x.2 = true
  rpw : s.ra.Pairwise (fun x y => x.1 < y.1)
  flen : s.fi.length ≤ 500
  fin : ∀ b ∈ s.fi, inRB b 10 = true
  fpw : s.fi.Pairwise (fun x y => x.a < y.a)
  clen : s.co.length ≤ 500
  cin : ∀ b ∈ s.co, inRB b 60 = true
  cpw : s.co.Pairwise (fun x y => x.a < y.a)
  fsp : s.ff % 10 = 0 ∧ s.ft % 10 = 0 ∧ 0 ≤ s.ff ∧ s.ff ≤ s.ft ∧ s.ft ≤ 1000000
  csp : s.cf % 60 = 0 ∧ s.ct % 60 = 0 ∧ 0 ≤ s.cf ∧ s.cf ≤ s.ct ∧ s.ct ≤ 1000000
  bd : 0 ≤ s.rf ∧ s.rf ≤ s.ft ∧ s.ff ≤ s.ct ∧ s.ct ≤ s.ft
  rw' : ∀ x ∈ s.ra, s.rf ≤ x.1
  fw : ∀ b ∈ s.fi, s.ff ≤ b.a ∧ b.a < s.ft
  cw : ∀ b ∈ s.co, s.cf ≤ b.a ∧ b.a < s.ct

theorem sr_iff (s : Shf) : swrong s = 0 ↔ SR s := by
  constructor
  · intro h
    unfold swrong at h
    by_cases h1 : Go.GrainU.wrongS s.se = 0
    · by_cases h2 : (wrong s.ra).1 = 0
      · by_cases h3 : (wrongB s.fi 10).1 = 0
        · by_cases h4 : (wrongB s.co 60).1 = 0
          · rw [if_neg (by simp [h1]), if_neg (by simp [h2]), if_neg (by simp [h3]), if_neg (by simp [h4])] at h
            by_cases h5 : (bfit s && efit s) = true
            · obtain ⟨a1, a2, a3⟩ := (right_iff _).1 h2
              obtain ⟨b1, b2, b3⟩ := (wrongB_iff _ (by decide)).1 h3
              obtain ⟨c1, c2, c3⟩ := (wrongB_iff _ (by decide)).1 h4
              simp [bfit, efit, span, within] at h5
              obtain ⟨⟨d1, d2, d3⟩, d4, d5, d6⟩ := h5
              exact ⟨h1, a1, a2, a3, b1, b2, b3, c1, c2, c3, d1, d2, d3, fun x hx => d4 x.1 x.2 hx, d5, d6⟩
            · rw [if_neg h5] at h; exact absurd h (by decide)
          · rw [if_neg (by simp [h1]), if_neg (by simp [h2]), if_neg (by simp [h3]), if_pos h4] at h; exact absurd h h4
        · rw [if_neg (by simp [h1]), if_neg (by simp [h2]), if_pos h3] at h; exact absurd h h3
      · rw [if_neg (by simp [h1]), if_pos h2] at h; exact absurd h h2
    · rw [if_pos h1] at h; exact absurd h h1
  · rintro ⟨h1, a1, a2, a3, b1, b2, b3, c1, c2, c3, d1, d2, d3, d4, d5, d6⟩
    unfold swrong
    rw [if_neg (by simp [h1]), if_neg (by simp [(right_iff _).2 ⟨a1, a2, a3⟩]), if_neg (by simp [(wrongB_iff _ (by decide)).2 ⟨b1, b2, b3⟩]), if_neg (by simp [(wrongB_iff _ (by decide)).2 ⟨c1, c2, c3⟩]), if_pos]
    simp [bfit, efit, span, within]
    exact ⟨⟨d1, d2, d3⟩, fun a b h => d4 _ h, d5, d6⟩

/-- times don't go back -/
def Fwd (s t : Shf) : Prop := s.rf ≤ t.rf ∧ s.ff ≤ t.ff ∧ s.ft ≤ t.ft ∧ s.cf ≤ t.cf ∧ s.ct ≤ t.ct

theorem sapp_right {s : Shf} (h : SR s) {t v : Int} (h' : (sapp s t v).2 = 0) : SR (sapp s t v).1 ∧ Fwd s (sapp s t v).1 := by
  unfold sapp at *
  rw [if_neg (by simp [(sr_iff s).2 h])] at *
  by_cases h1 : inR t v = false
  · rw [if_pos h1] at h'; exact absurd h' (by decide)
  · rw [if_neg h1] at *
    by_cases h2 : late s t = true
    · rw [if_pos h2] at h'; exact absurd h' (by decide)
    · rw [if_neg h2] at *
      by_cases h3 : 500 ≤ s.ra.length
      · rw [if_pos h3] at h'; exact absurd h' (by decide)
      · rw [if_neg h3] at *
        have hin : inR t v = true := by simpa using h1
        simp only [late, Bool.or_eq_true, not_or, decide_eq_true_eq] at h2
        refine ⟨⟨h.se, by simp; omega, ?_, ?_, h.flen, h.fin, h.fpw, h.clen, h.cin, h.cpw, h.fsp, h.csp, h.bd, ?_, h.fw, h.cw⟩, ?_⟩
        · intro x hx
          simp at hx
          rcases hx with hx | rfl
          · exact h.rin x hx
          · exact hin
        · show (s.ra ++ [(t, v)]).Pairwise _
          rw [List.pairwise_append]
          refine ⟨h.rpw, by simp, fun x hx y hy => ?_⟩
          simp at hy
          subst hy
          rcases snoc_or s.ra with e | ⟨r, y, e⟩
          · rw [e] at hx; simp at hx
          · have h22 := h2.2
            rw [e] at h22
            simp at h22
            rw [e] at hx
            have hp := h.rpw
            rw [e, List.pairwise_append] at hp
            simp at hx
            rcases hx with hx | rfl
            · have := hp.2.2 x hx y (by simp)
              simp only; omega
            · exact h22
        · intro x hx
          simp at hx
          rcases hx with hx | rfl
          · exact h.rw' x hx
          · have := h.bd; simp only; omega
        · simp [Fwd]

theorem beg_bd {t st : Int} (hst : st = 10 ∨ st = 60) (ht : 0 ≤ t) : 0 ≤ beg t st ∧ beg t st ≤ t ∧ beg t st % st = 0 ∧ t < beg t st + st := by
  unfold beg; rcases hst with e | e <;> subst e <;> omega

theorem beg_ge {t st f : Int} (hst : st = 10 ∨ st = 60) (hf : f % st = 0) (h : f ≤ t) : f ≤ beg t st := by
  unfold beg; rcases hst with e | e <;> subst e <;> omega

/-- rolled, what comes is right -/
theorem sroll_right {s : Shf} (h : SR s) {to : Int} (h' : (sroll s to).2 = 0) : SR (sroll s to).1 ∧ Fwd s (sroll s to).1 := by
  unfold sroll at *
  by_cases h0 : wrongAt s to = 0
  · rw [if_neg (by simp [h0])] at *
    by_cases h1 : 500 < (nfi s to).length
    · rw [if_pos h1] at h'; exact absurd h' (by decide)
    · rw [if_neg h1] at *
      by_cases h2 : 500 < (nco s to).length
      · rw [if_pos h2] at h'; exact absurd h' (by decide)
      · rw [if_neg h2] at *
        have hto : 0 ≤ to ∧ to ≤ 1000000 := by
          unfold wrongAt at h0
          rw [if_neg (by simp [(sr_iff s).2 h])] at h0
          by_cases e : to < 0 ∨ 1000000 < to
          · rw [if_pos e] at h0; exact absurd h0 (by decide)
          · omega
        obtain ⟨g1, g2, g3, g4⟩ := beg_bd (.inl rfl) hto.1
        have hfs := h.fsp
        have hcs := h.csp
        have hbd := h.bd
        have hnft : s.ft ≤ nft s to ∧ nft s to % 10 = 0 ∧ nft s to ≤ 1000000 := by unfold nft; omega
        obtain ⟨k1, k2, k3, k4⟩ := beg_bd (t := nft s to) (st := 60) (.inr rfl) (by omega)
        have hnct : s.ct ≤ nct s to ∧ nct s to % 60 = 0 ∧ nct s to ≤ nft s to := by unfold nct; omega
        have htim : Tim (win s.ra s.ft (nft s to)) := by
          refine tim_of (fun x hx => ?_) (h.rpw.filter _)
          have := h.rin x (List.mem_filter.1 hx).1
          simp [inR] at this
          omega
        have hup := (rb_iff _ _).1 (up_rb (.inl rfl) _ htim (by have := win_len s.ra s.ft (nft s to); have := h.rlen; omega)).1
        have hupm : ∀ b ∈ up (win s.ra s.ft (nft s to)) 10, s.ft ≤ b.a ∧ b.a < nft s to := by
          intro b hb
          obtain ⟨x, hx, e⟩ := up_mem 10 _ b hb
          simp [win] at hx
          rw [e]
          have := beg_ge (st := 10) (f := s.ft) (t := x.1) (.inl rfl) hfs.2.1 hx.2.1
          have := beg_bd (st := 10) (t := x.1) (.inl rfl) (by omega)
          omega
        have hnfi : (∀ b ∈ nfi s to, inRB b 10 = true) ∧ (nfi s to).Pairwise (fun x y => x.a < y.a) ∧ ∀ b ∈ nfi s to, s.ff ≤ b.a ∧ b.a < nft s to := by
          unfold nfi
          refine ⟨fun b hb => ?_, ?_, fun b hb => ?_⟩
          · rw [List.mem_append] at hb
            rcases hb with hb | hb
            · exact h.fin b hb
            · exact hup.1 b hb
          · rw [List.pairwise_append]
            refine ⟨h.fpw, hup.2, fun x hx y hy => ?_⟩
            have := h.fw x hx
            have := hupm y hy
            omega
          · rw [List.mem_append] at hb
            rcases hb with hb | hb
            · have := h.fw b hb; omega
            · have := hupm b hb; omega
        have hgr := (rb_iff _ _).1 (great_rb (winB (nfi s to) s.ct (nct s to)) ((rb_iff _ _).2 ⟨fun b hb => hnfi.1 b (List.mem_filter.1 hb).1, hnfi.2.1.filter _⟩)).1
        have hgrm : ∀ b ∈ great (winB (nfi s to) s.ct (nct s to)), s.ct ≤ b.a ∧ b.a < nct s to := by
          intro b hb
          obtain ⟨x, hx, e⟩ := great_mem _ b hb
          simp [winB] at hx
          rw [e]
          have := beg_ge (st := 60) (f := s.ct) (t := x.a) (.inr rfl) hcs.2.1 hx.2.1
          have := beg_bd (st := 60) (t := x.a) (.inr rfl) (by omega)
          omega
        refine ⟨⟨h.se, h.rlen, h.rin, h.rpw, Nat.le_of_not_lt h1, hnfi.1, hnfi.2.1, Nat.le_of_not_lt h2, ?_, ?_, ?_, ?_, ?_, h.rw', hnfi.2.2, ?_⟩, ?_⟩
        · intro b hb
          simp only [nco, List.mem_append] at hb
          rcases hb with hb | hb
          · exact h.cin b hb
          · exact hgr.1 b hb
        · simp only [nco]
          rw [List.pairwise_append]
          refine ⟨h.cpw, hgr.2, fun x hx y hy => ?_⟩
          have := h.cw x hx
          have := hgrm y hy
          omega
        · simp only; omega
        · simp only; omega
        · simp only; omega
        · intro b hb
          simp only [nco, List.mem_append] at hb
          rcases hb with hb | hb
          · have := h.cw b hb; simp only; omega
          · have := hgrm b hb; simp only; omega
        · simp only [Fwd]; omega
  · rw [if_pos h0] at h'; exact absurd h' h0

theorem wrongAt_zero {s : Shf} {to : Int} (h : wrongAt s to = 0) : SR s ∧ 0 ≤ to ∧ to ≤ 1000000 := by
  unfold wrongAt at h
  by_cases h1 : swrong s = 0
  · rw [if_neg (by simp [h1])] at h
    by_cases e : to < 0 ∨ 1000000 < to
    · rw [if_pos e] at h; exact absurd h (by decide)
    · exact ⟨(sr_iff s).1 h1, by omega, by omega⟩
  · rw [if_pos h1] at h; exact absurd h h1

theorem wrongAt_of {s : Shf} {to : Int} (h : SR s) (h1 : 0 ≤ to) (h2 : to ≤ 1000000) : wrongAt s to = 0 := by
  unfold wrongAt
  rw [if_neg (by simp [(sr_iff s).2 h]), if_neg (by omega)]

/-- forgotten, what is left is right -/
theorem sforg_right {s : Shf} (h : SR s) {tier to : Int} (h' : (sforg s tier to).2 = 0) : SR (sforg s tier to).1 ∧ Fwd s (sforg s tier to).1 := by
  unfold sforg at *
  by_cases h0 : wrongAt s to = 0
  · rw [if_neg (by simp [h0])] at *
    obtain ⟨_, t0, t1⟩ := wrongAt_zero h0
    have hfs := h.fsp
    have hcs := h.csp
    have hbd := h.bd
    by_cases h1 : tier = 0
    · rw [if_pos h1] at *
      have hn : s.rf ≤ nrf s to ∧ nrf s to ≤ s.ft := by unfold nrf; omega
      refine ⟨⟨h.se, ?_, ?_, h.rpw.filter _, h.flen, h.fin, h.fpw, h.clen, h.cin, h.cpw, h.fsp, h.csp, ?_, ?_, h.fw, h.cw⟩, ?_⟩
      · exact Nat.le_trans (List.length_filter_le _ _) h.rlen
      · exact fun x hx => h.rin x (List.mem_filter.1 hx).1
      · simp only; omega
      · intro x hx; simp at hx; exact hx.2
      · simp only [Fwd]; omega
    · rw [if_neg h1] at *
      by_cases h2 : tier = 1
      · rw [if_pos h2] at *
        obtain ⟨g1, g2, g3, g4⟩ := beg_bd (t := min to s.ct) (st := 10) (.inl rfl) (by omega)
        have hn : s.ff ≤ nff s to ∧ nff s to ≤ s.ct ∧ nff s to % 10 = 0 := by unfold nff; omega
        refine ⟨⟨h.se, h.rlen, h.rin, h.rpw, ?_, ?_, h.fpw.filter _, h.clen, h.cin, h.cpw, ?_, h.csp, ?_, h.rw', ?_, h.cw⟩, ?_⟩
        · exact Nat.le_trans (List.length_filter_le _ _) h.flen
        · exact fun x hx => h.fin x (List.mem_filter.1 hx).1
        · simp only; omega
        · simp only; omega
        · intro b hb; simp at hb; have := h.fw b hb.1; simp only; omega
        · simp only [Fwd]; omega
      · rw [if_neg h2] at *
        by_cases h3 : tier = 2
        · rw [if_pos h3] at *
          obtain ⟨g1, g2, g3, g4⟩ := beg_bd (t := min to s.ct) (st := 60) (.inr rfl) (by omega)
          have hn : s.cf ≤ ncf s to ∧ ncf s to ≤ s.ct ∧ ncf s to % 60 = 0 := by unfold ncf; omega
          refine ⟨⟨h.se, h.rlen, h.rin, h.rpw, h.flen, h.fin, h.fpw, ?_, ?_, h.cpw.filter _, h.fsp, ?_, h.bd, h.rw', h.fw, ?_⟩, ?_⟩
          · exact Nat.le_trans (List.length_filter_le _ _) h.clen
          · exact fun x hx => h.cin x (List.mem_filter.1 hx).1
          · simp only; omega
          · intro b hb; simp at hb; have := h.cw b hb.1; simp only; omega
          · simp only [Fwd]; omega
        · rw [if_neg h3] at h'; exact absurd h' (by decide)
  · rw [if_pos h0] at h'; exact absurd h' h0

theorem win_none (l : List (Int × Int)) (f : Int) : win l f f = [] := by
  simp only [win, List.filter_eq_nil_iff]
  intro x _; simp
theorem winB_none (l : List Bk) (f : Int) : winB l f f = [] := by
  simp only [winB, List.filter_eq_nil_iff]
  intro x _; simp

/-- rolled twice is rolled once -/
theorem sroll_twice {s : Shf} {to : Int} (h : (sroll s to).2 = 0) : sroll (sroll s to).1 to = ((sroll s to).1, 0) := by
  have h0 : wrongAt s to = 0 := by
    by_cases e : wrongAt s to = 0
    · exact e
    · unfold sroll at h; rw [if_pos e] at h; exact absurd h e
  obtain ⟨hs, t0, t1⟩ := wrongAt_zero h0
  have hr := (sroll_right hs h).1
  obtain ⟨a, ha⟩ : ∃ a, a = (sroll s to).1 := ⟨_, rfl⟩
  rw [← ha] at hr ⊢
  have hft : a.ft = nft s to ∧ a.ct = nct s to := by
    rw [ha]
    unfold sroll at *
    rw [if_neg (by simp [h0])] at *
    by_cases h1 : 500 < (nfi s to).length
    · rw [if_pos h1] at h; exact absurd h (by decide)
    · rw [if_neg h1] at *
      by_cases h2 : 500 < (nco s to).length
      · rw [if_pos h2] at h; exact absurd h (by decide)
      · rw [if_neg h2] at *; exact ⟨rfl, rfl⟩
  have e1 : nft a to = a.ft := by
    have : a.ft = max s.ft (beg to 10) := hft.1
    unfold nft; omega
  have e2 : nct a to = a.ct := by
    have q : a.ct = max s.ct (beg (nft s to) 60) := hft.2
    rw [← hft.1] at q
    unfold nct
    rw [e1]; omega
  have e3 : nfi a to = a.fi := by unfold nfi; rw [e1, win_none]; simp [up]
  have e4 : nco a to = a.co := by unfold nco; rw [e2, winB_none]; simp [great]
  unfold sroll
  rw [if_neg (by simp [wrongAt_of hr t0 t1]), if_neg (by rw [e3]; have := hr.flen; omega), if_neg (by rw [e4]; have := hr.clen; omega), e1, e2, e3, e4]

theorem filter_self {α : Type} (p : α → Bool) (l : List α) : (l.filter p).filter p = l.filter p := by simp [List.filter_filter]

/-- forgotten twice is forgotten once -/
theorem sforg_twice {s : Shf} {tier to : Int} (h : (sforg s tier to).2 = 0) : sforg (sforg s tier to).1 tier to = ((sforg s tier to).1, 0) := by
  have h0 : wrongAt s to = 0 := by
    by_cases e : wrongAt s to = 0
    · exact e
    · unfold sforg at h; rw [if_pos e] at h; exact absurd h e
  obtain ⟨hs, t0, t1⟩ := wrongAt_zero h0
  have hr := (sforg_right hs h).1
  have hw := wrongAt_of hr t0 t1
  by_cases k0 : tier = 0
  · have e : (sforg s tier to).1 = { s with rf := nrf s to, ra := s.ra.filter fun x => decide (nrf s to ≤ x.1) } := by
      unfold sforg; rw [if_neg (by simp [h0]), if_pos k0]
    rw [e] at hw ⊢
    have en : nrf { s with rf := nrf s to, ra := s.ra.filter fun x => decide (nrf s to ≤ x.1) } to = nrf s to := by simp only [nrf]; omega
    unfold sforg
    rw [if_neg (by simp [hw]), if_pos k0, en]
    simp
  · by_cases k1 : tier = 1
    · have e : (sforg s tier to).1 = { s with ff := nff s to, fi := s.fi.filter fun x => decide (nff s to ≤ x.a) } := by
        unfold sforg; rw [if_neg (by simp [h0]), if_neg k0, if_pos k1]
      rw [e] at hw ⊢
      have en : nff { s with ff := nff s to, fi := s.fi.filter fun x => decide (nff s to ≤ x.a) } to = nff s to := by simp only [nff]; omega
      unfold sforg
      rw [if_neg (by simp [hw]), if_neg k0, if_pos k1, en]
      simp
    · by_cases k2 : tier = 2
      · have e : (sforg s tier to).1 = { s with cf := ncf s to, co := s.co.filter fun x => decide (ncf s to ≤ x.a) } := by
          unfold sforg; rw [if_neg (by simp [h0]), if_neg k0, if_neg k1, if_pos k2]
        rw [e] at hw ⊢
        have en : ncf { s with cf := ncf s to, co := s.co.filter fun x => decide (ncf s to ≤ x.a) } to = ncf s to := by simp only [ncf]; omega
        unfold sforg
        rw [if_neg (by simp [hw]), if_neg k0, if_neg k1, if_pos k2, en]
        simp
      · unfold sforg at h
        rw [if_neg (by simp [h0]), if_neg k0, if_neg k1, if_neg k2] at h
        exact absurd h (by decide)

end Grain
