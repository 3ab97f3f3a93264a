import Derived.Deep.AppendLies
import Derived.Test.YtoldmigappbjcaaGreatDoorL01
import Derived.Test.YtoldmigappbjcaaGreatDoorL15
import Derived.Test.YtoldmigappbjcaaGreatDoorRows
namespace Grain
structure Shf where
 se : List (ByteArray × ByteArray)
 ra : List (Int × Int)
 fi : List Bk
 co : List Bk
 rf : Int
 ff : Int
 ft : Int
 cf : Int
 ct : Int
def szero : Shf := ⟨[], [], [], [], 0, 0, 0, 0, 0⟩
def span (f t st : Int) : Bool := decide (f % st = 0 ∧ t % st = 0 ∧ 0 ≤ f ∧ f ≤ t ∧ t ≤ 1000000)
def bfit (s : Shf) : Bool := span s.ff s.ft 10 && (span s.cf s.ct 60 && decide (0 ≤ s.rf ∧ s.rf ≤ s.ft ∧ s.ff ≤ s.ct ∧ s.ct ≤ s.ft))
def within (B : List Bk) (f t : Int) : Bool := B.all fun b => decide (f ≤ b.a ∧ b.a < t)
def efit (s : Shf) : Bool := (s.ra.all fun x => decide (s.rf ≤ x.1)) && (within s.fi s.ff s.ft && within s.co s.cf s.ct)
def swrong (s : Shf) : Int :=
 if Go.GrainU.wrongS s.se ≠ 0 then Go.GrainU.wrongS s.se
 else if (wrong s.ra).1 ≠ 0 then (wrong s.ra).1
 else if (wrongB s.fi 10).1 ≠ 0 then (wrongB s.fi 10).1
 else if (wrongB s.co 60).1 ≠ 0 then (wrongB s.co 60).1
 else if (bfit s && efit s) = true then 0 else 8
def late (s : Shf) (t : Int) : Bool := decide (t < s.ft) || (match s.ra.getLast? with | some y => decide (t ≤ y.1) | none => false)
def sapp (s : Shf) (t v : Int) : Shf × Int :=
 if swrong s ≠ 0 then (szero, swrong s)
 else if inR t v = false then (szero, 3)
 else if late s t = true then (szero, 9)
 else if 500 ≤ s.ra.length then (szero, 5)
 else ({ s with ra := s.ra ++ [(t, v)] }, 0)
def winB (B : List Bk) (f t : Int) : List Bk := B.filter fun b => decide (f ≤ b.a ∧ b.a < t)
def nft (s : Shf) (tq : Int) : Int := max s.ft (beg tq 10)
def nfi (s : Shf) (tq : Int) : List Bk := s.fi ++ up (win s.ra s.ft (nft s tq)) 10
def nct (s : Shf) (tq : Int) : Int := max s.ct (beg (nft s tq) 60)
def nco (s : Shf) (tq : Int) : List Bk := s.co ++ great (winB (nfi s tq) s.ct (nct s tq))
def wrongAt (s : Shf) (tq : Int) : Int := if swrong s ≠ 0 then swrong s else if tq < 0 ∨ 1000000 < tq then 3 else 0
def sroll (s : Shf) (tq : Int) : Shf × Int :=
 if wrongAt s tq ≠ 0 then (szero, wrongAt s tq)
 else if 500 < (nfi s tq).length then (szero, 5)
 else if 500 < (nco s tq).length then (szero, 5)
 else ({ s with fi := nfi s tq, co := nco s tq, ft := nft s tq, ct := nct s tq }, 0)
def nrf (s : Shf) (tq : Int) : Int := max s.rf (min tq s.ft)
def nff (s : Shf) (tq : Int) : Int := max s.ff (beg (min tq s.ct) 10)
def ncf (s : Shf) (tq : Int) : Int := max s.cf (beg (min tq s.ct) 60)
def sforg (s : Shf) (tier tq : Int) : Shf × Int :=
 if wrongAt s tq ≠ 0 then (szero, wrongAt s tq)
 else if tier = 0 then ({ s with rf := nrf s tq, ra := s.ra.filter fun x => decide (nrf s tq ≤ x.1) }, 0)
 else if tier = 1 then ({ s with ff := nff s tq, fi := s.fi.filter fun b => decide (nff s tq ≤ b.a) }, 0)
 else if tier = 2 then ({ s with cf := ncf s tq, co := s.co.filter fun b => decide (ncf s tq ≤ b.a) }, 0)
 else (szero, 1)
theorem bk_get {l : List Bk} {k : Nat} (h : k < l.length) : bk l k = l[k] := by simp [bk, List.getD, List.getElem?_eq_getElem h]
theorem rb_iff (B : List Bk) (st : Int) : RB B st ↔ (∀ b ∈ B, inRB b st = true) ∧ B.Pairwise (fun x y => x.a < y.a) := by
 constructor
 ·intro h
  refine ⟨fun x hx => ?_, List.pairwise_iff_getElem.2 fun i j hi hj hij => ?_⟩
  ·obtain ⟨k, hk, rfl⟩ := List.mem_iff_getElem.1 hx
   rw [← bk_get hk]; exact h.rng k hk
  ·obtain ⟨d, rfl⟩ : ∃ d, j = i + d + 1 := ⟨j - i - 1, by omega⟩
   have := steps_lt (fun k => (bk B k).a) B.length h.rise d i hj
   rwa [bk_get hi, bk_get hj] at this
 ·rintro ⟨h1, h2⟩
  rw [List.pairwise_iff_getElem] at h2
  refine ⟨fun k hk => ?_, fun k hk => ?_⟩
  ·rw [bk_get hk]; exact h1 _ (List.getElem_mem hk)
  ·rw [bk_get hk, bk_get (k := k) (by omega)]; exact h2 k (k + 1) (by omega) hk (by omega)
theorem wrongB_iff (B : List Bk) {st : Int} (h0 : st ≠ 0) : (wrongB B st).1 = 0 ↔ B.length ≤ 500 ∧ (∀ b ∈ B, inRB b st = true) ∧ B.Pairwise (fun x y => x.a < y.a) := by
 rw [← rb_iff]
 constructor
 ·intro h; exact (rb_of h).2
 ·rintro ⟨h5, h⟩; rw [wrongB_of h0 h5 h]
theorem tim_of {l : List (Int × Int)} (h1 : ∀ x ∈ l, 0 ≤ x.1 ∧ x.1 ≤ 1000000) (h2 : l.Pairwise (fun x y => x.1 < y.1)) : Tim l := by
 refine ⟨h1, ?_⟩
 rintro r x y ⟨q, rfl⟩
 rw [List.append_assoc, List.append_assoc, List.pairwise_append] at h2
 have := h2.2.1
 simp at this
 exact this.1.1
theorem put_mem (X : List Bk) (A : Int) (s : Sm) : ∀ b ∈ put X A s, b.a = A ∨ b ∈ X := by
 intro b hb
 rcases put_cases X A with ho | ⟨R, q, rfl⟩
 ·rw [put_off ho] at hb
  simp at hb
  rcases hb with h | rfl
  ·exact .inr h
  ·exact .inl rfl
 ·rw [put_same] at hb
  simp at hb
  rcases hb with h | rfl
  ·exact .inr (by simp [h])
  ·exact .inl rfl
theorem up_mem (st : Int) : ∀ l : List (Int × Int), ∀ b ∈ up l st, ∃ x ∈ l, b.a = beg x.1 st := by
 refine snoc_ind ?_ ?_
 ·intro b hb; simp [up] at hb
 ·intro l x ih b hb
  rw [up_snoc] at hb
  rcases put_mem _ _ _ b hb with h | h
  ·exact ⟨x, by simp, h⟩
  ·obtain ⟨y, hy, e⟩ := ih b h
   exact ⟨y, by simp [hy], e⟩
theorem great_mem : ∀ B : List Bk, ∀ b ∈ great B, ∃ x ∈ B, b.a = beg x.a 60 := by
 refine snoc_ind ?_ ?_
 ·intro b hb; simp [great] at hb
 ·intro l x ih b hb
  rw [great_snoc] at hb
  rcases put_mem _ _ _ b hb with h | h
  ·exact ⟨x, by simp, h⟩
  ·obtain ⟨y, hy, e⟩ := ih b h
   exact ⟨y, by simp [hy], e⟩
theorem great_rb : ∀ B : List Bk, RB B 10 → RB (great B) 60 ∧ ∀ r x, B = r ++ [x] → ∃ R q, great B = R ++ [⟨beg x.a 60, q⟩] ∧ 1 ≤ q.c ∧ q.c ≤ x.a - beg x.a 60 + 10 := by
 refine snoc_ind ?_ ?_
 ·intro _
  exact ⟨RB.nil 60, fun r x e => by simp at e⟩
 ·intro l x ih h
  obtain ⟨h1, h2, h3⟩ := h.head
  have h2' := inRB_get h2
  obtain ⟨i1, i2⟩ := ih h1
  have hbeg : 0 ≤ beg x.a 60 ∧ beg x.a 60 ≤ 1000000 ∧ beg x.a 60 % 60 = 0 ∧ 0 ≤ x.a - beg x.a 60 ∧ x.a - beg x.a 60 + 10 ≤ 60 := by
   unfold beg; omega
  rw [great_snoc]
  have key : ∃ R q, put (great l) (beg x.a 60) x.s = R ++ [⟨beg x.a 60, q⟩] ∧ 1 ≤ q.c ∧ q.c ≤ x.a - beg x.a 60 + 10 ∧ RB R 60 ∧ ∀ R' c, R = R' ++ [c] → c.a < beg x.a 60 := by
   rcases put_cases (great l) (beg x.a 60) with ho | ⟨R, q, e⟩
   ·refine ⟨_, _, put_off ho _, by omega, by omega, i1, fun R' c e => ?_⟩
    rcases snoc_or l with rfl | ⟨r, y, rfl⟩
    ·simp [great] at e
    ·obtain ⟨R2, q2, e2, _, _⟩ := i2 r y rfl
     rw [e2] at e
     have hc := (List.append_inj' e rfl).2
     simp at hc
     subst hc
     have hy := h3 r y rfl
     have hne := ho _ _ e2
     simp only at hne ⊢
     unfold beg at hne ⊢
     omega
   ·rcases snoc_or l with rfl | ⟨r, y, rfl⟩
    ·simp [great] at e
    ·obtain ⟨R2, q2, e2, c1, c2⟩ := i2 r y rfl
     rw [e2] at e
     have hc := (List.append_inj' e rfl)
     obtain ⟨hR, hc⟩ := hc
     simp at hc
     obtain ⟨ha, rfl⟩ := hc
     subst hR
     have hy := h3 r y rfl
     have hy2 := inRB_get h1.head.2.1
     rw [e2] at i1
     rw [e2, ha, put_same]
     obtain ⟨j1, j2, j3⟩ := i1.head
     simp only at j3
     have hj : (join q2 x.s).c = q2.c + x.s.c := join_c (by omega) (by omega) (by unfold beg at c2; omega)
     rw [ha] at c2 j3
     exact ⟨R2, _, rfl, by omega, by omega, j1, j3⟩
  obtain ⟨R, q, e, k1, k2, k3, k4⟩ := key
  refine ⟨?_, fun r y e' => ?_⟩
  ·rw [e]
   refine k3.snoc ?_ k4
   simp only [inRB, decide_eq_true_eq]
   omega
  ·have := (List.append_inj' e' rfl).2
   simp at this
   subst this
   exact ⟨R, q, e, k1, k2⟩
structure SR (s : Shf) : Prop where
 se : Go.GrainU.wrongS s.se = 0
 rlen : s.ra.length ≤ 500
 rin : ∀ x ∈ s.ra, inR x.1 x.2 = true
 rpw : s.ra.Pairwise (fun x y => x.1 < y.1)
 flen : s.fi.length ≤ 500
 fin : ∀ b ∈ s.fi, inRB b 10 = true
 fpw : s.fi.Pairwise (fun x y => x.a < y.a)
 clen : s.co.length ≤ 500
 cin : ∀ b ∈ s.co, inRB b 60 = true
 cpw : s.co.Pairwise (fun x y => x.a < y.a)
 fsp : s.ff % 10 = 0 ∧ s.ft % 10 = 0 ∧ 0 ≤ s.ff ∧ s.ff ≤ s.ft ∧ s.ft ≤ 1000000
 csp : s.cf % 60 = 0 ∧ s.ct % 60 = 0 ∧ 0 ≤ s.cf ∧ s.cf ≤ s.ct ∧ s.ct ≤ 1000000
 bd : 0 ≤ s.rf ∧ s.rf ≤ s.ft ∧ s.ff ≤ s.ct ∧ s.ct ≤ s.ft
 rw' : ∀ x ∈ s.ra, s.rf ≤ x.1
 fw : ∀ b ∈ s.fi, s.ff ≤ b.a ∧ b.a < s.ft
 cw : ∀ b ∈ s.co, s.cf ≤ b.a ∧ b.a < s.ct
theorem sr_iff (s : Shf) : swrong s = 0 ↔ SR s := by
 constructor
 ·intro h
  unfold swrong at h
  by_cases h1 : Go.GrainU.wrongS s.se = 0
  ·by_cases h2 : (wrong s.ra).1 = 0
   ·by_cases h3 : (wrongB s.fi 10).1 = 0
    ·by_cases h4 : (wrongB s.co 60).1 = 0
     ·rw [if_neg (by simp [h1]), if_neg (by simp [h2]), if_neg (by simp [h3]), if_neg (by simp [h4])] at h
      by_cases h5 : (bfit s && efit s) = true
      ·obtain ⟨a1, a2, a3⟩ := (right_iff _).1 h2
       obtain ⟨b1, b2, b3⟩ := (wrongB_iff _ (by decide)).1 h3
       obtain ⟨c1, c2, c3⟩ := (wrongB_iff _ (by decide)).1 h4
       simp [bfit, efit, span, within] at h5
       obtain ⟨⟨d1, d2, d3⟩, d4, d5, d6⟩ := h5
       exact ⟨h1, a1, a2, a3, b1, b2, b3, c1, c2, c3, d1, d2, d3, fun x hx => d4 x.1 x.2 hx, d5, d6⟩
      ·rw [if_neg h5] at h; exact absurd h (by decide)
     ·rw [if_neg (by simp [h1]), if_neg (by simp [h2]), if_neg (by simp [h3]), if_pos h4] at h; exact absurd h h4
    ·rw [if_neg (by simp [h1]), if_neg (by simp [h2]), if_pos h3] at h; exact absurd h h3
   ·rw [if_neg (by simp [h1]), if_pos h2] at h; exact absurd h h2
  ·rw [if_pos h1] at h; exact absurd h h1
 ·rintro ⟨h1, a1, a2, a3, b1, b2, b3, c1, c2, c3, d1, d2, d3, d4, d5, d6⟩
  unfold swrong
  rw [if_neg (by simp [h1]), if_neg (by simp [(right_iff _).2 ⟨a1, a2, a3⟩]), if_neg (by simp [(wrongB_iff _ (by decide)).2 ⟨b1, b2, b3⟩]), if_neg (by simp [(wrongB_iff _ (by decide)).2 ⟨c1, c2, c3⟩]), if_pos]
  simp [bfit, efit, span, within]
  exact ⟨⟨d1, d2, d3⟩, fun a b h => d4 _ h, d5, d6⟩
def Fwd (s t : Shf) : Prop := s.rf ≤ t.rf ∧ s.ff ≤ t.ff ∧ s.ft ≤ t.ft ∧ s.cf ≤ t.cf ∧ s.ct ≤ t.ct
theorem sapp_right {s : Shf} (h : SR s) {t v : Int} (h' : (sapp s t v).2 = 0) : SR (sapp s t v).1 ∧ Fwd s (sapp s t v).1 := by
 unfold sapp at *
 rw [if_neg (by simp [(sr_iff s).2 h])] at *
 by_cases h1 : inR t v = false
 ·rw [if_pos h1] at h'; exact absurd h' (by decide)
 ·rw [if_neg h1] at *
  by_cases h2 : late s t = true
  ·rw [if_pos h2] at h'; exact absurd h' (by decide)
  ·rw [if_neg h2] at *
   by_cases h3 : 500 ≤ s.ra.length
   ·rw [if_pos h3] at h'; exact absurd h' (by decide)
   ·rw [if_neg h3] at *
    have hin : inR t v = true := by simpa using h1
    simp only [late, Bool.or_eq_true, not_or, decide_eq_true_eq] at h2
    refine ⟨⟨h.se, by simp; omega, ?_, ?_, h.flen, h.fin, h.fpw, h.clen, h.cin, h.cpw, h.fsp, h.csp, h.bd, ?_, h.fw, h.cw⟩, ?_⟩
    ·intro x hx
     simp at hx
     rcases hx with hx | rfl
     ·exact h.rin x hx
     ·exact hin
    ·show (s.ra ++ [(t, v)]).Pairwise _
     rw [List.pairwise_append]
     refine ⟨h.rpw, by simp, fun x hx y hy => ?_⟩
     simp at hy
     subst hy
     rcases snoc_or s.ra with e | ⟨r, y, e⟩
     ·rw [e] at hx; simp at hx
     ·have h22 := h2.2
      rw [e] at h22
      simp at h22
      rw [e] at hx
      have hp := h.rpw
      rw [e, List.pairwise_append] at hp
      simp at hx
      rcases hx with hx | rfl
      ·have := hp.2.2 x hx y (by simp)
       simp only; omega
      ·exact h22
    ·intro x hx
     simp at hx
     rcases hx with hx | rfl
     ·exact h.rw' x hx
     ·have := h.bd; simp only; omega
    ·simp [Fwd]
theorem beg_bd {t st : Int} (hst : st = 10 ∨ st = 60) (ht : 0 ≤ t) : 0 ≤ beg t st ∧ beg t st ≤ t ∧ beg t st % st = 0 ∧ t < beg t st + st := by
 unfold beg; rcases hst with e | e <;> subst e <;> omega
theorem beg_ge {t st f : Int} (hst : st = 10 ∨ st = 60) (hf : f % st = 0) (h : f ≤ t) : f ≤ beg t st := by
 unfold beg; rcases hst with e | e <;> subst e <;> omega
theorem sroll_right {s : Shf} (h : SR s) {tq : Int} (h' : (sroll s tq).2 = 0) : SR (sroll s tq).1 ∧ Fwd s (sroll s tq).1 := by
 unfold sroll at *
 by_cases h0 : wrongAt s tq = 0
 ·rw [if_neg (by simp [h0])] at *
  by_cases h1 : 500 < (nfi s tq).length
  ·rw [if_pos h1] at h'; exact absurd h' (by decide)
  ·rw [if_neg h1] at *
   by_cases h2 : 500 < (nco s tq).length
   ·rw [if_pos h2] at h'; exact absurd h' (by decide)
   ·rw [if_neg h2] at *
    have hto : 0 ≤ tq ∧ tq ≤ 1000000 := by
     unfold wrongAt at h0
     rw [if_neg (by simp [(sr_iff s).2 h])] at h0
     by_cases e : tq < 0 ∨ 1000000 < tq
     ·rw [if_pos e] at h0; exact absurd h0 (by decide)
     ·omega
    obtain ⟨g1, g2, g3, g4⟩ := beg_bd (.inl rfl) hto.1
    have hfs := h.fsp
    have hcs := h.csp
    have hbd := h.bd
    have hnft : s.ft ≤ nft s tq ∧ nft s tq % 10 = 0 ∧ nft s tq ≤ 1000000 := by unfold nft; omega
    obtain ⟨k1, k2, k3, k4⟩ := beg_bd (t := nft s tq) (st := 60) (.inr rfl) (by omega)
    have hnct : s.ct ≤ nct s tq ∧ nct s tq % 60 = 0 ∧ nct s tq ≤ nft s tq := by unfold nct; omega
    have htim : Tim (win s.ra s.ft (nft s tq)) := by
     refine tim_of (fun x hx => ?_) (h.rpw.filter _)
     have := h.rin x (List.mem_filter.1 hx).1
     simp [inR] at this
     omega
    have hup := (rb_iff _ _).1 (up_rb (.inl rfl) _ htim (by have := win_len s.ra s.ft (nft s tq); have := h.rlen; omega)).1
    have hupm : ∀ b ∈ up (win s.ra s.ft (nft s tq)) 10, s.ft ≤ b.a ∧ b.a < nft s tq := by
     intro b hb
     obtain ⟨x, hx, e⟩ := up_mem 10 _ b hb
     simp [win] at hx
     rw [e]
     have := beg_ge (st := 10) (f := s.ft) (t := x.1) (.inl rfl) hfs.2.1 hx.2.1
     have := beg_bd (st := 10) (t := x.1) (.inl rfl) (by omega)
     omega
    have hnfi : (∀ b ∈ nfi s tq, inRB b 10 = true) ∧ (nfi s tq).Pairwise (fun x y => x.a < y.a) ∧ ∀ b ∈ nfi s tq, s.ff ≤ b.a ∧ b.a < nft s tq := by
     unfold nfi
     refine ⟨fun b hb => ?_, ?_, fun b hb => ?_⟩
     ·rw [List.mem_append] at hb
      rcases hb with hb | hb
      ·exact h.fin b hb
      ·exact hup.1 b hb
     ·rw [List.pairwise_append]
      refine ⟨h.fpw, hup.2, fun x hx y hy => ?_⟩
      have := h.fw x hx
      have := hupm y hy
      omega
     ·rw [List.mem_append] at hb
      rcases hb with hb | hb
      ·have := h.fw b hb; omega
      ·have := hupm b hb; omega
    have hgr := (rb_iff _ _).1 (great_rb (winB (nfi s tq) s.ct (nct s tq)) ((rb_iff _ _).2 ⟨fun b hb => hnfi.1 b (List.mem_filter.1 hb).1, hnfi.2.1.filter _⟩)).1
    have hgrm : ∀ b ∈ great (winB (nfi s tq) s.ct (nct s tq)), s.ct ≤ b.a ∧ b.a < nct s tq := by
     intro b hb
     obtain ⟨x, hx, e⟩ := great_mem _ b hb
     simp [winB] at hx
     rw [e]
     have := beg_ge (st := 60) (f := s.ct) (t := x.a) (.inr rfl) hcs.2.1 hx.2.1
     have := beg_bd (st := 60) (t := x.a) (.inr rfl) (by omega)
     omega
    refine ⟨⟨h.se, h.rlen, h.rin, h.rpw, Nat.le_of_not_lt h1, hnfi.1, hnfi.2.1, Nat.le_of_not_lt h2, ?_, ?_, ?_, ?_, ?_, h.rw', hnfi.2.2, ?_⟩, ?_⟩
    ·intro b hb
     simp only [nco, List.mem_append] at hb
     rcases hb with hb | hb
     ·exact h.cin b hb
     ·exact hgr.1 b hb
    ·simp only [nco]
     rw [List.pairwise_append]
     refine ⟨h.cpw, hgr.2, fun x hx y hy => ?_⟩
     have := h.cw x hx
     have := hgrm y hy
     omega
    ·simp only; omega
    ·simp only; omega
    ·simp only; omega
    ·intro b hb
     simp only [nco, List.mem_append] at hb
     rcases hb with hb | hb
     ·have := h.cw b hb; simp only; omega
     ·have := hgrm b hb; simp only; omega
    ·simp only [Fwd]; omega
 ·rw [if_pos h0] at h'; exact absurd h' h0
theorem wrongAt_zero {s : Shf} {tq : Int} (h : wrongAt s tq = 0) : SR s ∧ 0 ≤ tq ∧ tq ≤ 1000000 := by
 unfold wrongAt at h
 by_cases h1 : swrong s = 0
 ·rw [if_neg (by simp [h1])] at h
  by_cases e : tq < 0 ∨ 1000000 < tq
  ·rw [if_pos e] at h; exact absurd h (by decide)
  ·exact ⟨(sr_iff s).1 h1, by omega, by omega⟩
 ·rw [if_pos h1] at h; exact absurd h h1
theorem wrongAt_of {s : Shf} {tq : Int} (h : SR s) (h1 : 0 ≤ tq) (h2 : tq ≤ 1000000) : wrongAt s tq = 0 := by
 unfold wrongAt
 rw [if_neg (by simp [(sr_iff s).2 h]), if_neg (by omega)]
theorem sforg_right {s : Shf} (h : SR s) {tier tq : Int} (h' : (sforg s tier tq).2 = 0) : SR (sforg s tier tq).1 ∧ Fwd s (sforg s tier tq).1 := by
 unfold sforg at *
 by_cases h0 : wrongAt s tq = 0
 ·rw [if_neg (by simp [h0])] at *
  obtain ⟨_, t0, t1⟩ := wrongAt_zero h0
  have hfs := h.fsp
  have hcs := h.csp
  have hbd := h.bd
  by_cases h1 : tier = 0
  ·rw [if_pos h1] at *
   have hn : s.rf ≤ nrf s tq ∧ nrf s tq ≤ s.ft := by unfold nrf; omega
   refine ⟨⟨h.se, ?_, ?_, h.rpw.filter _, h.flen, h.fin, h.fpw, h.clen, h.cin, h.cpw, h.fsp, h.csp, ?_, ?_, h.fw, h.cw⟩, ?_⟩
   ·exact Nat.le_trans (List.length_filter_le _ _) h.rlen
   ·exact fun x hx => h.rin x (List.mem_filter.1 hx).1
   ·simp only; omega
   ·intro x hx; simp at hx; exact hx.2
   ·simp only [Fwd]; omega
  ·rw [if_neg h1] at *
   by_cases h2 : tier = 1
   ·rw [if_pos h2] at *
    obtain ⟨g1, g2, g3, g4⟩ := beg_bd (t := min tq s.ct) (st := 10) (.inl rfl) (by omega)
    have hn : s.ff ≤ nff s tq ∧ nff s tq ≤ s.ct ∧ nff s tq % 10 = 0 := by unfold nff; omega
    refine ⟨⟨h.se, h.rlen, h.rin, h.rpw, ?_, ?_, h.fpw.filter _, h.clen, h.cin, h.cpw, ?_, h.csp, ?_, h.rw', ?_, h.cw⟩, ?_⟩
    ·exact Nat.le_trans (List.length_filter_le _ _) h.flen
    ·exact fun x hx => h.fin x (List.mem_filter.1 hx).1
    ·simp only; omega
    ·simp only; omega
    ·intro b hb; simp at hb; have := h.fw b hb.1; simp only; omega
    ·simp only [Fwd]; omega
   ·rw [if_neg h2] at *
    by_cases h3 : tier = 2
    ·rw [if_pos h3] at *
     obtain ⟨g1, g2, g3, g4⟩ := beg_bd (t := min tq s.ct) (st := 60) (.inr rfl) (by omega)
     have hn : s.cf ≤ ncf s tq ∧ ncf s tq ≤ s.ct ∧ ncf s tq % 60 = 0 := by unfold ncf; omega
     refine ⟨⟨h.se, h.rlen, h.rin, h.rpw, h.flen, h.fin, h.fpw, ?_, ?_, h.cpw.filter _, h.fsp, ?_, h.bd, h.rw', h.fw, ?_⟩, ?_⟩
     ·exact Nat.le_trans (List.length_filter_le _ _) h.clen
     ·exact fun x hx => h.cin x (List.mem_filter.1 hx).1
     ·simp only; omega
     ·intro b hb; simp at hb; have := h.cw b hb.1; simp only; omega
     ·simp only [Fwd]; omega
    ·rw [if_neg h3] at h'; exact absurd h' (by decide)
 ·rw [if_pos h0] at h'; exact absurd h' h0
end Grain
namespace Go.Proofs.YtoldmigappbjcaaGreatDoor
open Go.RowKit Go.GrainU
theorem tmod_emod (x s : Int) : x.tmod s = 0 ↔ x % s = 0 := by
 constructor
 ·intro h; exact Int.emod_eq_zero_of_dvd (Int.dvd_of_tmod_eq_zero h)
 ·intro h; exact Int.tmod_eq_zero_of_dvd (Int.dvd_of_emod_eq_zero h)
set_option maxHeartbeats 1000000 in
theorem span_any (f t st : Int) (w : World) (hst : st = 10 ∨ st = 60) :
  Calls Tryz.prog 78 #[.int .i64 f, .int .i64 t, .int .i64 st] w fun e w' => e = .returned (.bool (Grain.span f t st)) ∧ w' = w := by
 have H1 := hide (tmod_emod f st)
 have H2 := hide (tmod_emod t st)
 rcases hst with rfl | rfl
 all_goals
  go_enter Tryz.func78, Tryz.ntmps78
  go_wp2
  all_goals
   go_ret
   refine ⟨ret_bool ?_, rfl⟩
   have h1 := H1.out
   have h2 := H2.out
   clear H1 H2
   rw [Bool.eq_iff_iff]
   simp [Grain.span]
   omega
set_option maxHeartbeats 400000 in
theorem mult_any (t st : Int) (w : World) (h0 : 0 ≤ t) (h1 : t ≤ 1000000) (hst : st = 10 ∨ st = 60) :
  Calls Tryz.prog 132 #[.int .i64 t, .int .i64 st] w fun e w' => e = .returned (.int .i64 (Grain.beg t st)) ∧ w' = w := by
 rcases hst with rfl | rfl
 all_goals
  go_enter Tryz.func132, Tryz.ntmps132
  go_wp2
  go_ret
  refine ⟨ret_int ?_, rfl⟩
  unfold Grain.beg
  first | omega | (rw [IntKind.wrap_i64]; omega)
end Go.Proofs.YtoldmigappbjcaaGreatDoor
namespace Go.GrainU
open Go.RowKit
theorem enters {P : Program} {f : FuncId} {fn : Func} (hf : P.funcs[f]? = some fn) (hname : (fn.name == "runtime.NumGoroutine") = false) (hb : fn.body.isSome = true) (args : Array Value) (w : World) :
  (callFunc f args).run P w = .ok (.enter f args) w := by
 have h1 : fn.name ≠ "runtime.NumGoroutine" := by simpa using hname
 obtain ⟨b, hb⟩ := Option.isSome_iff_exists.1 hb
 simp [callFunc, hf, h1, hb]
end Go.GrainU
namespace Go.Proofs.YtoldmigappbjcaaGreatDoor
open Go.RowKit Go.GrainU
set_option maxRecDepth 20000 in
set_option maxHeartbeats 1000000 in
theorem sidx_any (l : List (Int × Int)) (p : Int → Int → Bool) (F : Nat) (caps : Array Value) (ao : Option Addr) (n c : Nat) (w : World) (ha : Seg w ao (scells l)) (hn : n = l.length) (hc : n ≤ 9223372036854775807)
  (hE : Hid (∀ (args : Array Value) (W : World), (callFunc F args).run Tryz.prog W = .ok (.enter F args) W))
  (hF : ∀ W t v, Below w.heap.size w W → Calls Tryz.prog F (#[.agg #[.int .i64 t, .int .i64 v]] ++ caps) W fun e W' => e = .returned (.bool (p t v)) ∧ Below W.heap.size W W') :
  Calls Tryz.prog 117 #[.slice ao n c, .func (.func F) #[] caps] w fun e w' => (∃ i, e = .returned (.int .i64 i) ∧ decide (0 ≤ i) = l.any fun x => p x.1 x.2) ∧ Below w.heap.size w w' := by
 have HN := hide hn
 have HF := hide hF
 clear hn hF
 go_enter Tryz.func117, Tryz.ntmps117
 go_wp2
 go_loopw [8] (fun i wr => ∃ k : Nat, k ≤ n ∧ i = .int .i64 k ∧ Hid ((l.any fun x => p x.1 x.2) = (l.drop k).any fun x => p x.1 x.2) ∧ Below w.heap.size w wr) (fun i _ => n - (intOf i).toNat)
 case atStart => exact ⟨0, Nat.zero_le _, rfl, rfl, Below.refl _ _⟩
 case round =>
  obtain ⟨k, hk, rfl, HW, bel⟩ := hrel
  have hsz := bel.size
  by_cases hlt : k < n
  ·have hkl : k < l.length := by rw [← HN.out]; exact hlt
   obtain ⟨b, off, rfl, hcell⟩ := ha.sample hkl
   have hb : b < w.heap.size := World.block_lt_of_cell? w ⟨b, off + k * 2, none⟩ (hcell k hkl).1
   obtain ⟨t, ht⟩ : ∃ t, t = Grain.tm l k := ⟨_, rfl⟩
   obtain ⟨v, hv⟩ : ∃ v, v = Grain.vl l k := ⟨_, rfl⟩
   have c0 : wr.cell? ⟨b, off + k * 2, none⟩ = some (.int .i64 t) := by rw [ht]; exact (bel.cell (by exact hb)).trans (hcell k hkl).1
   have c1 : wr.cell? ⟨b, off + k * 2 + 1, none⟩ = some (.int .i64 v) := by rw [hv]; exact (bel.cell (by exact hb)).trans (hcell k hkl).2
   have HS : Hid ((l.any fun x => p x.1 x.2) = (p t v || (l.drop (k + 1)).any fun x => p x.1 x.2)) := by
    show _ = _
    rw [HW.out, List.drop_eq_getElem_cons hkl, List.any_cons, ht, hv, (Grain.tm_get hkl).1, (Grain.tm_get hkl).2]
   clear ht hv hcell hkl HW
   go_wp2_with fail
   rw [hE.out, Oper.upon_enter]
   refine (HF.out wr t v bel).mono ?_
   rintro e w1 ⟨rfl, hb1⟩
   have bel1 : Below w.heap.size w w1 := bel.trans (hb1.mono hsz)
   clear hb1 bel c0 c1
   cases hp : p t v
   ·have hw : Hid ((l.any fun x => p x.1 x.2) = (l.drop (k + 1)).any fun x => p x.1 x.2) := by show _ = _; rw [HS.out, hp]; rfl
    clear HS hp
    go_wp2
    go_roundw
    case rel => exact ⟨k + 1, by omega, by go_num, hw, bel1⟩
    case measure => simp [intOf]; omega
   ·have hw : Hid ((l.any fun x => p x.1 x.2) = true) := by show _ = _; rw [HS.out, hp]; rfl
    clear HS hp
    go_wp2
    go_ret
    exact ⟨⟨_, rfl, by rw [hw.out]; simp⟩, bel1⟩
  ·have he : k = n := by omega
   subst he
   have hw : Hid ((l.any fun x => p x.1 x.2) = false) := by
    show _ = _
    rw [HW.out, List.drop_eq_nil_of_le (by rw [← HN.out]; omega)]; rfl
   clear HW
   go_wp2
   go_ret
   exact ⟨⟨_, rfl, by rw [hw.out]; rfl⟩, bel⟩
set_option maxHeartbeats 400000 in
theorem scont_any (l : List (Int × Int)) (p : Int → Int → Bool) (F : Nat) (caps : Array Value) (ao : Option Addr) (n c : Nat) (w : World) (ha : Seg w ao (scells l)) (hn : n = l.length) (hc : n ≤ 9223372036854775807)
  (hE : Hid (∀ (args : Array Value) (W : World), (callFunc F args).run Tryz.prog W = .ok (.enter F args) W))
  (hF : ∀ W t v, Below w.heap.size w W → Calls Tryz.prog F (#[.agg #[.int .i64 t, .int .i64 v]] ++ caps) W fun e W' => e = .returned (.bool (p t v)) ∧ Below W.heap.size W W') :
  Calls Tryz.prog 80 #[.slice ao n c, .func (.func F) #[] caps] w fun e w' => e = .returned (.bool (l.any fun x => p x.1 x.2)) ∧ Below w.heap.size w w' := by
 have HF := hide hF
 have HN := hide hn
 clear hF hn
 go_enter Tryz.func80, Tryz.ntmps80
 go_wp2_with fail
 refine (sidx_any l p F caps ao n c w ha HN.out hc hE HF.out).mono ?_
 rintro e w1 ⟨⟨i, rfl, hi⟩, hb1⟩
 have HI := hide hi
 clear hi
 go_wp2
 go_ret
 exact ⟨by rw [← HI.out]; rfl, hb1⟩
theorem Tryz.infoSmp : (Tryz.prog.info? 34).map (fun i => (i.zero, i.size, i.bytes)) = some (some (.agg #[.int .i64 0, .int .i64 0]), 2, 16) := by kernel_rfl
theorem filter_take {α : Type} (p : α → Bool) {l : List α} {k : Nat} (h : k < l.length) : (l.take (k + 1)).filter p = if p l[k] = true then (l.take k).filter p ++ [l[k]] else (l.take k).filter p := by
 rw [List.take_add_one, List.getElem?_eq_getElem h, List.filter_append]
 cases hp : p l[k] <;> simp [hp]
theorem sinfo_parts {P : Program} {t : TypeId} {z : Value} {a b : Nat} (h : (P.info? t).map (fun i => (i.zero, i.size, i.bytes)) = some (some z, a, b)) : ∃ i, P.info? t = some i ∧ i.zero = some z ∧ i.size = a ∧ i.bytes = b := by
 cases hq : P.info? t with
 | none => rw [hq] at h; simp at h
 | some i => rw [hq] at h; simp at h; exact ⟨i, rfl, h.1, h.2.1, h.2.2⟩
set_option maxRecDepth 20000 in
set_option maxHeartbeats 2000000 in
theorem skept_any (l : List (Int × Int)) (p : Int → Int → Bool) (F : Nat) (caps : Array Value) (ao : Option Addr) (n c : Nat) (w : World) (hs : Seg w ao (scells l)) (hn : n = l.length) (hL : n ≤ 1000000)
  (hE : Hid (∀ (args : Array Value) (W : World), (callFunc F args).run Tryz.prog W = .ok (.enter F args) W))
  (hF : ∀ W t v, Below w.heap.size w W → Calls Tryz.prog F (#[.agg #[.int .i64 t, .int .i64 v]] ++ caps) W fun e W' => e = .returned (.bool (p t v)) ∧ Below W.heap.size W W') :
  Calls Tryz.prog 133 #[.slice ao n c, .func (.func F) #[] caps] w fun e w' => ∃ co N d, e = .returned (.slice co N d) ∧ w'.ownsRow w.heap.size 34 2 (.slice co N d) N (scells (l.filter fun x => p x.1 x.2)) ∧ Below w.heap.size w w' := by
 obtain ⟨i0, hi, hz0, hz1, hz2⟩ := sinfo_parts Tryz.infoSmp
 have HN := hide hn
 have HF := hide hF
 clear hn hF
 go_enter Tryz.func133, Tryz.ntmps133
 go_wp2
 go_loopw [5, 10] (fun out i wr => ∃ (k N d : Nat) (co : Option Addr), k ≤ n ∧ i = .int .i64 k ∧ out = .slice co N d ∧ N ≤ k ∧ wr.ownsRow w.heap.size 34 2 (.slice co N d) N (scells ((l.take k).filter fun x => p x.1 x.2)) ∧ Below w.heap.size w wr) (fun _ i _ => n - (intOf i).toNat)
 case atStart => exact ⟨0, 0, 0, none, Nat.zero_le _, rfl, rfl, Nat.le_refl _, World.ownsRow_nil _ _ _ _, Below.refl _ _⟩
 case round =>
  obtain ⟨k, N, d, co, hk, rfl, rfl, hNk, own, bel⟩ := hrel
  have hsz := bel.size
  by_cases hlt : k < n
  ·have hkl : k < l.length := by rw [← HN.out]; exact hlt
   obtain ⟨b, off, rfl, hcell⟩ := hs.sample hkl
   have hbl : b < w.heap.size := World.block_lt_of_cell? w ⟨b, off + k * 2, none⟩ (hcell k hkl).1
   obtain ⟨x, hx⟩ : ∃ x, x = Grain.tm l k := ⟨_, rfl⟩
   obtain ⟨y, hy⟩ : ∃ y, y = Grain.vl l k := ⟨_, rfl⟩
   have c0 : wr.cell? ⟨b, off + k * 2, none⟩ = some (.int .i64 x) := by rw [hx]; exact (bel.cell (by exact hbl)).trans (hcell k hkl).1
   have c1 : wr.cell? ⟨b, off + k * 2 + 1, none⟩ = some (.int .i64 y) := by rw [hy]; exact (bel.cell (by exact hbl)).trans (hcell k hkl).2
   have HU : Hid (((l.take (k + 1)).filter fun x => p x.1 x.2) = if p x y = true then ((l.take k).filter fun x => p x.1 x.2) ++ [(x, y)] else (l.take k).filter fun x => p x.1 x.2) := by
    show _ = _
    rw [filter_take _ hkl, hx, hy, (Grain.tm_get hkl).1, (Grain.tm_get hkl).2]
   clear hx hy hcell hkl
   obtain ⟨V, hV⟩ : ∃ V, V = wr.alloc (.cells #[.int .i64 x, .int .i64 y] 34) := ⟨_, rfl⟩
   obtain ⟨X, hX⟩ : ∃ X, X = wr.heap.size := ⟨_, rfl⟩
   have F1 : V.heap[X]? = some (.cells #[.int .i64 x, .int .i64 y] 34 (0, 0)) := by rw [hV, hX]; exact heap_alloc_new wr _
   have own1 : V.ownsRow w.heap.size 34 2 (.slice co N d) N (scells ((l.take k).filter fun x => p x.1 x.2)) := by rw [hV]; exact own.alloc _
   have bel1 : Below w.heap.size w V := by rw [hV]; exact bel.alloc hsz _
   have hs1 := bel1.size
   have HV := hide hV
   have HX := hide hX
   clear hV own
   go_wp2_with fail
   rw [hE.out, Oper.upon_enter, ← HV.out, ← HX.out]
   refine (HF.out V x y bel1).mono ?_
   rintro e w1 ⟨rfl, hb1⟩
   have F2 : w1.heap[X]? = some (.cells #[.int .i64 x, .int .i64 y] 34 (0, 0)) := below_block hb1 F1
   have own2 := own_below own1 hb1
   have bel2 : Below w.heap.size w w1 := bel1.trans (hb1.mono hs1)
   have hs2 := bel2.size
   obtain ⟨p0, p1, _, _⟩ := two_cells F2
   clear hb1 own1 bel1 bel HV HX F1 hX c0 c1 hsz hs1
   cases hh : p x y with
   | true =>
    have HE : Hid (((l.take (k + 1)).filter fun x => p x.1 x.2) = ((l.take k).filter fun x => p x.1 x.2) ++ [(x, y)]) := by
     show _ = _
     rw [HU.out, if_pos hh]
    clear HU hh
    go_wp2_with (at_builtin; refine wpList_append_lies _ rfl _ _ 56 rfl w.heap.size 34 i0 (.agg #[.int .i64 0, .int .i64 0]) 2 16 Tryz.underlying56 hi hz0 hz1 hz2 rfl (by decide) _ _ _ rfl (own2.alloc _) ⟨w1.heap.size, 0, none⟩ 1 1 [.int .i64 x, .int .i64 y] rfl rfl (news_two rfl _ _ _) (by simp [Value.oneCell']) (by decide) (by unfold maxLen; omega) (by omega) (by simp; omega) (w1.heap.size + 1) (by simp) ?_)
    intro g' cp' w5 own5 gr5 hat5 hlt5
    have own6 : w5.ownsRow w.heap.size 34 2 (.slice (some ⟨g', 0, none⟩) (N + 1) cp') (N + 1) (scells ((l.take (k + 1)).filter fun x => p x.1 x.2)) := by
     rw [HE.out, scells_append]; exact own5
    have bel5 : Below w.heap.size w w5 := (bel2.alloc hs2 _).grown gr5 (by simp; omega) (fun j hj => (own2.lt j hj).1)
    clear own5 gr5 hat5 hlt5 own2 HE
    go_wp2
    go_roundw
    case rel => exact ⟨k + 1, N + 1, cp', _, by omega, by go_num, rfl, by omega, own6, bel5⟩
    case measure => simp [intOf]; omega
   | false =>
    have HE : Hid (((l.take (k + 1)).filter fun x => p x.1 x.2) = (l.take k).filter fun x => p x.1 x.2) := by
     show _ = _
     rw [HU.out, if_neg (by rw [hh]; decide)]
    clear HU hh
    rw [← HE.out] at own2
    go_wp2
    go_roundw
    case rel => exact ⟨k + 1, N, d, co, by omega, by go_num, rfl, by omega, own2, bel2⟩
    case measure => simp [intOf]; omega
  ·have he : k = n := by omega
   subst he
   have HT := hide (List.take_of_length_le (i := k) (l := l) (by rw [← HN.out]; omega))
   rw [HT.out] at own
   clear HT HN
   go_wp2
   go_ret
   exact ⟨co, N, d, rfl, own, bel⟩
set_option maxHeartbeats 1000000 in
theorem scopy_any (l : List (Int × Int)) (ao : Option Addr) (n c : Nat) (w : World) (hs : Seg w ao (scells l)) (hn : n = l.length) (hL : n * 16 ≤ 140737488355328) (hnil : ao = none → n = 0 ∧ c = 0) :
  Calls Tryz.prog 176 #[.slice ao n c] w fun e w' => ∃ co N d, e = .returned (.slice co N d) ∧ w'.ownsRow w.heap.size 34 2 (.slice co N d) N (scells l) ∧ Below w.heap.size w w' := by
 obtain ⟨i0, hi, hz0, hz1, hz2⟩ := sinfo_parts Tryz.infoSmp
 have HN := hide hn
 have HL := hide hL
 have HZ := hide hnil
 clear hn hL hnil
 go_enter Tryz.func176, Tryz.ntmps176
 go_wp2_with (at_builtin; refine append_seg rfl _ _ 56 rfl w.heap.size 34 i0 (.agg #[.int .i64 0, .int .i64 0]) 2 16 Tryz.underlying56 hi hz0 hz1 hz2 rfl (by decide) _ 0 [] rfl (World.ownsRow_nil _ _ _ _) ao n c (scells l) rfl HZ.out hs ?qc1 (scells_one l) ?qc4 ?qc5 (Nat.le_refl _) ?_)
 case qc1 => rw [scells_length, HN.out]
 case qc4 => have := HL.out; unfold maxLen; omega
 case qc5 => have := HL.out; omega
 intro v' w1 own gr
 obtain ⟨ao', c', rfl, _, _⟩ := own_open own
 have bel1 : Below w.heap.size w w1 := (Below.refl _ _).grown gr (Nat.le_refl _) (fun j hj => by simp [Value.ownBlock] at hj)
 have own2 : w1.ownsRow w.heap.size 34 2 (.slice ao' (0 + n) c') (0 + n) (scells l) := by simpa using own
 clear own gr
 go_wp2
 go_ret
 exact ⟨ao', n, c', rfl, by simpa using own2, bel1⟩
end Go.Proofs.YtoldmigappbjcaaGreatDoor
