import Derived.Test.YtoldmigappbjcaaGreatDoorL01
import Derived.Test.YtoldmigappbjcaaGreatDoorL02
import Derived.Test.YtoldmigappbjcaaGreatDoorL16
import Derived.Test.YtoldmigappbjcaaGreatDoorL23
import Derived.Test.YtoldmigappbjcaaGreatDoorRows
namespace Go.Proofs.YtoldmigappbjcaaGreatDoor
open Go.RowKit Go.GrainU
set_option maxHeartbeats 1000000 in
theorem snew_any (l : List (ByteArray × ByteArray)) (ao : Option Addr) (n c : Nat) (w : World) (hs : Seg w ao (lcells l)) (hn : n = l.length) (hf : Fits l) (hL : n * 32 ≤ 140737488355328) (hnil : ao = none → n = 0 ∧ c = 0) :
  Calls Tryz.prog 128 #[.slice ao n c] w fun e w' => ∃ y : ShT, e = .returned y.v ∧ y.s = { Grain.szero with se := l } ∧ ShO w.heap.size w' y ∧ Below w.heap.size w w' := by
 have HN := hide hn
 have HZ := hide hnil
 have HL := hide hL
 obtain ⟨X, hX⟩ : ∃ X, X = w.heap.size := ⟨_, rfl⟩
 obtain ⟨V, hV⟩ : ∃ V, V = w.alloc (.cells #[.slice none 0 0, .slice none 0 0, .slice none 0 0, .slice none 0 0, .int .i64 0, .int .i64 0, .int .i64 0, .int .i64 0, .int .i64 0] 59) := ⟨_, rfl⟩
 have bel : Below w.heap.size w V := by rw [hV]; exact (Below.refl _ _).alloc (Nat.le_refl _) _
 have R0 : V.heap[X]? = some (so szT) := by rw [hV, hX]; exact heap_alloc_new w _
 have hVs : V.heap.size = X + 1 := by rw [hV, hX]; simp
 have HV := hide hV
 have HX := hide hX
 have hsV := hs.below bel
 clear hV hX hn hnil hL
 go_enter Tryz.func128, Tryz.ntmps128
 go_wp2_with fail
 rw [← HV.out, ← HX.out]
 refine (lcopy_any l ao n c V hsV HN.out HL.out HZ.out).mono ?_
 rintro e w1 ⟨A, M, D, rfl, own, hb1⟩
 have hM : M = n := by have := own.1; rw [lcells_length, ← HN.out] at this; omega
 have HM := hide hM
 have bel1 : Below w.heap.size w w1 := bel.trans (hb1.mono bel.size)
 have R1 := below_block hb1 R0
 clear HV hb1 R0 hM
 obtain ⟨q0, q1, q2, q3, q4, q5, q6, q7, q8⟩ := sz_cells R1
 obtain ⟨f0, f1, f2, f3, f4, f5, f6, f7, f8⟩ := so_free R1
 go_wp2
 refine bodyPost_ret (v := .agg #[.slice A M D, .slice none 0 0, .slice none 0 0, .slice none 0 0, .int .i64 0, .int .i64 0, .int .i64 0, .int .i64 0, .int .i64 0]) (by simp [results, Tryz.results128, go_sem, q0, q1, q2, q3, q4, q5, q6, q7, q8]) rfl ?_
 have hml : M = l.length := HM.out.trans HN.out
 refine ⟨⟨{ Grain.szero with se := l }, A, D, none, 0, none, 0, none, 0⟩, ?_, rfl, ⟨?_, World.ownsRow_nil _ _ _ _, World.ownsRow_nil _ _ _ _, World.ownsRow_nil _ _ _ _, fun g h => ?_, hf, ?_, ?_, ?_, ?_⟩, below_set9 bel1 (by have := HX.out; omega) _ _ _ _ _ _ _ _ _⟩
 ·simp only [ShT.v, ← hml]; rfl
 ·simp only [← hml]; exact own_down (own_set9 own (by omega) _ _ _ _ _ _ _ _ _) (by have := HX.out; omega)
 ·simp [Value.ownBlock] at h
 ·show l.length * 32 ≤ _; rw [← HN.out]; exact HL.out
 ·simp [Grain.szero]
 ·simp [Grain.szero]
 ·simp [Grain.szero]
end Go.Proofs.YtoldmigappbjcaaGreatDoor
namespace Grain
theorem put_append {X Y : List Bk} {A : Int} (h : Y = [] → Off X A) (s : Sm) : put (X ++ Y) A s = X ++ put Y A s := by
 rcases snoc_or Y with rfl | ⟨R, b, rfl⟩
 ·rw [List.append_nil, put_off (h rfl)]; rfl
 ·by_cases e : b.a = A
  ·subst e
   obtain ⟨a, q⟩ := b
   rw [← List.append_assoc, put_same, put_same, List.append_assoc]
  ·rw [← List.append_assoc, put_other _ _ _ _ e, put_other _ _ _ _ e]; simp
theorem up_append {st m : Int} (hst : st = 10 ∨ st = 60) (hm : m % st = 0) {a : List (Int × Int)} (ha : ∀ x ∈ a, x.1 < m) : ∀ b : List (Int × Int), (∀ x ∈ b, m ≤ x.1) → up (a ++ b) st = up a st ++ up b st := by
 refine snoc_ind ?_ ?_
 ·intro _; simp [up]
 ·intro b y ih hb
  have hy : m ≤ y.1 := hb y (by simp)
  rw [← List.append_assoc, up_snoc, up_snoc, ih (fun x hx => hb x (by simp [hx]))]
  refine put_append (fun _ R c e => ?_) _
  obtain ⟨x, hx, ex⟩ := up_mem st a c (by rw [e]; simp)
  have := ha x hx
  have := beg_ge hst hm hy
  rw [ex]
  unfold beg at *
  rcases hst with e | e <;> subst e <;> omega
structure Took (A : List (Int × Int)) : Prop where
 rin : ∀ x ∈ A, inR x.1 x.2 = true
 pw : A.Pairwise (fun x y => x.1 < y.1)
theorem pigeon (hi : Int) : ∀ (l : List (Int × Int)) (lo : Int), lo ≤ hi → (∀ x ∈ l, lo ≤ x.1 ∧ x.1 < hi) → l.Pairwise (fun x y => x.1 < y.1) → (l.length : Int) ≤ hi - lo := by
 intro l
 induction l with
 | nil => intro lo h _ _; simp; omega
 | cons x r ih =>
  intro lo h h1 h2
  rw [List.pairwise_cons] at h2
  have hx := h1 x (by simp)
  have := ih (x.1 + 1) (by omega) (fun y hy => ⟨by have := h2.1 y hy; omega, (h1 y (by simp [hy])).2⟩) h2.2
  simp
  omega
theorem Took.len {A : List (Int × Int)} (h : Took A) : A.length ≤ 1000001 := by
 have := pigeon 1000001 A 0 (by decide) (fun x hx => by have := h.rin x hx; simp [inR] at this; omega) h.pw
 omega
theorem Took.win_len {A : List (Int × Int)} (h : Took A) {f t : Int} (ht : t ≤ 1000000) (h0 : 0 ≤ f) (hf : f ≤ t) : (win A f t).length ≤ 1000000 := by
 have := pigeon t (win A f t) f hf (fun x hx => by simp [win] at hx; omega) (h.pw.filter _)
 omega
theorem win_split {f m t : Int} (h1 : f ≤ m) (h2 : m ≤ t) : ∀ l : List (Int × Int), l.Pairwise (fun x y => x.1 < y.1) → win l f t = win l f m ++ win l m t := by
 intro l
 induction l with
 | nil => intro _; rfl
 | cons x r ih =>
  intro h
  rw [List.pairwise_cons] at h
  have ih := ih h.2
  simp only [win] at ih ⊢
  by_cases c1 : f ≤ x.1 ∧ x.1 < m
  ·rw [List.filter_cons_of_pos (by simp; omega), List.filter_cons_of_pos (p := fun x : Int × Int => decide (f ≤ x.1 ∧ x.1 < m)) (by simp; omega), List.filter_cons_of_neg (p := fun x : Int × Int => decide (m ≤ x.1 ∧ x.1 < t)) (by simp; omega), ih]; rfl
  ·by_cases c2 : m ≤ x.1 ∧ x.1 < t
   ·have hn : List.filter (fun x => decide (f ≤ x.1 ∧ x.1 < m)) r = [] := by
     rw [List.filter_eq_nil_iff]
     intro y hy
     have := h.1 y hy
     simp; omega
    rw [hn] at ih
    rw [List.filter_cons_of_pos (by simp; omega), List.filter_cons_of_neg (p := fun x : Int × Int => decide (f ≤ x.1 ∧ x.1 < m)) (by simp; omega), List.filter_cons_of_pos (p := fun x : Int × Int => decide (m ≤ x.1 ∧ x.1 < t)) (by simp; omega), hn, ih]; rfl
   ·rw [List.filter_cons_of_neg (by simp; omega), List.filter_cons_of_neg (p := fun x : Int × Int => decide (f ≤ x.1 ∧ x.1 < m)) (by simp; omega), List.filter_cons_of_neg (p := fun x : Int × Int => decide (m ≤ x.1 ∧ x.1 < t)) (by simp; omega), ih]
theorem win_in {l : List (Int × Int)} {f t : Int} {x : Int × Int} (h : x ∈ win l f t) : f ≤ x.1 ∧ x.1 < t := by simp [win] at h; exact h.2
theorem up_split {st f m t : Int} (hst : st = 10 ∨ st = 60) (hm : m % st = 0) (h1 : f ≤ m) (h2 : m ≤ t) {A : List (Int × Int)} (h : Took A) : up (win A f t) st = up (win A f m) st ++ up (win A m t) st := by
 rw [win_split h1 h2 A h.pw]
 exact up_append hst hm (fun x hx => (win_in hx).2) _ (fun x hx => (win_in hx).1)
theorem up_in {st f t : Int} (hst : st = 10 ∨ st = 60) (hf : f % st = 0) {A : List (Int × Int)} (h : Took A) : ∀ b ∈ up (win A f t) st, f ≤ b.a ∧ b.a < t := by
 intro b hb
 obtain ⟨x, hx, e⟩ := up_mem st _ b hb
 have := win_in hx
 have h3 := h.rin x (List.mem_filter.1 hx).1
 simp [inR] at h3
 have := beg_ge hst hf this.1
 have := beg_bd hst h3.1
 rw [e]
 omega
theorem filter_none {α : Type} {p : α → Bool} {l : List α} (h : ∀ x ∈ l, p x = false) : l.filter p = [] := by
 rw [List.filter_eq_nil_iff]; intro x hx; rw [h x hx]; decide
theorem filter_all {α : Type} {p : α → Bool} {l : List α} (h : ∀ x ∈ l, p x = true) : l.filter p = l := List.filter_eq_self.2 h
theorem up_from {st f m t : Int} (hst : st = 10 ∨ st = 60) (hf : f % st = 0) (hm : m % st = 0) (h1 : f ≤ m) (h2 : m ≤ t) {A : List (Int × Int)} (h : Took A) :
  (up (win A f t) st).filter (fun b => decide (m ≤ b.a)) = up (win A m t) st := by
 rw [up_split hst hm h1 h2 h, List.filter_append, filter_none (fun b hb => by have := up_in hst hf h b hb; simp; omega), filter_all (fun b hb => by have := up_in hst hm h b hb; simp; omega)]
 rfl
theorem up_winB {f m n t : Int} (hf : f % 10 = 0) (hm : m % 10 = 0) (hn : n % 10 = 0) (h1 : f ≤ m) (h2 : m ≤ n) (h3 : n ≤ t) {A : List (Int × Int)} (h : Took A) :
  winB (up (win A f t) 10) m n = up (win A m n) 10 := by
 rw [up_split (.inl rfl) hm h1 (by omega) h, up_split (f := m) (.inl rfl) hn h2 h3 h]
 simp only [winB, List.filter_append]
 rw [filter_none (fun b hb => by have := up_in (.inl rfl) hf h b hb; simp; omega), filter_all (fun b hb => by have := up_in (.inl rfl) hm h b hb; simp; omega), filter_none (fun b hb => by have := up_in (.inl rfl) hn h b hb; simp; omega)]
 simp
structure Keeps (s : Shf) (A : List (Int × Int)) : Prop where
 sr : SR s
 took : Took A
 ra : s.ra = A.filter fun x => decide (s.rf ≤ x.1)
 fi : s.fi = up (win A s.ff s.ft) 10
 co : s.co = up (win A s.cf s.ct) 60
theorem keeps_new {se : List (ByteArray × ByteArray)} (h : Go.GrainU.wrongS se = 0) : Keeps { szero with se := se } [] := by
 refine ⟨⟨h, ?_, ?_, ?_, ?_, ?_, ?_, ?_, ?_, ?_, ?_, ?_, ?_, ?_, ?_, ?_⟩, ⟨?_, ?_⟩, rfl, rfl, rfl⟩ <;> simp [szero]
theorem win_ra {A : List (Int × Int)} {r f t : Int} (h : r ≤ f) : win (A.filter fun x => decide (r ≤ x.1)) f t = win A f t := by
 simp only [win, List.filter_filter]
 congr 1
 funext x
 simp
 omega
theorem keeps_app {s : Shf} {A : List (Int × Int)} (h : Keeps s A) {t v : Int} (h' : (sapp s t v).2 = 0) : Keeps (sapp s t v).1 (A ++ [(t, v)]) := by
 have hr := (sapp_right h.sr h').1
 unfold sapp at *
 rw [if_neg (by simp [(sr_iff s).2 h.sr])] at *
 by_cases h1 : inR t v = false
 ·rw [if_pos h1] at h'; exact absurd h' (by decide)
 ·rw [if_neg h1] at *
  by_cases h2 : late s t = true
  ·rw [if_pos h2] at h'; exact absurd h' (by decide)
  ·rw [if_neg h2] at *
   by_cases h3 : 500 ≤ s.ra.length
   ·rw [if_pos h3] at h'; exact absurd h' (by decide)
   ·rw [if_neg h3] at *
    have hft : s.ft ≤ t := by simp [late] at h2; exact h2.1
    have hbd := h.sr.bd
    have hp := hr.rpw
    simp only at hp
    rw [List.pairwise_append] at hp
    refine ⟨hr, ⟨?_, ?_⟩, ?_, ?_, ?_⟩
    ·intro x hx
     simp at hx
     rcases hx with hx | rfl
     ·exact h.took.rin x hx
     ·simpa using h1
    ·rw [List.pairwise_append]
     refine ⟨h.took.pw, by simp, fun x hx y hy => ?_⟩
     simp at hy
     subst hy
     by_cases e : s.rf ≤ x.1
     ·exact hp.2.2 x (by rw [h.ra]; simp [hx, e]) (t, v) (by simp)
     ·simp only; omega
    ·show s.ra ++ [(t, v)] = (A ++ [(t, v)]).filter fun x => decide (s.rf ≤ x.1)
     rw [List.filter_append, ← h.ra, filter_all (l := [(t, v)]) (fun x hx => by simp at hx; subst hx; simp; omega)]
    ·show s.fi = up (win (A ++ [(t, v)]) s.ff s.ft) 10
     rw [win_snoc, if_neg (by simp only; omega)]; exact h.fi
    ·show s.co = up (win (A ++ [(t, v)]) s.cf s.ct) 60
     rw [win_snoc, if_neg (by simp only; omega)]; exact h.co
theorem keeps_roll {s : Shf} {A : List (Int × Int)} (h : Keeps s A) {tq : Int} (h' : (sroll s tq).2 = 0) : Keeps (sroll s tq).1 A := by
 have hr := sroll_right h.sr h'
 have h0 : wrongAt s tq = 0 := by
  by_cases e : wrongAt s tq = 0
  ·exact e
  ·unfold sroll at h'; rw [if_pos e] at h'; exact absurd h' e
 unfold sroll at *
 rw [if_neg (by simp [h0])] at *
 by_cases h1 : 500 < (nfi s tq).length
 ·rw [if_pos h1] at h'; exact absurd h' (by decide)
 ·rw [if_neg h1] at *
  by_cases h2 : 500 < (nco s tq).length
  ·rw [if_pos h2] at h'; exact absurd h' (by decide)
  ·rw [if_neg h2] at *
   obtain ⟨hr, hw⟩ := hr
   have f1 := h.sr.fsp
   have f2 := h.sr.csp
   have f3 := h.sr.bd
   have g1 := hr.fsp
   have g2 := hr.csp
   have g3 := hr.bd
   simp only [Fwd] at g1 g2 g3 hw
   have e1 : nfi s tq = up (win A s.ff (nft s tq)) 10 := by
    unfold nfi
    rw [h.ra, win_ra f3.2.1, h.fi, up_split (.inl rfl) f1.2.1 f1.2.2.2.1 hw.2.2.1 h.took]
   refine ⟨hr, h.took, h.ra, e1, ?_⟩
   show nco s tq = up (win A s.cf (nct s tq)) 60
   unfold nco
   rw [e1, up_winB f1.1 (by omega) (by omega) f3.2.2.1 hw.2.2.2.2 g3.2.2.2 h.took, great_up _ (h.took.win_len g2.2.2.2.2 (by omega) hw.2.2.2.2), h.co, ← up_split (.inr rfl) f2.2.1 f2.2.2.2.1 hw.2.2.2.2 h.took]
theorem keeps_forg {s : Shf} {A : List (Int × Int)} (h : Keeps s A) {tier tq : Int} (h' : (sforg s tier tq).2 = 0) : Keeps (sforg s tier tq).1 A := by
 have hr := sforg_right h.sr h'
 have h0 : wrongAt s tq = 0 := by
  by_cases e : wrongAt s tq = 0
  ·exact e
  ·unfold sforg at h'; rw [if_pos e] at h'; exact absurd h' e
 unfold sforg at *
 rw [if_neg (by simp [h0])] at *
 obtain ⟨hr, hw⟩ := hr
 have f1 := h.sr.fsp
 have f2 := h.sr.csp
 have f3 := h.sr.bd
 by_cases k0 : tier = 0
 ·rw [if_pos k0] at *
  refine ⟨hr, h.took, ?_, h.fi, h.co⟩
  simp only [Fwd] at hw
  show (s.ra.filter fun x => decide (nrf s tq ≤ x.1)) = A.filter fun x => decide (nrf s tq ≤ x.1)
  rw [h.ra, List.filter_filter]
  congr 1
  funext x
  simp
  omega
 ·rw [if_neg k0] at *
  by_cases k1 : tier = 1
  ·rw [if_pos k1] at *
   have g1 := hr.fsp
   simp only [Fwd] at hw g1
   refine ⟨hr, h.took, h.ra, ?_, h.co⟩
   show (s.fi.filter fun x => decide (nff s tq ≤ x.a)) = up (win A (nff s tq) s.ft) 10
   rw [h.fi]
   exact up_from (.inl rfl) f1.1 g1.1 hw.2.1 g1.2.2.2.1 h.took
  ·rw [if_neg k1] at *
   by_cases k2 : tier = 2
   ·rw [if_pos k2] at *
    have g1 := hr.csp
    simp only [Fwd] at hw g1
    refine ⟨hr, h.took, h.ra, h.fi, ?_⟩
    show (s.co.filter fun x => decide (ncf s tq ≤ x.a)) = up (win A (ncf s tq) s.ct) 60
    rw [h.co]
    exact up_from (.inr rfl) f2.1 g1.1 hw.2.2.2.1 g1.2.2.2.1 h.took
   ·rw [if_neg k2] at h'; exact absurd h' (by decide)
structure Pt where
 k : Int
 f : Int
 t : Int
def pt (l : List Pt) (i : Nat) : Pt := l.getD i ⟨0, 0, 0⟩
def may (s : Shf) (p : Pt) : Bool :=
 if p.t ≤ p.f then false
 else if p.k = 0 then decide (s.rf ≤ p.f ∧ p.t ≤ 1000001)
 else if p.k = 1 then decide (p.f % 10 = 0 ∧ p.t % 10 = 0 ∧ s.ff ≤ p.f ∧ p.t ≤ s.ft)
 else if p.k = 2 then decide (p.f % 60 = 0 ∧ p.t % 60 = 0 ∧ s.cf ≤ p.f ∧ p.t ≤ s.ct)
 else false
def okp (s : Shf) (l : List Pt) (i : Nat) : Bool := may s (pt l i) && (decide (i = 0) || decide ((pt l (i - 1)).t = (pt l i).f))
def fol (s : Shf) (l : List Pt) : Bool := (List.range l.length).all (okp s l)
theorem fol_iff (s : Shf) (l : List Pt) : fol s l = true ↔ ∀ i, i < l.length → okp s l i = true := by simp [fol]
def cvr (s : Shf) : List Pt → Int → Int → Bool
 | [], f, t => decide (f = t)
 | p :: r, f, t => may s p && (decide (p.f = f) && cvr s r p.t t)
theorem pt_zero (p : Pt) (l : List Pt) : pt (p :: l) 0 = p := rfl
theorem pt_succ (p : Pt) (l : List Pt) (i : Nat) : pt (p :: l) (i + 1) = pt l i := by simp [pt]
theorem okp_succ (s : Shf) (p q : Pt) (l : List Pt) (i : Nat) : okp s (p :: q :: l) (i + 1) = if i = 0 then may s q && decide (p.t = q.f) else okp s (q :: l) i := by
 cases i with
 | zero => simp [okp, pt_succ, pt_zero]
 | succ j => simp [okp, pt_succ]
theorem fol_one (s : Shf) (p : Pt) : fol s [p] = may s p := by simp [fol, List.range_succ, okp, pt]
theorem fol_cons (s : Shf) (p q : Pt) (l : List Pt) : fol s (p :: q :: l) = (may s p && (decide (p.t = q.f) && fol s (q :: l))) := by
 rw [Bool.eq_iff_iff]
 simp only [Bool.and_eq_true, fol_iff, decide_eq_true_eq]
 constructor
 ·intro h
  have h0 := h 0 (by simp)
  have h1 := h 1 (by simp)
  rw [okp_succ, if_pos rfl] at h1
  simp at h1
  refine ⟨by simpa [okp, pt_zero] using h0, h1.2, fun i hi => ?_⟩
  cases i with
  | zero => simpa [okp, pt_zero] using h1.1
  | succ j =>
   have := h (j + 2) (by simp at hi ⊢; omega)
   rwa [okp_succ, if_neg (by omega)] at this
 ·rintro ⟨h0, h1, h2⟩ i hi
  cases i with
  | zero => simpa [okp, pt_zero] using h0
  | succ j =>
   rw [okp_succ]
   by_cases e : j = 0
   ·subst e
    have := h2 0 (by simp)
    simp [okp, pt_zero] at this
    simp [this, h1]
   ·rw [if_neg e]; exact h2 j (by simp at hi ⊢; omega)
theorem cvr_iff (s : Shf) : ∀ (l : List Pt) (f t : Int), cvr s l f t = if l.length = 0 then decide (f = t) else decide ((pt l 0).f = f) && (decide ((pt l (l.length - 1)).t = t) && fol s l) := by
 intro l
 induction l with
 | nil => intro f t; simp [cvr]
 | cons p r ih =>
  intro f t
  rw [cvr, ih]
  cases r with
  | nil =>
   rw [if_pos (by rfl), if_neg (by simp), fol_one]
   show (may s p && (decide (p.f = f) && decide (p.t = t))) = (decide (p.f = f) && (decide (p.t = t) && may s p))
   cases may s p <;> cases decide (p.f = f) <;> cases decide (p.t = t) <;> rfl
  | cons q r =>
   rw [if_neg (by simp), if_neg (by simp), fol_cons, pt_zero, pt_zero]
   rw [show (p :: q :: r).length - 1 = (q :: r).length - 1 + 1 by simp, pt_succ]
   have e : decide (q.f = p.t) = decide (p.t = q.f) := by
    rw [Bool.eq_iff_iff]; simp only [decide_eq_true_eq]; exact ⟨Eq.symm, Eq.symm⟩
   rw [e]
   cases may s p <;> cases decide (p.f = f) <;> cases decide (p.t = q.f) <;> cases fol s (q :: r) <;> simp
theorem cvr_append (s : Shf) : ∀ (a b : List Pt) (f m t : Int), cvr s a f m = true → cvr s b m t = true → cvr s (a ++ b) f t = true := by
 intro a
 induction a with
 | nil => intro b f m t h1 h2; simp [cvr] at h1; subst h1; exact h2
 | cons p r ih =>
  intro b f m t h1 h2
  simp [cvr] at h1
  simp [cvr, h1.1, h1.2.1, ih b _ _ _ h1.2.2 h2]
theorem cvr_snoc (s : Shf) (p : Pt) : ∀ (a : List Pt) (f t : Int), cvr s (a ++ [p]) f t = true → cvr s a f p.f = true ∧ may s p = true ∧ p.t = t := by
 intro a
 induction a with
 | nil => intro f t h; simp [cvr] at h; simp [cvr, h.1, h.2.1, h.2.2]
 | cons q r ih =>
  intro f t h
  simp [cvr] at h
  obtain ⟨h1, h2, h3⟩ := ih _ _ h.2.2
  simp [cvr, h.1, h.2.1, h1, h2, h3]
theorem cvr_le (s : Shf) : ∀ (l : List Pt) (f t : Int), cvr s l f t = true → f ≤ t := by
 intro l
 induction l with
 | nil => intro f t h; simp [cvr] at h; omega
 | cons p r ih =>
  intro f t h
  simp [cvr] at h
  have := ih _ _ h.2.2
  have h1 := h.1
  unfold may at h1
  by_cases e : p.t ≤ p.f
  ·rw [if_pos e] at h1; cases h1
  ·omega
theorem cvr_fol {s : Shf} {l : List Pt} {f t : Int} (h : cvr s l f t = true) : fol s l = true := by
 rw [cvr_iff] at h
 by_cases e : l.length = 0
 ·rw [List.length_eq_zero_iff] at e; subst e; rfl
 ·rw [if_neg e] at h; simp at h; exact h.2.2
def nxt (s : Shf) (a tq : Int) : Pt :=
 if a + 60 ≤ tq ∧ may s ⟨2, a, a + 60⟩ = true then ⟨2, a, a + 60⟩
 else if a + 10 ≤ tq ∧ may s ⟨1, a, a + 10⟩ = true then ⟨1, a, a + 10⟩
 else if s.ft ≤ a then ⟨0, a, tq⟩
 else ⟨0, a, min tq (a - a % 10 + 10)⟩
def putP (l : List Pt) (p : Pt) : List Pt :=
 match l.getLast? with
 | some q => if q.k = p.k then l.dropLast ++ [⟨q.k, q.f, p.t⟩] else l ++ [p]
 | none => [p]
theorem putP_nil (p : Pt) : putP [] p = [p] := rfl
theorem putP_same (r : List Pt) (q p : Pt) (h : q.k = p.k) : putP (r ++ [q]) p = r ++ [⟨q.k, q.f, p.t⟩] := by simp [putP, h]
theorem putP_other (r : List Pt) (q p : Pt) (h : q.k ≠ p.k) : putP (r ++ [q]) p = r ++ [q] ++ [p] := by simp [putP, h]
def chs (s : Shf) (tq : Int) : Nat → Int → List Pt → List Pt × Int
 | 0, _, out => (out, 0)
 | n + 1, a, out => if a < tq then (if may s (nxt s a tq) = true then chs s tq n (nxt s a tq).t (putP out (nxt s a tq)) else ([], 10)) else (out, 0)
def choose (s : Shf) (f t : Int) : List Pt × Int :=
 if swrong s ≠ 0 then ([], swrong s) else if f < 0 ∨ t < f ∨ 1000000 < t then ([], 3) else chs s t (t - f).toNat f []
theorem chs_end {s : Shf} {tq : Int} {a : Int} (h : ¬ a < tq) (n : Nat) (out : List Pt) : chs s tq n a out = (out, 0) := by
 cases n with
 | zero => rfl
 | succ n => simp [chs, h]
theorem nxt_f (s : Shf) (a tq : Int) : (nxt s a tq).f = a := by
 unfold nxt
 split
 ·rfl
 ·split
  ·rfl
  ·split <;> rfl
theorem nxt_t (s : Shf) (a tq : Int) : (nxt s a tq).t ≤ tq := by
 unfold nxt
 split
 ·next h => exact h.1
 ·split
  ·next h => exact h.1
  ·split
   ·exact Int.le_refl _
   ·exact Int.min_le_left _ _
theorem may_lt {s : Shf} {p : Pt} (h : may s p = true) : p.f < p.t := by
 unfold may at h
 by_cases e : p.t ≤ p.f
 ·rw [if_pos e] at h; cases h
 ·omega
theorem may_both {s : Shf} {p q : Pt} (h : may s q = true) (h' : may s p = true) (e : q.t = p.f) (k : q.k = p.k) : may s ⟨q.k, q.f, p.t⟩ = true := by
 have l1 := may_lt h
 have l2 := may_lt h'
 unfold may at *
 rw [if_neg (by omega)] at h h'
 rw [if_neg (by simp only; omega)]
 simp only
 rw [k] at h ⊢
 split at h <;> simp_all
 all_goals first | omega | skip
 split at h <;> simp_all
 all_goals first | omega | skip
def Alt (l : List Pt) : Prop := ∀ i, 0 < i → i < l.length → (pt l i).k ≠ (pt l (i - 1)).k
theorem pt_left {X Y : List Pt} {i : Nat} (h : i < X.length) : pt (X ++ Y) i = pt X i := by simp [pt, List.getD, List.getElem?_append_left h]
theorem pt_last (X : List Pt) (p : Pt) : pt (X ++ [p]) X.length = p := by simp [pt]
theorem Alt.put {l : List Pt} (h : Alt l) (p : Pt) : Alt (putP l p) := by
 rcases snoc_or l with rfl | ⟨r, q, rfl⟩
 ·rw [putP_nil]; intro i h0 h1; simp at h1; omega
 ·by_cases e : q.k = p.k
  ·rw [putP_same _ _ _ e]
   intro i h0 h1
   have := h i h0 (by simp at h1 ⊢; omega)
   by_cases e1 : i = r.length
   ·subst e1
    rw [pt_last] at this ⊢
    rw [pt_left (by omega)] at this ⊢
    exact this
   ·simp at h1
    rw [pt_left (by omega), pt_left (by omega)] at this ⊢
    exact this
  ·rw [putP_other _ _ _ e]
   intro i h0 h1
   by_cases e1 : i = (r ++ [q]).length
   ·subst e1
    rw [pt_last, pt_left (by simp)]
    rw [show (r ++ [q]).length - 1 = r.length by simp, pt_last]
    exact fun c => e c.symm
   ·have hl : i < (r ++ [q]).length := by
     have h1' : i < ((r ++ [q]) ++ [p]).length := h1
     rw [List.length_append] at h1'
     simp only [List.length_singleton] at h1'
     omega
    rw [pt_left hl, pt_left (X := r ++ [q]) (Y := [p]) (i := i - 1) (by omega)]
    exact h i h0 hl
theorem cvr_put {s : Shf} {l : List Pt} {f : Int} {p : Pt} (h : cvr s l f p.f = true) (hp : may s p = true) : cvr s (putP l p) f p.t = true := by
 rcases snoc_or l with rfl | ⟨r, q, rfl⟩
 ·rw [putP_nil]; simp [cvr] at h; simp [cvr, hp, h]
 ·obtain ⟨h1, h2, h3⟩ := cvr_snoc s q r f p.f h
  by_cases e : q.k = p.k
  ·rw [putP_same _ _ _ e]
   refine cvr_append s r _ f q.f p.t h1 ?_
   simp [cvr, may_both h2 hp h3 e]
  ·rw [putP_other _ _ _ e]
   exact cvr_append s _ [p] f p.f p.t h (by simp [cvr, hp])
theorem chs_all {s : Shf} {f tq : Int} : ∀ (n : Nat) (a : Int) (out : List Pt), cvr s out f a = true → Alt out → a ≤ tq → (tq - a).toNat ≤ n →
  ((chs s tq n a out).2 = 0 → cvr s (chs s tq n a out).1 f tq = true ∧ Alt (chs s tq n a out).1) ∧ ((chs s tq n a out).2 ≠ 0 → (chs s tq n a out).1 = [] ∧ (chs s tq n a out).2 = 10) := by
 intro n
 induction n with
 | zero =>
  intro a out h1 h2 h3 h4
  obtain rfl : a = tq := by omega
  rw [chs]
  exact ⟨fun _ => ⟨h1, h2⟩, fun c => absurd rfl c⟩
 | succ n ih =>
  intro a out h1 h2 h3 h4
  by_cases e : a < tq
  ·rw [chs, if_pos e]
   by_cases m : may s (nxt s a tq) = true
   ·rw [if_pos m]
    have e1 := nxt_f s a tq
    have e2 := nxt_t s a tq
    have e3 := may_lt m
    refine ih _ _ (cvr_put (by rw [e1]; exact h1) m) (h2.put _) e2 (by omega)
   ·rw [if_neg m]
    exact ⟨fun c => absurd c (by decide), fun _ => ⟨rfl, rfl⟩⟩
  ·rw [chs_end e]
   obtain rfl : a = tq := by omega
   exact ⟨fun _ => ⟨h1, h2⟩, fun c => absurd rfl c⟩
theorem choose_ok {s : Shf} {f t : Int} (h : (choose s f t).2 = 0) : cvr s (choose s f t).1 f t = true ∧ Alt (choose s f t).1 ∧ swrong s = 0 := by
 unfold choose at *
 by_cases h0 : swrong s = 0
 ·rw [if_neg (by simp [h0])] at *
  by_cases h1 : f < 0 ∨ t < f ∨ 1000000 < t
  ·rw [if_pos h1] at h; exact absurd h (by decide)
  ·rw [if_neg h1] at *
   have := (chs_all (s := s) (f := f) (tq := t) (t - f).toNat f [] (by simp [cvr]) (fun i a b => by simp at b) (by omega) (Nat.le_refl _)).1 h
   exact ⟨this.1, this.2, h0⟩
 ·rw [if_pos h0] at h; exact absurd h h0
def psum (s : Shf) (p : Pt) : Sm := if p.k = 1 then inB s.fi p.f p.t else if p.k = 2 then inB s.co p.f p.t else of (win s.ra p.f p.t)
def pcost (s : Shf) (p : Pt) : Nat := if p.k = 1 then (winB s.fi p.f p.t).length else if p.k = 2 then (winB s.co p.f p.t).length else (win s.ra p.f p.t).length
def rdS (s : Shf) (l : List Pt) : Sm := l.foldl (fun a p => join a (psum s p)) zero
def rdN (s : Shf) (l : List Pt) : Nat := l.foldl (fun a p => a + pcost s p) 0
theorem rdS_snoc (s : Shf) (l : List Pt) (p : Pt) : rdS s (l ++ [p]) = join (rdS s l) (psum s p) := by simp [rdS]
theorem rdN_snoc (s : Shf) (l : List Pt) (p : Pt) : rdN s (l ++ [p]) = rdN s l + pcost s p := by simp [rdN]
theorem take_pt {l : List Pt} {k : Nat} (h : k < l.length) : l.take (k + 1) = l.take k ++ [pt l k] := by
 rw [List.take_add_one, List.getElem?_eq_getElem h]
 simp [pt, List.getD, List.getElem?_eq_getElem h]
def read (s : Shf) (l : List Pt) : Sm × Int × Int :=
 if swrong s ≠ 0 then (zero, 0, swrong s) else if fol s l = false then (zero, 0, 8) else (rdS s l, (rdN s l : Int), 0)
end Grain
namespace Go.GrainU
open Go.RowKit
def ptc (p : Grain.Pt) : List Value := [.int .i64 p.k, .int .i64 p.f, .int .i64 p.t]
def pcells : List Grain.Pt → List Value
 | [] => []
 | b :: r => ptc b ++ pcells r
theorem pcells_length (l : List Grain.Pt) : (pcells l).length = l.length * 3 := by
 induction l with
 | nil => rfl
 | cons b r ih => simp only [pcells, List.length_append, List.length_cons, ih, ptc, List.length_nil]; omega
theorem pcells_append (a b : List Grain.Pt) : pcells (a ++ b) = pcells a ++ pcells b := by
 induction a with
 | nil => rfl
 | cons x r ih => simp only [List.cons_append, pcells, ih, List.append_assoc]
theorem pcells_snoc (a : List Grain.Pt) (b : Grain.Pt) : pcells (a ++ [b]) = pcells a ++ ptc b := by rw [pcells_append]; simp [pcells]
theorem pcells_at (l : List Grain.Pt) : ∀ k i, k < l.length → i < 3 → (pcells l)[k * 3 + i]? = (ptc (Grain.pt l k))[i]? := by
 induction l with
 | nil => intro k i hk; simp at hk
 | cons b r ih =>
  intro k i hk hi
  have hl : (ptc b).length = 3 := rfl
  match k with
  | 0 =>
   rw [pcells, List.getElem?_append_left (by omega)]
   simp [Grain.pt]
  | k + 1 =>
   rw [pcells, List.getElem?_append_right (by omega), hl, show (k + 1) * 3 + i - 3 = k * 3 + i from by omega, ih k i (by simpa using hk) hi]
   simp [Grain.pt]
def Cells3 (w : World) (b off : Nat) (p : Grain.Pt) : Prop :=
 w.cell? ⟨b, off, none⟩ = some (.int .i64 p.k) ∧ w.cell? ⟨b, off + 1, none⟩ = some (.int .i64 p.f) ∧ w.cell? ⟨b, off + 2, none⟩ = some (.int .i64 p.t)
theorem seg_part {w : World} {ao : Option Addr} {l : List Grain.Pt} (h : Seg w ao (pcells l)) {k : Nat} (hk : k < l.length) :
  ∃ b off, ao = some ⟨b, off, none⟩ ∧ b < w.heap.size ∧ ∀ j, j < l.length → Cells3 w b (off + j * 3) (Grain.pt l j) := by
 have hs := pcells_length l
 rcases h with h | ⟨b, off, rfl, h⟩
 ·rw [h] at hs; simp at hs; omega
 ·have hc : ∀ j i, j < l.length → i < 3 → w.cell? ⟨b, off + j * 3 + i, none⟩ = (ptc (Grain.pt l j))[i]? := fun j i hj hi => by
   rw [Nat.add_assoc, h (j * 3 + i) (by omega)]
   exact pcells_at l j i hj hi
  refine ⟨b, off, rfl, World.block_lt_of_cell? w ⟨b, off + k * 3 + 0, none⟩ (hc k 0 hk (by omega)), fun j hj => ?_⟩
  exact ⟨hc j 0 hj (by omega), hc j 1 hj (by omega), hc j 2 hj (by omega)⟩
theorem Cells3.below {w w' : World} {B b off : Nat} {p : Grain.Pt} (h : Cells3 w b off p) (hb : Below B w w') (hl : b < B) : Cells3 w' b off p := by
 obtain ⟨h0, h1, h2⟩ := h
 exact ⟨(hb.cell (p := ⟨b, off, none⟩) hl).trans h0, (hb.cell (p := ⟨b, off + 1, none⟩) hl).trans h1, (hb.cell (p := ⟨b, off + 2, none⟩) hl).trans h2⟩
end Go.GrainU
namespace Go.Proofs.YtoldmigappbjcaaGreatDoor
theorem Tryz.infoPart : (Tryz.prog.info? 235).map (fun i => (i.zero, i.size, i.bytes)) = some (some (.agg #[.int .i64 0, .int .i64 0, .int .i64 0]), 3, 24) := by kernel_rfl
end Go.Proofs.YtoldmigappbjcaaGreatDoor
