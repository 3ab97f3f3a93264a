import Derived.Test.YtoldmigappbjcaaGreatDoorL08
import Derived.Test.YtoldmigappbjcaaGreatDoorL20
import Derived.Test.YtoldmigappbjcaaGreatDoorL42
namespace Go.GrainU
open Go.RowKit
structure Dn where
 kind : Int
 tier : Int
 till : Int
 se : Lb
 t : Int
 v : Int
 tx : ByteArray
structure An where
 err : Int
 pos : Int
 cs : List Cl
 cost : Int
structure Kp where
 s : Grain.Shf
 A : List (Int × Int)
structure Bs where
 l : List Kp
 hz : Int
def kp (l : List Kp) (k : Nat) : Kp := l.getD k ⟨Grain.szero, []⟩
def bpos (l : List Kp) (s : Lb) : Nat := (l.takeWhile fun k => decide (cmpS k.s.se s < 0)).length
def bhas (l : List Kp) (s : Lb) : Bool := decide (bpos l s < l.length) && decide (cmpS (kp l (bpos l s)).s.se s = 0)
def newS (s : Lb) : Grain.Shf := { Grain.szero with se := s }
def putB (b : Bs) (i : Nat) (t v : Int) : Bs × Int :=
 if (Grain.sapp (kp b.l i).s t v).2 = 0 then (⟨b.l.set i ⟨(Grain.sapp (kp b.l i).s t v).1, (kp b.l i).A ++ [(t, v)]⟩, b.hz⟩, 0)
 else (b, (Grain.sapp (kp b.l i).s t v).2)
def putN (b : Bs) (i : Nat) (s : Lb) (t v : Int) : Bs × Int :=
 if 8 ≤ b.l.length then (b, 5)
 else if (Grain.sroll (newS s) b.hz).2 ≠ 0 then (b, (Grain.sroll (newS s) b.hz).2)
 else if (Grain.sapp (Grain.sroll (newS s) b.hz).1 t v).2 ≠ 0 then (b, (Grain.sapp (Grain.sroll (newS s) b.hz).1 t v).2)
 else (⟨b.l.take i ++ [⟨(Grain.sapp (Grain.sroll (newS s) b.hz).1 t v).1, [(t, v)]⟩] ++ b.l.drop i, b.hz⟩, 0)
def takeB (b : Bs) (s : Lb) (t v : Int) : Bs × Int :=
 if wrongS s ≠ 0 then (b, wrongS s)
 else if Grain.inR t v = false then (b, 3)
 else if t < b.hz then (b, 9)
 else if bhas b.l s = true then putB b (bpos b.l s) t v
 else putN b (bpos b.l s) s t v
def eachB (f : Grain.Shf → Grain.Shf × Int) : List Kp → Except Int (List Kp)
  | [] => .ok []
  | k :: r =>
    if (f k.s).2 = 0 then
      (match eachB f r with
       | .error x => .error x
       | .ok r' => .ok (⟨(f k.s).1, k.A⟩ :: r'))
    else .error (f k.s).2
theorem eachB_snoc (f : Grain.Shf → Grain.Shf × Int) (x : Kp) : ∀ l : List Kp, eachB f (l ++ [x]) = match eachB f l with | .error e => .error e | .ok l' => if (f x.s).2 = 0 then .ok (l' ++ [⟨(f x.s).1, x.A⟩]) else .error (f x.s).2
 | [] => by
  by_cases h : (f x.s).2 = 0
  ·simp [eachB, h]
  ·simp [eachB, h]
 | k :: r => by
  by_cases h : (f k.s).2 = 0
  ·simp only [List.cons_append, eachB, h, if_true, eachB_snoc f x r]
   cases eachB f r with
   | error e => rfl
   | ok l' =>
    by_cases h' : (f x.s).2 = 0
    ·simp [h']
    ·simp [h']
  ·simp [eachB, h]
theorem eachB_err {f : Grain.Shf → Grain.Shf × Int} {a : List Kp} {e : Int} (h : eachB f a = .error e) : ∀ r, eachB f (a ++ r) = .error e := by
 induction a with
 | nil => simp [eachB] at h
 | cons k a ih =>
  intro r
  by_cases hk : (f k.s).2 = 0
  ·simp only [eachB, hk, if_true, List.cons_append] at h ⊢
   cases ha : eachB f a with
   | error x => rw [ha] at h; injection h with h; subst h; rw [ih ha r]
   | ok l => rw [ha] at h; simp at h
  ·simpa [eachB, hk] using h
def rollB (b : Bs) (tq' : Int) : Bs × Int :=
 if tq' < 0 ∨ 1000000 < tq' then (b, 3)
 else match eachB (fun s => Grain.sroll s tq') b.l with
  | .error x => (b, x)
  | .ok l => (⟨l, max b.hz (Grain.beg tq' 10)⟩, 0)
def forgB (b : Bs) (tier tq' : Int) : Bs × Int :=
  if tq' < 0 ∨ 1000000 < tq' then (b, 3)
  else if tier = 0 ∨ tier = 1 ∨ tier = 2 then
    (match eachB (fun s => Grain.sforg s tier tq') b.l with
     | .error x => (b, x)
     | .ok l => (⟨l, b.hz⟩, 0))
  else (b, 1)
def lookS (s : Grain.Shf) (f t : Int) : Except Int Grain.Sm :=
 if (Grain.choose s f t).2 = 0 then (if (Grain.read s (Grain.choose s f t).1).2.2 = 0 then .ok (Grain.read s (Grain.choose s f t).1).1 else .error (Grain.read s (Grain.choose s f t).1).2.2)
 else .error (Grain.choose s f t).2
def lookK (s : Grain.Shf) (f t : Int) : Nat := (Grain.read s (Grain.choose s f t).1).2.1.toNat
def sersB (l : List Kp) : List ST := l.map fun k => ⟨k.s.se, none, 0⟩
def askE (b : Bs) (time : Int) (e : Ex) : Except Int Mn := overE (fun i f t => lookS (kp b.l i).s f t) (sersB b.l) b.l.length time e
def askK (b : Bs) (time : Int) (e : Ex) : Nat := overK (fun i f t => lookK (kp b.l i).s f t) (sersB b.l) b.l.length time e
def anE (b : Bs) (time : Int) (e : Ex) : An := match askE b time e with
 | .error x => ⟨x, 0, [], 0⟩
 | .ok m => ⟨0, 0, m.cs, wrap64 (askK b time e)⟩
def askB (b : Bs) (tx : ByteArray) (time : Int) : An := match prs tx.data.toList with
 | .error f => ⟨f.1, ((tx.size - f.2 : Nat) : Int), [], 0⟩
 | .ok e => anE b time e
def doB (b : Bs) (d : Dn) : Bs × An :=
 if d.kind = 1 then ((takeB b d.se d.t d.v).1, ⟨(takeB b d.se d.t d.v).2, 0, [], 0⟩)
 else if d.kind = 2 then ((rollB b d.till).1, ⟨(rollB b d.till).2, 0, [], 0⟩)
 else if d.kind = 3 then ((forgB b d.tier d.till).1, ⟨(forgB b d.tier d.till).2, 0, [], 0⟩)
 else if d.kind = 4 then (b, askB b d.tx d.till)
 else (b, ⟨1, 0, [], 0⟩)
def playB (b : Bs) : List Dn → Bs × List An
 | [] => (b, [])
 | d :: r => ((playB (doB b d).1 r).1, (doB b d).2 :: (playB (doB b d).1 r).2)
def b0 : Bs := ⟨[], 0⟩
theorem playB_snoc (d : Dn) : ∀ (l : List Dn) (b : Bs), playB b (l ++ [d]) = ((doB (playB b l).1 d).1, (playB b l).2 ++ [(doB (playB b l).1 d).2])
 | [], b => by simp [playB]
 | x :: r, b => by simp only [List.cons_append, playB, playB_snoc d r]
structure BInv (b : Bs) : Prop where
 srt : b.l.Pairwise (fun x y => cmpS x.s.se y.s.se < 0)
 len : b.l.length ≤ 8
 kee : ∀ k ∈ b.l, Grain.Keeps k.s k.A
 ft : ∀ k ∈ b.l, k.s.ft = b.hz
 hz : b.hz % 10 = 0 ∧ 0 ≤ b.hz ∧ b.hz ≤ 1000000
theorem b0_inv : BInv b0 := ⟨List.Pairwise.nil, by simp [b0], fun k hk => by simp [b0] at hk, fun k hk => by simp [b0] at hk, by simp [b0]⟩
theorem cmpS_lt {a b c : Lb} (h : cmpS a b < 0) (h' : cmpS b c < 0) : cmpS a c < 0 := by
 rw [cmpS_L] at *
 have h1 : cmpL a b = -1 := by rcases cmpL_cases a b with h | ⟨h, _⟩ | h <;> omega
 have h2 : cmpL b c = -1 := by rcases cmpL_cases b c with h | ⟨h, _⟩ | h <;> omega
 rw [cmpL_trans a b c h1 h2]; decide
theorem kp_get {l : List Kp} {k : Nat} (h : k < l.length) : kp l k = l[k] := by simp [kp, List.getD, List.getElem?_eq_getElem h]
theorem kp_mem {l : List Kp} {k : Nat} (h : k < l.length) : kp l k ∈ l := by rw [kp_get h]; exact List.getElem_mem h
theorem bpos_le (l : List Kp) (s : Lb) : bpos l s ≤ l.length := by unfold bpos; exact (List.takeWhile_sublist _).length_le
theorem bpos_iff {l : List Kp} (h : l.Pairwise (fun x y => cmpS x.s.se y.s.se < 0)) (s : Lb) : ∀ k, k < l.length → (cmpS (kp l k).s.se s < 0 ↔ k < bpos l s) := by
 induction l with
 | nil => intro k hk; simp at hk
 | cons a r ih =>
  rw [List.pairwise_cons] at h
  intro k hk
  by_cases ha : cmpS a.s.se s < 0
  ·have e : bpos (a :: r) s = bpos r s + 1 := by simp [bpos, ha]
   rw [e]
   cases k with
   | zero => simp [kp, ha]
   | succ j =>
    have := ih h.2 j (by simpa using hk)
    have e2 : kp (a :: r) (j + 1) = kp r j := by simp [kp]
    rw [e2, this]; omega
  ·have e : bpos (a :: r) s = 0 := by simp [bpos, ha]
   rw [e]
   refine ⟨fun hc => ?_, fun hc => by omega⟩
   cases k with
   | zero => simp [kp] at hc; exact absurd hc ha
   | succ j =>
    have hj : j < r.length := by simpa using hk
    have e2 : kp (a :: r) (j + 1) = kp r j := by simp [kp]
    rw [e2] at hc
    exact absurd (cmpS_lt (h.1 _ (kp_mem hj)) hc) ha
theorem sapp_same {s : Grain.Shf} {t v : Int} (h : (Grain.sapp s t v).2 = 0) : (Grain.sapp s t v).1.se = s.se ∧ (Grain.sapp s t v).1.ft = s.ft := by
 unfold Grain.sapp at *
 repeat' (split at h)
 all_goals first | (exfalso; simp_all; done) | skip
 all_goals (simp_all; try (repeat rw [if_neg (by omega)]); try simp)
theorem sroll_same {s : Grain.Shf} {t : Int} (h : (Grain.sroll s t).2 = 0) : (Grain.sroll s t).1.se = s.se ∧ (Grain.sroll s t).1.ft = Grain.nft s t := by
 unfold Grain.sroll at *
 repeat' (split at h)
 all_goals first | (exfalso; simp_all; done) | skip
 all_goals (simp_all; try (repeat rw [if_neg (by omega)]); try simp)
theorem sforg_same {s : Grain.Shf} {k t : Int} (h : (Grain.sforg s k t).2 = 0) : (Grain.sforg s k t).1.se = s.se ∧ (Grain.sforg s k t).1.ft = s.ft := by
 unfold Grain.sforg at *
 repeat' (split at h)
 all_goals first | (exfalso; simp_all; done) | skip
 all_goals simp_all
theorem eachB_inv {f : Grain.Shf → Grain.Shf × Int} (hk : ∀ s A, Grain.Keeps s A → (f s).2 = 0 → Grain.Keeps (f s).1 A) (hs : ∀ s, (f s).2 = 0 → (f s).1.se = s.se) {z z' : Int} (hf : ∀ s, (f s).2 = 0 → s.ft = z → (f s).1.ft = z') :
  ∀ (l l' : List Kp), eachB f l = .ok l' → (∀ k ∈ l, Grain.Keeps k.s k.A) → (∀ k ∈ l, k.s.ft = z) → (∀ k ∈ l', Grain.Keeps k.s k.A) ∧ (∀ k ∈ l', k.s.ft = z') ∧ l'.map (fun k => k.s.se) = l.map (fun k => k.s.se) ∧ l'.map (fun k => k.A) = l.map (fun k => k.A) := by
 intro l
 induction l with
 | nil =>
  intro l' h _ _
  simp [eachB] at h
  subst h
  simp
 | cons a r ih =>
  intro l' h h1 h2
  by_cases ha : (f a.s).2 = 0
  ·simp only [eachB, ha, if_true] at h
   cases hr : eachB f r with
   | error x => rw [hr] at h; simp at h
   | ok r' =>
    rw [hr] at h
    simp at h
    subst h
    obtain ⟨i1, i2, i3, i4⟩ := ih r' hr (fun k hk => h1 k (by simp [hk])) (fun k hk => h2 k (by simp [hk]))
    refine ⟨?_, ?_, ?_, ?_⟩
    ·intro k hk'
     rcases List.mem_cons.1 hk' with e | e
     ·rw [e]; exact hk _ _ (h1 a (by simp)) ha
     ·exact i1 k e
    ·intro k hk'
     rcases List.mem_cons.1 hk' with e | e
     ·rw [e]; exact hf _ ha (h2 a (by simp))
     ·exact i2 k e
    ·simp [i3, hs _ ha]
    ·simp [i4]
  ·simp [eachB, ha] at h
theorem srt_map {l l' : List Kp} (e : l'.map (fun k => k.s.se) = l.map (fun k => k.s.se)) (h : l.Pairwise (fun x y => cmpS x.s.se y.s.se < 0)) : l'.Pairwise (fun x y => cmpS x.s.se y.s.se < 0) := by
 have h1 : (l.map (fun k => k.s.se)).Pairwise (fun x y => cmpS x y < 0) := List.pairwise_map.2 h
 rw [← e] at h1
 exact List.pairwise_map.1 h1
theorem rollB_inv {b : Bs} (h : BInv b) (t : Int) : BInv (rollB b t).1 := by
 unfold rollB
 by_cases h1 : t < 0 ∨ 1000000 < t
 ·rw [if_pos h1]; exact h
 ·rw [if_neg h1]
  cases he : eachB (fun s => Grain.sroll s t) b.l with
  | error x => exact h
  | ok l =>
   obtain ⟨i1, i2, i3, _⟩ := eachB_inv (z := b.hz) (z' := max b.hz (Grain.beg t 10)) (fun s A hk hz => Grain.keeps_roll hk hz) (fun s hz => (sroll_same hz).1) (fun s hz e => by rw [(sroll_same hz).2, Grain.nft, e]) b.l l he h.kee h.ft
   have hl : l.length = b.l.length := by simpa using congrArg List.length i3
   have hb := Grain.beg_bd (t := t) (st := 10) (.inl rfl) (by omega)
   have := h.hz
   refine ⟨srt_map i3 h.srt, by show l.length ≤ 8; rw [hl]; exact h.len, i1, i2, ?_⟩
   show max b.hz (Grain.beg t 10) % 10 = 0 ∧ 0 ≤ max b.hz (Grain.beg t 10) ∧ max b.hz (Grain.beg t 10) ≤ 1000000
   omega
theorem forgB_inv {b : Bs} (h : BInv b) (k t : Int) : BInv (forgB b k t).1 := by
 unfold forgB
 by_cases h1 : t < 0 ∨ 1000000 < t
 ·rw [if_pos h1]; exact h
 ·rw [if_neg h1]
  by_cases h2 : k = 0 ∨ k = 1 ∨ k = 2
  ·rw [if_pos h2]
   cases he : eachB (fun s => Grain.sforg s k t) b.l with
   | error x => exact h
   | ok l =>
    obtain ⟨i1, i2, i3, _⟩ := eachB_inv (z := b.hz) (z' := b.hz) (fun s A hk hz => Grain.keeps_forg hk hz) (fun s hz => (sforg_same hz).1) (fun s hz e => by rw [(sforg_same hz).2, e]) b.l l he h.kee h.ft
    have hl : l.length = b.l.length := by simpa using congrArg List.length i3
    exact ⟨srt_map i3 h.srt, by show l.length ≤ 8; rw [hl]; exact h.len, i1, i2, h.hz⟩
  ·rw [if_neg h2]; exact h
theorem putB_inv {b : Bs} (h : BInv b) {i : Nat} (hi : i < b.l.length) (t v : Int) : BInv (putB b i t v).1 := by
 unfold putB
 by_cases h1 : (Grain.sapp (kp b.l i).s t v).2 = 0
 ·rw [if_pos h1]
  have e1 := sapp_same h1
  have hm := kp_mem hi
  refine ⟨srt_map (l := b.l) ?_ h.srt, by simpa using h.len, ?_, ?_, h.hz⟩
  ·show (b.l.set i _).map (fun k => k.s.se) = _
   apply List.ext_getElem (by simp)
   intro j hj1 hj2
   by_cases e : i = j
   ·subst e
    rw [List.getElem_map, List.getElem_map, List.getElem_set_self]
    show (Grain.sapp _ t v).1.se = _
    rw [e1.1, kp_get hi]
   ·simp [e]
  ·intro k hk
   rcases List.mem_or_eq_of_mem_set hk with e | e
   ·exact h.kee k e
   ·rw [e]; exact Grain.keeps_app (h.kee _ hm) h1
  ·intro k hk
   rcases List.mem_or_eq_of_mem_set hk with e | e
   ·exact h.ft k e
   ·rw [e]; show _ = b.hz; rw [e1.2]; exact h.ft _ hm
 ·rw [if_neg h1]; exact h
theorem bpos_ge {l : List Kp} (h : l.Pairwise (fun x y => cmpS x.s.se y.s.se < 0)) {s : Lb} (hn : bhas l s = false) : ∀ k ∈ l.drop (bpos l s), cmpS s k.s.se < 0 := by
 intro k hk
 obtain ⟨j, hj, rfl⟩ := List.mem_iff_getElem.1 hk
 simp only [List.length_drop] at hj
 rw [List.getElem_drop]
 have hjl : bpos l s + j < l.length := by omega
 have h1 := bpos_iff h s (bpos l s + j) hjl
 rw [kp_get hjl] at h1
 have h2 : ¬ cmpS l[bpos l s + j].s.se s < 0 := fun hc => by have := h1.1 hc; omega
 rw [cmpS_back] 
 rcases Int.lt_or_le 0 (cmpS l[bpos l s + j].s.se s) with h3 | h3
 ·omega
 ·exfalso
  have h4 : cmpS l[bpos l s + j].s.se s = 0 := by omega
  cases j with
  | zero =>
   have : bhas l s = true := by
    have hp : bpos l s < l.length := by omega
    simp only [bhas, hp, decide_true, Bool.true_and, decide_eq_true_eq]
    rw [kp_get hp]; exact h4
   rw [this] at hn; cases hn
  | succ q =>
   have hp : bpos l s < l.length := by omega
   have h5 := (List.pairwise_iff_getElem.1 h) (bpos l s) (bpos l s + (q + 1)) hp hjl (by omega)
   rw [(cmpS_zero _ _).1 h4] at h5
   have h6 := (bpos_iff h s (bpos l s) hp).1 (by rw [kp_get hp]; exact h5)
   omega
theorem putN_inv {b : Bs} (h : BInv b) {s : Lb} (hs : wrongS s = 0) (hn : bhas b.l s = false) (t v : Int) : BInv (putN b (bpos b.l s) s t v).1 := by
 unfold putN
 by_cases h0 : 8 ≤ b.l.length
 ·rw [if_pos h0]; exact h
 rw [if_neg h0]
 by_cases h1 : (Grain.sroll (newS s) b.hz).2 = 0
 ·rw [if_neg (by simp [h1])]
  by_cases h2 : (Grain.sapp (Grain.sroll (newS s) b.hz).1 t v).2 = 0
  ·rw [if_neg (by simp [h2])]
   have e1 := sroll_same h1
   have e2 := sapp_same h2
   have k0 : Grain.Keeps (newS s) [] := Grain.keeps_new hs
   have k1 := Grain.keeps_roll k0 h1
   have k2 := Grain.keeps_app k1 h2
   have ese : (Grain.sapp (Grain.sroll (newS s) b.hz).1 t v).1.se = s := by rw [e2.1, e1.1]; rfl
   have eft : (Grain.sapp (Grain.sroll (newS s) b.hz).1 t v).1.ft = b.hz := by
    rw [e2.2, e1.2]
    show max 0 (Grain.beg b.hz 10) = b.hz
    have := h.hz
    unfold Grain.beg
    omega
   refine ⟨?_, ?_, ?_, ?_, h.hz⟩
   ·show (b.l.take _ ++ [_] ++ b.l.drop _).Pairwise _
    rw [List.append_assoc, List.pairwise_append]
    refine ⟨h.srt.sublist (List.take_sublist _ _), ?_, ?_⟩
    ·rw [List.singleton_append, List.pairwise_cons]
     refine ⟨fun k hk => ?_, h.srt.sublist (List.drop_sublist _ _)⟩
     rw [ese]; exact bpos_ge h.srt hn k hk
    ·intro k hk y hy
     obtain ⟨j, hj, rfl⟩ := List.mem_iff_getElem.1 hk
     have hj' : j < bpos b.l s ∧ j < b.l.length := by simp at hj; omega
     rw [List.getElem_take]
     have h3 := (bpos_iff h.srt s j hj'.2).2 hj'.1
     rw [kp_get hj'.2] at h3
     rcases List.mem_append.1 hy with hy | hy
     ·simp at hy; rw [hy]; rw [ese]; exact h3
     ·exact cmpS_lt h3 (bpos_ge h.srt hn y hy)
   ·show (b.l.take _ ++ [_] ++ b.l.drop _).length ≤ 8
    have := bpos_le b.l s
    simp; omega
   ·intro k hk
    rcases List.mem_append.1 hk with hk | hk
    ·rcases List.mem_append.1 hk with hk | hk
     ·exact h.kee k (List.mem_of_mem_take hk)
     ·simp at hk; rw [hk]; simpa using k2
    ·exact h.kee k (List.mem_of_mem_drop hk)
   ·intro k hk
    rcases List.mem_append.1 hk with hk | hk
    ·rcases List.mem_append.1 hk with hk | hk
     ·exact h.ft k (List.mem_of_mem_take hk)
     ·simp at hk; rw [hk]; exact eft
    ·exact h.ft k (List.mem_of_mem_drop hk)
  ·rw [if_pos (by simpa using h2)]; exact h
 ·rw [if_pos (by simpa using h1)]; exact h
theorem bhas_lt {l : List Kp} {s : Lb} (h : bhas l s = true) : bpos l s < l.length := by simp [bhas] at h; exact h.1
theorem takeB_inv {b : Bs} (h : BInv b) (s : Lb) (t v : Int) : BInv (takeB b s t v).1 := by
 unfold takeB
 by_cases h1 : wrongS s = 0
 ·rw [if_neg (by simp [h1])]
  by_cases h2 : Grain.inR t v = false
  ·rw [if_pos h2]; exact h
  rw [if_neg h2]
  by_cases h3 : t < b.hz
  ·rw [if_pos h3]; exact h
  rw [if_neg h3]
  by_cases h4 : bhas b.l s = true
  ·rw [if_pos h4]; exact putB_inv h (bhas_lt h4) t v
  ·rw [if_neg h4]; exact putN_inv h h1 (by simpa using h4) t v
 ·rw [if_pos h1]; exact h
theorem doB_inv {b : Bs} (h : BInv b) (d : Dn) : BInv (doB b d).1 := by
 unfold doB
 repeat' split
 ·exact takeB_inv h _ _ _
 ·exact rollB_inv h _
 ·exact forgB_inv h _ _
 ·exact h
 ·exact h
theorem playB_inv : ∀ (l : List Dn) {b : Bs}, BInv b → BInv (playB b l).1
 | [], _, h => h
 | d :: r, _, h => playB_inv r (doB_inv h d)
open Go.RowKit
def lnsB (l : List Kp) : List Ln := l.map fun k => (k.s.se, k.A)
def FewB (m : Nat) (b : Bs) : Prop := ∀ k ∈ b.l, k.A.length ≤ m
theorem FewB.mono {m m' : Nat} {b : Bs} (h : FewB m b) (hm : m ≤ m') : FewB m' b := fun k hk => Nat.le_trans (h k hk) hm
theorem eachB_A {f : Grain.Shf → Grain.Shf × Int} : ∀ (l l' : List Kp), eachB f l = .ok l' → l'.map (fun k => k.A) = l.map (fun k => k.A) := by
 intro l
 induction l with
 | nil => intro l' h; simp [eachB] at h; subst h; rfl
 | cons a r ih =>
  intro l' h
  by_cases ha : (f a.s).2 = 0
  ·simp only [eachB, ha, if_true] at h
   cases hr : eachB f r with
   | error x => rw [hr] at h; simp at h
   | ok r' =>
    rw [hr] at h
    simp at h
    subst h
    simp [ih r' hr]
  ·simp [eachB, ha] at h
theorem few_map {m : Nat} {l l' : List Kp} (e : l'.map (fun k => k.A) = l.map (fun k => k.A)) (h : ∀ k ∈ l, k.A.length ≤ m) : ∀ k ∈ l', k.A.length ≤ m := by
 intro k hk
 have h1 : k.A ∈ l'.map (fun k => k.A) := List.mem_map_of_mem hk
 rw [e] at h1
 obtain ⟨y, hy, e2⟩ := List.mem_map.1 h1
 rw [← e2]; exact h y hy
theorem kp_few {m : Nat} {l : List Kp} (h : ∀ k ∈ l, k.A.length ≤ m) (i : Nat) : (kp l i).A.length ≤ m := by
 by_cases hi : i < l.length
 ·exact h _ (kp_mem hi)
 ·have : kp l i = ⟨Grain.szero, []⟩ := by simp [kp, List.getD, List.getElem?_eq_none (Nat.le_of_not_lt hi)]
  rw [this]; simp
theorem takeB_few {m : Nat} {b : Bs} (h : FewB m b) (s : Lb) (t v : Int) : FewB (m + 1) (takeB b s t v).1 := by
 have h' : FewB (m + 1) b := h.mono (by omega)
 unfold takeB
 repeat' split
 all_goals first | exact h' | skip
 ·unfold putB
  split
  ·intro k hk
   rcases List.mem_or_eq_of_mem_set hk with e | e
   ·exact h' k e
   ·rw [e]
    have := kp_few h (bpos b.l s)
    simp; omega
  ·exact h'
 ·unfold putN
  repeat' split
  all_goals first | exact h' | skip
  intro k hk
  rcases List.mem_append.1 hk with hk | hk
  ·rcases List.mem_append.1 hk with hk | hk
   ·exact h' k (List.mem_of_mem_take hk)
   ·simp at hk; rw [hk]; simp
  ·exact h' k (List.mem_of_mem_drop hk)
theorem doB_few {m : Nat} {b : Bs} (h : FewB m b) (d : Dn) : FewB (m + 1) (doB b d).1 := by
 have h' : FewB (m + 1) b := h.mono (by omega)
 unfold doB
 repeat' split
 ·exact takeB_few h _ _ _
 ·show FewB (m + 1) (rollB b d.till).1
  unfold rollB
  split
  ·exact h'
  ·cases he : eachB (fun s => Grain.sroll s d.till) b.l with
   | error x => exact h'
   | ok l => exact few_map (eachB_A _ _ he) h'
 ·show FewB (m + 1) (forgB b d.tier d.till).1
  unfold forgB
  split
  ·exact h'
  ·split
   ·cases he : eachB (fun s => Grain.sforg s d.tier d.till) b.l with
    | error x => exact h'
    | ok l => exact few_map (eachB_A _ _ he) h'
   ·exact h'
 ·exact h'
 ·exact h'
theorem playB_few : ∀ (l : List Dn) {m : Nat} {b : Bs}, FewB m b → FewB (m + l.length) (playB b l).1
 | [], m, b, h => h
 | d :: r, m, b, h => by
  have := playB_few r (doB_few h d)
  simp only [playB, List.length_cons]
  exact this.mono (by omega)
theorem kp_right {s : Grain.Shf} {A : List (Int × Int)} (hk : Grain.Keeps s A) (h5 : A.length ≤ 500) : Grain.Right A :=
 Grain.right_of ((Grain.right_iff A).2 ⟨h5, hk.took.rin, hk.took.pw⟩)
theorem look_of {s : Grain.Shf} {A : List (Int × Int)} (hk : Grain.Keeps s A) {f t : Int} {J : Grain.Sm} (h : lookS s f t = .ok J) : J = Grain.of (Grain.win A f t) := by
 unfold lookS at h
 by_cases h0 : (Grain.choose s f t).2 = 0
 ·rw [if_pos h0] at h
  obtain ⟨hc, _, hw⟩ := Grain.choose_ok h0
  have hf := Grain.cvr_fol hc
  have hr : Grain.read s (Grain.choose s f t).1 = (Grain.rdS s (Grain.choose s f t).1, (Grain.rdN s (Grain.choose s f t).1 : Int), 0) := by
   unfold Grain.read
   rw [if_neg (by simp [hw]), if_neg (by rw [hf]; decide)]
  rw [hr] at h
  simp at h
  rw [← h]; exact Grain.rdS_exact hk _ _ hc
 ·rw [if_neg h0] at h; simp at h
theorem st_sersB {l : List Kp} {k : Nat} : (st (sersB l) k).ser = (kp l k).s.se := by
 by_cases hk : k < l.length
 ·simp [st, sersB, kp, List.getD, hk]
 ·simp [st, sersB, kp, List.getD, List.getElem?_eq_none (Nat.le_of_not_lt hk), Grain.szero]
theorem lnsB_take {l : List Kp} {k : Nat} (h : k < l.length) : lnsB (l.take (k + 1)) = lnsB (l.take k) ++ [((kp l k).s.se, (kp l k).A)] := by
 unfold lnsB
 rw [List.take_add_one, List.getElem?_eq_getElem h, kp_get h, List.map_append]; rfl
theorem winT_keeps {l : List Kp} (hk : ∀ k ∈ l, Grain.Keeps k.s k.A) (h5 : ∀ k ∈ l, k.A.length ≤ 500) (h : Hd) (time : Int) : ∀ (k : Nat), k ≤ l.length → ∀ c, winT (fun i => lookS (kp l i).s (max 0 (time - h.range)) time) h (sersB l) k = .ok c → c = winC (lnsB (l.take k)) h time := by
 intro k
 induction k with
 | zero => intro _ c hc; simp [winT] at hc; subst hc; rfl
 | succ k ih =>
  intro hkl c hc
  have hk' : k < l.length := by omega
  have hx : winX ((kp l k).s.se, (kp l k).A) h time = if says (kp l k).s.se h.ms = true then (if (valP h.word (Grain.of (Grain.win (kp l k).A (time - h.range) time))).2 = true then [((kp l k).s.se, (valP h.word (Grain.of (Grain.win (kp l k).A (time - h.range) time))).1)] else []) else [] := rfl
  rw [winT] at hc
  cases hp : winT (fun i => lookS (kp l i).s (max 0 (time - h.range)) time) h (sersB l) k with
  | error x => rw [hp] at hc; simp at hc
  | ok c0 =>
   rw [hp] at hc
   have e0 := ih (by omega) c0 hp
   rw [lnsB_take hk', winC_append, ← e0]
   simp only [winC, List.append_nil]
   rw [hx]
   simp only [st_sersB] at hc
   by_cases e : says (kp l k).s.se h.ms = true
   ·rw [if_pos e] at hc ⊢
    cases hl : lookS (kp l k).s (max 0 (time - h.range)) time with
    | error x => rw [hl] at hc; simp at hc
    | ok J =>
     rw [hl] at hc
     have hJ := look_of (hk _ (kp_mem hk')) hl
     rw [win_max (kp_right (hk _ (kp_mem hk')) (h5 _ (kp_mem hk')))] at hJ
     injection hc with hc
     rw [← hc, hJ]
   ·rw [if_neg e] at hc ⊢
    injection hc with hc
    rw [← hc]; simp
theorem lnsB_fine {l : List Kp} (hk : ∀ k ∈ l, Grain.Keeps k.s k.A) (h5 : ∀ k ∈ l, k.A.length ≤ 500) : ∀ x ∈ lnsB l, x.1.length ≤ 4 ∧ Grain.Right x.2 := by
 intro x hx
 obtain ⟨k, hkm, rfl⟩ := List.mem_map.1 hx
 exact ⟨wrongS_len (hk k hkm).sr.se, kp_right (hk k hkm) (h5 k hkm)⟩
theorem base_gd {b : Bs} (hb : BInv b) (h5 : FewB 500 b) (time : Int) : ∀ h, winBad h = 0 → ∀ c, overW (fun i f t => lookS (kp b.l i).s f t) (sersB b.l) b.l.length time h = .ok c → Gd ⟨false, c⟩ := by
 intro h _ c hc
 have e := winT_keeps hb.kee h5 h time b.l.length (Nat.le_refl _) c hc
 rw [List.take_of_length_le (Nat.le_refl _)] at e
 rw [e]
 exact gd_win (lnsB_fine hb.kee h5) (by simp [lnsB]; exact hb.len) h time
theorem base_bd {b : Bs} (hb : BInv b) (h5 : FewB 500 b) (time : Int) : ∀ i a s, lookS (kp b.l i).s a time = .ok s → -9223372036854775808 ≤ s.t ∧ s.t ≤ 9223372036854775807 := by
 intro i a s hs
 by_cases hi : i < b.l.length
 ·have hR := kp_right (hb.kee _ (kp_mem hi)) (h5 _ (kp_mem hi))
  have e := look_of (hb.kee _ (kp_mem hi)) hs
  have hl5 : (Grain.win (kp b.l i).A a time).length ≤ 500 := Nat.le_trans (Grain.win_len _ _ _) hR.few
  have h1 := (of_ok (Grain_win_val hR a time) hl5).t
  rw [e]
  omega
 ·have e : kp b.l i = ⟨Grain.szero, []⟩ := by simp [kp, List.getD, List.getElem?_eq_none (Nat.le_of_not_lt hi)]
  rw [e] at hs
  have hk : Grain.Keeps Grain.szero [] := Grain.keeps_new (se := []) (by decide)
  have e2 := look_of hk hs
  rw [e2]
  show -9223372036854775808 ≤ (0 : Int) ∧ (0 : Int) ≤ 9223372036854775807
  decide
end Go.GrainU
namespace Grain
theorem sroll_ok {s : Shf} {A : List (Int × Int)} (h : Keeps s A) (h5 : A.length ≤ 500) {t : Int} (h0 : 0 ≤ t) (h1 : t ≤ 1000000) : (sroll s t).2 = 0 := by
 have f1 := h.sr.fsp
 have f2 := h.sr.csp
 have f3 := h.sr.bd
 have hb := beg_bd (t := t) (st := 10) (.inl rfl) h0
 have g1 : s.ft ≤ nft s t ∧ nft s t ≤ 1000000 ∧ nft s t % 10 = 0 ∧ 0 ≤ nft s t := by
  unfold nft; omega
 have hb2 := beg_bd (t := nft s t) (st := 60) (.inr rfl) g1.2.2.2
 have g2 : s.ct ≤ nct s t ∧ nct s t ≤ nft s t ∧ nct s t % 60 = 0 ∧ 0 ≤ nct s t := by
  unfold nct; omega
 have e1 : nfi s t = up (win A s.ff (nft s t)) 10 := by
  unfold nfi
  rw [h.ra, win_ra f3.2.1, h.fi, up_split (.inl rfl) f1.2.1 f1.2.2.2.1 g1.1 h.took]
 have e2 : nco s t = up (win A s.cf (nct s t)) 60 := by
  unfold nco
  rw [e1, up_winB f1.1 (by omega) (by omega) f3.2.2.1 g2.1 g2.2.1 h.took, great_up _ (h.took.win_len (by omega) (by omega) g2.1), h.co, ← up_split (.inr rfl) f2.2.1 f2.2.2.2.1 g2.1 h.took]
 have l1 : (nfi s t).length ≤ 500 := by
  rw [e1]
  have a := win_len A s.ff (nft s t)
  have := up_fewer 10 (l := win A s.ff (nft s t)) (by omega)
  omega
 have l2 : (nco s t).length ≤ 500 := by
  rw [e2]
  have a := win_len A s.cf (nct s t)
  have := up_fewer 60 (l := win A s.cf (nct s t)) (by omega)
  omega
 unfold sroll
 rw [if_neg (by rw [wrongAt_of h.sr h0 h1]; simp), if_neg (by omega), if_neg (by omega)]
theorem sroll_ra {s : Shf} {t : Int} (h : (sroll s t).2 = 0) : (sroll s t).1.ra = s.ra := by
 unfold sroll at *
 repeat' (split at h)
 all_goals first | (exfalso; simp_all; done) | skip
 all_goals (simp_all; try (repeat rw [if_neg (by omega)]); try simp)
theorem sapp_err {s : Shf} {A : List (Int × Int)} (h : Keeps s A) (h5 : s.ra.length < 500) {t v : Int} (hin : inR t v = true) : (sapp s t v).2 = if late s t = true then 9 else 0 := by
 unfold sapp
 rw [if_neg (by rw [(sr_iff s).2 h.sr]; simp), if_neg (by rw [hin]; decide)]
 by_cases hl : late s t = true
 ·rw [if_pos hl, if_pos hl]
 ·rw [if_neg hl, if_neg hl, if_neg (by omega)]
end Grain
namespace Go.GrainU
open Go.RowKit
theorem eachB_all {f : Grain.Shf → Grain.Shf × Int} : ∀ (l : List Kp), (∀ k ∈ l, (f k.s).2 = 0) → eachB f l = .ok (l.map fun k => ⟨(f k.s).1, k.A⟩)
 | [], _ => rfl
 | k :: r, h => by
  simp only [eachB, h k (by simp), if_true, eachB_all r (fun x hx => h x (by simp [hx])), List.map_cons]
theorem rollB_ok {b : Bs} (hb : BInv b) (h5 : FewB 500 b) {t : Int} (h0 : 0 ≤ t) (h1 : t ≤ 1000000) : rollB b t = (⟨b.l.map fun k => ⟨(Grain.sroll k.s t).1, k.A⟩, max b.hz (Grain.beg t 10)⟩, 0) := by
 unfold rollB
 rw [if_neg (by omega), eachB_all (f := fun s => Grain.sroll s t) b.l (fun k hk => Grain.sroll_ok (hb.kee k hk) (h5 k hk) h0 h1)]
theorem take_first {s : Lb} (hs : wrongS s = 0) {t v : Int} (hin : Grain.inR t v = true) : takeB b0 s t v = (⟨[⟨{ newS s with ra := [(t, v)] }, [(t, v)]⟩], 0⟩, 0) := by
 have hk : Grain.Keeps (newS s) [] := Grain.keeps_new hs
 have ht : 0 ≤ t := by simp [Grain.inR] at hin; omega
 have r0 : Grain.sroll (newS s) 0 = (newS s, 0) := by
  have h0 : Grain.wrongAt (newS s) 0 = 0 := Grain.wrongAt_of hk.sr (by omega) (by omega)
  unfold Grain.sroll
  rw [h0]
  rfl
 have a0 : Grain.sapp (newS s) t v = ({ newS s with ra := [(t, v)] }, 0) := by
  unfold Grain.sapp
  rw [if_neg (by rw [(Grain.sr_iff _).2 hk.sr]; simp), if_neg (by rw [hin]; decide), if_neg (by show ¬ ((decide (t < 0) || false) = true); simp; exact ht), if_neg (by simp [newS, Grain.szero])]
  simp [newS, Grain.szero]
 unfold takeB
 rw [if_neg (by simp [hs]), if_neg (by rw [hin]; decide), if_neg (by show ¬ t < 0; omega), if_neg (by simp [bhas, b0])]
 unfold putN
 rw [if_neg (by simp [b0]), show b0.hz = 0 from rfl, r0, if_neg (by simp)]
 simp only
 rw [a0, if_neg (by simp)]
 simp [b0]
theorem lastA3 (x y z : Dn) : (if 120 < [x, y, z].length ∨ [x, y, z].length = 0 then (⟨1, 0, [], 0⟩ : An) else (playB b0 [x, y, z]).2.getD ([x, y, z].length - 1) ⟨1, 0, [], 0⟩) = (doB (doB (doB b0 x).1 y).1 z).2 := by
 simp [playB]
theorem late_same {s : Lb} (hs : wrongS s = 0) {a t b v u : Int} (ha : Grain.inR a v = true) (ht0 : 0 ≤ t) (ht1 : t ≤ 1000000) (hb : Grain.inR b u = true) :
  (takeB (rollB (takeB b0 s a v).1 t).1 s b u).2 = if b < t - t % 10 ∨ b ≤ a then 9 else 0 := by
 have i1 : BInv (takeB b0 s a v).1 := takeB_inv b0_inv s a v
 have w1 : FewB 500 (takeB b0 s a v).1 := (takeB_few (m := 0) (b := b0) (fun k hk => by simp [b0] at hk) s a v).mono (by omega)
 have i2 : BInv (rollB (takeB b0 s a v).1 t).1 := rollB_inv i1 t
 rw [rollB_ok i1 w1 ht0 ht1] at i2 ⊢
 rw [take_first hs ha] at i1 w1 i2 ⊢
 simp only at i2 ⊢
 obtain ⟨k1, hk1⟩ : ∃ k : Kp, k = ⟨{ newS s with ra := [(a, v)] }, [(a, v)]⟩ := ⟨_, rfl⟩
 rw [← hk1] at i1 w1 i2 ⊢
 have hse1 : k1.s.se = s := by rw [hk1]; rfl
 have hra1 : k1.s.ra = [(a, v)] := by rw [hk1]
 have hr := Grain.sroll_ok (i1.kee k1 (by simp)) (w1 k1 (by simp)) ht0 ht1
 simp only [List.map_cons, List.map_nil] at i2 ⊢
 obtain ⟨k2, hk2⟩ : ∃ k : Kp, k = ⟨(Grain.sroll k1.s t).1, k1.A⟩ := ⟨_, rfl⟩
 rw [← hk2] at i2 ⊢
 have hse2 : k2.s.se = s := by rw [hk2]; show (Grain.sroll k1.s t).1.se = s; rw [(sroll_same hr).1, hse1]
 have hra2 : k2.s.ra = [(a, v)] := by rw [hk2]; show (Grain.sroll k1.s t).1.ra = _; rw [Grain.sroll_ra hr, hra1]
 have hg : max 0 (Grain.beg t 10) = t - t % 10 := by unfold Grain.beg; omega
 rw [hg] at i2 ⊢
 have hft : k2.s.ft = t - t % 10 := i2.ft k2 (by simp)
 have hc0 : cmpS k2.s.se s = 0 := by rw [hse2]; exact (cmpS_zero s s).2 rfl
 have hp : bpos [k2] s = 0 := by simp [bpos, hc0]
 have hh : bhas [k2] s = true := by simp [bhas, hp, kp, hc0]
 unfold takeB
 rw [if_neg (by simp [hs]), if_neg (by rw [hb]; decide)]
 simp only
 by_cases h1 : b < t - t % 10
 ·rw [if_pos h1, if_pos (.inl h1)]
 ·rw [if_neg h1, if_pos hh, hp]
  have he := Grain.sapp_err (i2.kee k2 (by simp)) (by rw [hra2]; simp) hb
  have hkp : kp [k2] 0 = k2 := rfl
  have hl : Grain.late k2.s b = decide (b ≤ a) := by
   unfold Grain.late
   rw [hft, hra2]
   simp [h1]
  rw [hl] at he
  unfold putB
  simp only [hkp]
  by_cases h2 : b ≤ a
  ·rw [if_pos (by simpa using h2)] at he
   rw [if_neg (show ¬ (Grain.sapp k2.s b u).2 = 0 by rw [he]; decide)]
   have h3 : b < t - t % 10 ∨ b ≤ a := .inr h2
   rw [if_pos h3]
   exact he
  ·rw [if_neg (by simpa using h2)] at he
   have h3 : ¬ (b < t - t % 10 ∨ b ≤ a) := fun h => h.elim h1 h2
   rw [if_neg h3, if_pos he]
theorem late_other {s s' : Lb} (hs : wrongS s = 0) (hs' : wrongS s' = 0) (hlt : cmpS s s' < 0) {a t b v u : Int} (ha : Grain.inR a v = true) (ht0 : 0 ≤ t) (ht1 : t ≤ 1000000) (hb : Grain.inR b u = true) :
  (takeB (rollB (takeB b0 s a v).1 t).1 s' b u).2 = if b < t - t % 10 then 9 else 0 := by
 have i1 : BInv (takeB b0 s a v).1 := takeB_inv b0_inv s a v
 have w1 : FewB 500 (takeB b0 s a v).1 := (takeB_few (m := 0) (b := b0) (fun k hk => by simp [b0] at hk) s a v).mono (by omega)
 have i2 : BInv (rollB (takeB b0 s a v).1 t).1 := rollB_inv i1 t
 rw [rollB_ok i1 w1 ht0 ht1] at i2 ⊢
 rw [take_first hs ha] at i1 w1 i2 ⊢
 simp only at i2 ⊢
 obtain ⟨k1, hk1⟩ : ∃ k : Kp, k = ⟨{ newS s with ra := [(a, v)] }, [(a, v)]⟩ := ⟨_, rfl⟩
 rw [← hk1] at i1 w1 i2 ⊢
 have hse1 : k1.s.se = s := by rw [hk1]; rfl
 have hr := Grain.sroll_ok (i1.kee k1 (by simp)) (w1 k1 (by simp)) ht0 ht1
 simp only [List.map_cons, List.map_nil] at i2 ⊢
 obtain ⟨k2, hk2⟩ : ∃ k : Kp, k = ⟨(Grain.sroll k1.s t).1, k1.A⟩ := ⟨_, rfl⟩
 rw [← hk2] at i2 ⊢
 have hse2 : k2.s.se = s := by rw [hk2]; show (Grain.sroll k1.s t).1.se = s; rw [(sroll_same hr).1, hse1]
 have hg : max 0 (Grain.beg t 10) = t - t % 10 := by unfold Grain.beg; omega
 rw [hg] at i2 ⊢
 have hz := i2.hz
 simp only at hz
 have hp : bpos [k2] s' = 1 := by simp [bpos, hse2, hlt]
 have hh : bhas [k2] s' = false := by simp [bhas, hp]
 unfold takeB
 rw [if_neg (by simp [hs']), if_neg (by rw [hb]; decide)]
 simp only
 by_cases h1 : b < t - t % 10
 ·rw [if_pos h1, if_pos h1]
 ·rw [if_neg h1, if_neg (by rw [hh]; decide), if_neg h1, hp]
  have hk0 : Grain.Keeps (newS s') [] := Grain.keeps_new hs'
  have r0 := Grain.sroll_ok hk0 (by simp) hz.2.1 hz.2.2
  have k0 := Grain.keeps_roll hk0 r0
  have hra0 : (Grain.sroll (newS s') (t - t % 10)).1.ra = [] := by rw [Grain.sroll_ra r0]; rfl
  have he := Grain.sapp_err k0 (by rw [hra0]; simp) hb
  have hl : Grain.late (Grain.sroll (newS s') (t - t % 10)).1 b = false := by
   unfold Grain.late
   rw [(sroll_same r0).2, hra0]
   have : Grain.nft (newS s') (t - t % 10) = t - t % 10 := by
    show max 0 (Grain.beg (t - t % 10) 10) = _
    unfold Grain.beg; omega
   rw [this]
   simp [h1]
  rw [hl, if_neg (by decide)] at he
  unfold putN
  rw [if_neg (by simp), if_neg (by simp [r0])]
  simp only
  rw [if_neg (by simp [he])]
end Go.GrainU
