import Derived.Test.YtoldmigappbjcaaGreatDoorL02
import Derived.Test.YtoldmigappbjcaaGreatDoorL24
import Derived.Test.YtoldmigappbjcaaGreatDoorL36
import Derived.Test.YtoldmigappbjcaaGreatDoorL38
namespace Go.GrainU
open Go.RowKit
structure Dn where
 kind : Int
 tier : Int
 till : Int
 se : Lb
 t : Int
 v : Int
 tx : ByteArray
structure An where
 err : Int
 pos : Int
 cs : List Cl
 cost : Int
structure Kp where
 s : Grain.Shf
 A : List (Int × Int)
structure Bs where
 l : List Kp
 hz : Int
def kp (l : List Kp) (k : Nat) : Kp := l.getD k ⟨Grain.szero, []⟩
def bpos (l : List Kp) (s : Lb) : Nat := (l.takeWhile fun k => decide (cmpS k.s.se s < 0)).length
def bhas (l : List Kp) (s : Lb) : Bool := decide (bpos l s < l.length) && decide (cmpS (kp l (bpos l s)).s.se s = 0)
def newS (s : Lb) : Grain.Shf := { Grain.szero with se := s }
def putB (b : Bs) (i : Nat) (t v : Int) : Bs × Int :=
 if (Grain.sapp (kp b.l i).s t v).2 = 0 then (⟨b.l.set i ⟨(Grain.sapp (kp b.l i).s t v).1, (kp b.l i).A ++ [(t, v)]⟩, b.hz⟩, 0)
 else (b, (Grain.sapp (kp b.l i).s t v).2)
def putN (b : Bs) (i : Nat) (s : Lb) (t v : Int) : Bs × Int :=
 if 8 ≤ b.l.length then (b, 5)
 else if (Grain.sroll (newS s) b.hz).2 ≠ 0 then (b, (Grain.sroll (newS s) b.hz).2)
 else if (Grain.sapp (Grain.sroll (newS s) b.hz).1 t v).2 ≠ 0 then (b, (Grain.sapp (Grain.sroll (newS s) b.hz).1 t v).2)
 else (⟨b.l.take i ++ [⟨(Grain.sapp (Grain.sroll (newS s) b.hz).1 t v).1, [(t, v)]⟩] ++ b.l.drop i, b.hz⟩, 0)
def takeB (b : Bs) (s : Lb) (t v : Int) : Bs × Int :=
 if wrongS s ≠ 0 then (b, wrongS s)
 else if Grain.inR t v = false then (b, 3)
 else if t < b.hz then (b, 9)
 else if bhas b.l s = true then putB b (bpos b.l s) t v
 else putN b (bpos b.l s) s t v
def eachB (f : Grain.Shf → Grain.Shf × Int) : List Kp → Except Int (List Kp)
  | [] => .ok []
  | k :: r =>
    if (f k.s).2 = 0 then
      (match eachB f r with
       | .error x => .error x
       | .ok r' => .ok (⟨(f k.s).1, k.A⟩ :: r'))
    else .error (f k.s).2
theorem eachB_snoc (f : Grain.Shf → Grain.Shf × Int) (x : Kp) : ∀ l : List Kp, eachB f (l ++ [x]) = match eachB f l with | .error e => .error e | .ok l' => if (f x.s).2 = 0 then .ok (l' ++ [⟨(f x.s).1, x.A⟩]) else .error (f x.s).2
 | [] => by
  by_cases h : (f x.s).2 = 0
  ·simp [eachB, h]
  ·simp [eachB, h]
 | k :: r => by
  by_cases h : (f k.s).2 = 0
  ·simp only [List.cons_append, eachB, h, if_true, eachB_snoc f x r]
   cases eachB f r with
   | error e => rfl
   | ok l' =>
    by_cases h' : (f x.s).2 = 0
    ·simp [h']
    ·simp [h']
  ·simp [eachB, h]
theorem eachB_err {f : Grain.Shf → Grain.Shf × Int} {a : List Kp} {e : Int} (h : eachB f a = .error e) : ∀ r, eachB f (a ++ r) = .error e := by
 induction a with
 | nil => simp [eachB] at h
 | cons k a ih =>
  intro r
  by_cases hk : (f k.s).2 = 0
  ·simp only [eachB, hk, if_true, List.cons_append] at h ⊢
   cases ha : eachB f a with
   | error x => rw [ha] at h; injection h with h; subst h; rw [ih ha r]
   | ok l => rw [ha] at h; simp at h
  ·simpa [eachB, hk] using h
def rollB (b : Bs) (tq' : Int) : Bs × Int :=
 if tq' < 0 ∨ 1000000 < tq' then (b, 3)
 else match eachB (fun s => Grain.sroll s tq') b.l with
  | .error x => (b, x)
  | .ok l => (⟨l, max b.hz (Grain.beg tq' 10)⟩, 0)
def forgB (b : Bs) (tier tq' : Int) : Bs × Int :=
  if tq' < 0 ∨ 1000000 < tq' then (b, 3)
  else if tier = 0 ∨ tier = 1 ∨ tier = 2 then
    (match eachB (fun s => Grain.sforg s tier tq') b.l with
     | .error x => (b, x)
     | .ok l => (⟨l, b.hz⟩, 0))
  else (b, 1)
def lookS (s : Grain.Shf) (f t : Int) : Except Int Grain.Sm :=
 if (Grain.choose s f t).2 = 0 then (if (Grain.read s (Grain.choose s f t).1).2.2 = 0 then .ok (Grain.read s (Grain.choose s f t).1).1 else .error (Grain.read s (Grain.choose s f t).1).2.2)
 else .error (Grain.choose s f t).2
def lookK (s : Grain.Shf) (f t : Int) : Nat := (Grain.read s (Grain.choose s f t).1).2.1.toNat
def sersB (l : List Kp) : List ST := l.map fun k => ⟨k.s.se, none, 0⟩
def askE (b : Bs) (time : Int) (e : Ex) : Except Int Mn := overE (fun i f t => lookS (kp b.l i).s f t) (sersB b.l) b.l.length time e
def askK (b : Bs) (time : Int) (e : Ex) : Nat := overK (fun i f t => lookK (kp b.l i).s f t) (sersB b.l) b.l.length time e
def anE (b : Bs) (time : Int) (e : Ex) : An := match askE b time e with
 | .error x => ⟨x, 0, [], 0⟩
 | .ok m => ⟨0, 0, m.cs, wrap64 (askK b time e)⟩
def askB (b : Bs) (tx : ByteArray) (time : Int) : An := match prs tx.data.toList with
 | .error f => ⟨f.1, ((tx.size - f.2 : Nat) : Int), [], 0⟩
 | .ok e => anE b time e
def doB (b : Bs) (d : Dn) : Bs × An :=
 if d.kind = 1 then ((takeB b d.se d.t d.v).1, ⟨(takeB b d.se d.t d.v).2, 0, [], 0⟩)
 else if d.kind = 2 then ((rollB b d.till).1, ⟨(rollB b d.till).2, 0, [], 0⟩)
 else if d.kind = 3 then ((forgB b d.tier d.till).1, ⟨(forgB b d.tier d.till).2, 0, [], 0⟩)
 else if d.kind = 4 then (b, askB b d.tx d.till)
 else (b, ⟨1, 0, [], 0⟩)
def playB (b : Bs) : List Dn → Bs × List An
 | [] => (b, [])
 | d :: r => ((playB (doB b d).1 r).1, (doB b d).2 :: (playB (doB b d).1 r).2)
def b0 : Bs := ⟨[], 0⟩
theorem playB_snoc (d : Dn) : ∀ (l : List Dn) (b : Bs), playB b (l ++ [d]) = ((doB (playB b l).1 d).1, (playB b l).2 ++ [(doB (playB b l).1 d).2])
 | [], b => by simp [playB]
 | x :: r, b => by simp only [List.cons_append, playB, playB_snoc d r]
structure BInv (b : Bs) : Prop where
 srt : b.l.Pairwise (fun x y => cmpS x.s.se y.s.se < 0)
 len : b.l.length ≤ 8
 kee : ∀ k ∈ b.l, Grain.Keeps k.s k.A
 ft : ∀ k ∈ b.l, k.s.ft = b.hz
 hz : b.hz % 10 = 0 ∧ 0 ≤ b.hz ∧ b.hz ≤ 1000000
theorem b0_inv : BInv b0 := ⟨List.Pairwise.nil, by simp [b0], fun k hk => by simp [b0] at hk, fun k hk => by simp [b0] at hk, by simp [b0]⟩
theorem cmpS_lt {a b c : Lb} (h : cmpS a b < 0) (h' : cmpS b c < 0) : cmpS a c < 0 := by
 rw [cmpS_L] at *
 have h1 : cmpL a b = -1 := by rcases cmpL_cases a b with h | ⟨h, _⟩ | h <;> omega
 have h2 : cmpL b c = -1 := by rcases cmpL_cases b c with h | ⟨h, _⟩ | h <;> omega
 rw [cmpL_trans a b c h1 h2]; decide
theorem kp_get {l : List Kp} {k : Nat} (h : k < l.length) : kp l k = l[k] := by simp [kp, List.getD, List.getElem?_eq_getElem h]
theorem kp_mem {l : List Kp} {k : Nat} (h : k < l.length) : kp l k ∈ l := by rw [kp_get h]; exact List.getElem_mem h
theorem bpos_le (l : List Kp) (s : Lb) : bpos l s ≤ l.length := by unfold bpos; exact (List.takeWhile_sublist _).length_le
theorem bpos_iff {l : List Kp} (h : l.Pairwise (fun x y => cmpS x.s.se y.s.se < 0)) (s : Lb) : ∀ k, k < l.length → (cmpS (kp l k).s.se s < 0 ↔ k < bpos l s) := by
 induction l with
 | nil => intro k hk; simp at hk
 | cons a r ih =>
  rw [List.pairwise_cons] at h
  intro k hk
  by_cases ha : cmpS a.s.se s < 0
  ·have e : bpos (a :: r) s = bpos r s + 1 := by simp [bpos, ha]
   rw [e]
   cases k with
   | zero => simp [kp, ha]
   | succ j =>
    have := ih h.2 j (by simpa using hk)
    have e2 : kp (a :: r) (j + 1) = kp r j := by simp [kp]
    rw [e2, this]; omega
  ·have e : bpos (a :: r) s = 0 := by simp [bpos, ha]
   rw [e]
   refine ⟨fun hc => ?_, fun hc => by omega⟩
   cases k with
   | zero => simp [kp] at hc; exact absurd hc ha
   | succ j =>
    have hj : j < r.length := by simpa using hk
    have e2 : kp (a :: r) (j + 1) = kp r j := by simp [kp]
    rw [e2] at hc
    exact absurd (cmpS_lt (h.1 _ (kp_mem hj)) hc) ha
theorem sapp_same {s : Grain.Shf} {t v : Int} (h : (Grain.sapp s t v).2 = 0) : (Grain.sapp s t v).1.se = s.se ∧ (Grain.sapp s t v).1.ft = s.ft := by
 unfold Grain.sapp at *
 repeat' (split at h)
 all_goals first | (exfalso; simp_all; done) | skip
 all_goals (simp_all; try (repeat rw [if_neg (by omega)]); try simp)
theorem sroll_same {s : Grain.Shf} {t : Int} (h : (Grain.sroll s t).2 = 0) : (Grain.sroll s t).1.se = s.se ∧ (Grain.sroll s t).1.ft = Grain.nft s t := by
 unfold Grain.sroll at *
 repeat' (split at h)
 all_goals first | (exfalso; simp_all; done) | skip
 all_goals (simp_all; try (repeat rw [if_neg (by omega)]); try simp)
theorem sforg_same {s : Grain.Shf} {k t : Int} (h : (Grain.sforg s k t).2 = 0) : (Grain.sforg s k t).1.se = s.se ∧ (Grain.sforg s k t).1.ft = s.ft := by
 unfold Grain.sforg at *
 repeat' (split at h)
 all_goals first | (exfalso; simp_all; done) | skip
 all_goals simp_all
theorem eachB_inv {f : Grain.Shf → Grain.Shf × Int} (hk : ∀ s A, Grain.Keeps s A → (f s).2 = 0 → Grain.Keeps (f s).1 A) (hs : ∀ s, (f s).2 = 0 → (f s).1.se = s.se) {z z' : Int} (hf : ∀ s, (f s).2 = 0 → s.ft = z → (f s).1.ft = z') :
  ∀ (l l' : List Kp), eachB f l = .ok l' → (∀ k ∈ l, Grain.Keeps k.s k.A) → (∀ k ∈ l, k.s.ft = z) → (∀ k ∈ l', Grain.Keeps k.s k.A) ∧ (∀ k ∈ l', k.s.ft = z') ∧ l'.map (fun k => k.s.se) = l.map (fun k => k.s.se) ∧ l'.map (fun k => k.A) = l.map (fun k => k.A) := by
 intro l
 induction l with
 | nil =>
  intro l' h _ _
  simp [eachB] at h
  subst h
  simp
 | cons a r ih =>
  intro l' h h1 h2
  by_cases ha : (f a.s).2 = 0
  ·simp only [eachB, ha, if_true] at h
   cases hr : eachB f r with
   | error x => rw [hr] at h; simp at h
   | ok r' =>
    rw [hr] at h
    simp at h
    subst h
    obtain ⟨i1, i2, i3, i4⟩ := ih r' hr (fun k hk => h1 k (by simp [hk])) (fun k hk => h2 k (by simp [hk]))
    refine ⟨?_, ?_, ?_, ?_⟩
    ·intro k hk'
     rcases List.mem_cons.1 hk' with e | e
     ·rw [e]; exact hk _ _ (h1 a (by simp)) ha
     ·exact i1 k e
    ·intro k hk'
     rcases List.mem_cons.1 hk' with e | e
     ·rw [e]; exact hf _ ha (h2 a (by simp))
     ·exact i2 k e
    ·simp [i3, hs _ ha]
    ·simp [i4]
  ·simp [eachB, ha] at h
theorem srt_map {l l' : List Kp} (e : l'.map (fun k => k.s.se) = l.map (fun k => k.s.se)) (h : l.Pairwise (fun x y => cmpS x.s.se y.s.se < 0)) : l'.Pairwise (fun x y => cmpS x.s.se y.s.se < 0) := by
 have h1 : (l.map (fun k => k.s.se)).Pairwise (fun x y => cmpS x y < 0) := List.pairwise_map.2 h
 rw [← e] at h1
 exact List.pairwise_map.1 h1
theorem rollB_inv {b : Bs} (h : BInv b) (t : Int) : BInv (rollB b t).1 := by
 unfold rollB
 by_cases h1 : t < 0 ∨ 1000000 < t
 ·rw [if_pos h1]; exact h
 ·rw [if_neg h1]
  cases he : eachB (fun s => Grain.sroll s t) b.l with
  | error x => exact h
  | ok l =>
   obtain ⟨i1, i2, i3, _⟩ := eachB_inv (z := b.hz) (z' := max b.hz (Grain.beg t 10)) (fun s A hk hz => Grain.keeps_roll hk hz) (fun s hz => (sroll_same hz).1) (fun s hz e => by rw [(sroll_same hz).2, Grain.nft, e]) b.l l he h.kee h.ft
   have hl : l.length = b.l.length := by simpa using congrArg List.length i3
   have hb := Grain.beg_bd (t := t) (st := 10) (.inl rfl) (by omega)
   have := h.hz
   refine ⟨srt_map i3 h.srt, by show l.length ≤ 8; rw [hl]; exact h.len, i1, i2, ?_⟩
   show max b.hz (Grain.beg t 10) % 10 = 0 ∧ 0 ≤ max b.hz (Grain.beg t 10) ∧ max b.hz (Grain.beg t 10) ≤ 1000000
   omega
theorem forgB_inv {b : Bs} (h : BInv b) (k t : Int) : BInv (forgB b k t).1 := by
 unfold forgB
 by_cases h1 : t < 0 ∨ 1000000 < t
 ·rw [if_pos h1]; exact h
 ·rw [if_neg h1]
  by_cases h2 : k = 0 ∨ k = 1 ∨ k = 2
  ·rw [if_pos h2]
   cases he : eachB (fun s => Grain.sforg s k t) b.l with
   | error x => exact h
   | ok l =>
    obtain ⟨i1, i2, i3, _⟩ := eachB_inv (z := b.hz) (z' := b.hz) (fun s A hk hz => Grain.keeps_forg hk hz) (fun s hz => (sforg_same hz).1) (fun s hz e => by rw [(sforg_same hz).2, e]) b.l l he h.kee h.ft
    have hl : l.length = b.l.length := by simpa using congrArg List.length i3
    exact ⟨srt_map i3 h.srt, by show l.length ≤ 8; rw [hl]; exact h.len, i1, i2, h.hz⟩
  ·rw [if_neg h2]; exact h
theorem putB_inv {b : Bs} (h : BInv b) {i : Nat} (hi : i < b.l.length) (t v : Int) : BInv (putB b i t v).1 := by
 unfold putB
 by_cases h1 : (Grain.sapp (kp b.l i).s t v).2 = 0
 ·rw [if_pos h1]
  have e1 := sapp_same h1
  have hm := kp_mem hi
  refine ⟨srt_map (l := b.l) ?_ h.srt, by simpa using h.len, ?_, ?_, h.hz⟩
  ·show (b.l.set i _).map (fun k => k.s.se) = _
   apply List.ext_getElem (by simp)
   intro j hj1 hj2
   by_cases e : i = j
   ·subst e
    rw [List.getElem_map, List.getElem_map, List.getElem_set_self]
    show (Grain.sapp _ t v).1.se = _
    rw [e1.1, kp_get hi]
   ·simp [e]
  ·intro k hk
   rcases List.mem_or_eq_of_mem_set hk with e | e
   ·exact h.kee k e
   ·rw [e]; exact Grain.keeps_app (h.kee _ hm) h1
  ·intro k hk
   rcases List.mem_or_eq_of_mem_set hk with e | e
   ·exact h.ft k e
   ·rw [e]; show _ = b.hz; rw [e1.2]; exact h.ft _ hm
 ·rw [if_neg h1]; exact h
theorem bpos_ge {l : List Kp} (h : l.Pairwise (fun x y => cmpS x.s.se y.s.se < 0)) {s : Lb} (hn : bhas l s = false) : ∀ k ∈ l.drop (bpos l s), cmpS s k.s.se < 0 := by
 intro k hk
 obtain ⟨j, hj, rfl⟩ := List.mem_iff_getElem.1 hk
 simp only [List.length_drop] at hj
 rw [List.getElem_drop]
 have hjl : bpos l s + j < l.length := by omega
 have h1 := bpos_iff h s (bpos l s + j) hjl
 rw [kp_get hjl] at h1
 have h2 : ¬ cmpS l[bpos l s + j].s.se s < 0 := fun hc => by have := h1.1 hc; omega
 rw [cmpS_back] 
 rcases Int.lt_or_le 0 (cmpS l[bpos l s + j].s.se s) with h3 | h3
 ·omega
 ·exfalso
  have h4 : cmpS l[bpos l s + j].s.se s = 0 := by omega
  cases j with
  | zero =>
   have : bhas l s = true := by
    have hp : bpos l s < l.length := by omega
    simp only [bhas, hp, decide_true, Bool.true_and, decide_eq_true_eq]
    rw [kp_get hp]; exact h4
   rw [this] at hn; cases hn
  | succ q =>
   have hp : bpos l s < l.length := by omega
   have h5 := (List.pairwise_iff_getElem.1 h) (bpos l s) (bpos l s + (q + 1)) hp hjl (by omega)
   rw [(cmpS_zero _ _).1 h4] at h5
   have h6 := (bpos_iff h s (bpos l s) hp).1 (by rw [kp_get hp]; exact h5)
   omega
theorem putN_inv {b : Bs} (h : BInv b) {s : Lb} (hs : wrongS s = 0) (hn : bhas b.l s = false) (t v : Int) : BInv (putN b (bpos b.l s) s t v).1 := by
 unfold putN
 by_cases h0 : 8 ≤ b.l.length
 ·rw [if_pos h0]; exact h
 rw [if_neg h0]
 by_cases h1 : (Grain.sroll (newS s) b.hz).2 = 0
 ·rw [if_neg (by simp [h1])]
  by_cases h2 : (Grain.sapp (Grain.sroll (newS s) b.hz).1 t v).2 = 0
  ·rw [if_neg (by simp [h2])]
   have e1 := sroll_same h1
   have e2 := sapp_same h2
   have k0 : Grain.Keeps (newS s) [] := Grain.keeps_new hs
   have k1 := Grain.keeps_roll k0 h1
   have k2 := Grain.keeps_app k1 h2
   have ese : (Grain.sapp (Grain.sroll (newS s) b.hz).1 t v).1.se = s := by rw [e2.1, e1.1]; rfl
   have eft : (Grain.sapp (Grain.sroll (newS s) b.hz).1 t v).1.ft = b.hz := by
    rw [e2.2, e1.2]
    show max 0 (Grain.beg b.hz 10) = b.hz
    have := h.hz
    unfold Grain.beg
    omega
   refine ⟨?_, ?_, ?_, ?_, h.hz⟩
   ·show (b.l.take _ ++ [_] ++ b.l.drop _).Pairwise _
    rw [List.append_assoc, List.pairwise_append]
    refine ⟨h.srt.sublist (List.take_sublist _ _), ?_, ?_⟩
    ·rw [List.singleton_append, List.pairwise_cons]
     refine ⟨fun k hk => ?_, h.srt.sublist (List.drop_sublist _ _)⟩
     rw [ese]; exact bpos_ge h.srt hn k hk
    ·intro k hk y hy
     obtain ⟨j, hj, rfl⟩ := List.mem_iff_getElem.1 hk
     have hj' : j < bpos b.l s ∧ j < b.l.length := by simp at hj; omega
     rw [List.getElem_take]
     have h3 := (bpos_iff h.srt s j hj'.2).2 hj'.1
     rw [kp_get hj'.2] at h3
     rcases List.mem_append.1 hy with hy | hy
     ·simp at hy; rw [hy]; rw [ese]; exact h3
     ·exact cmpS_lt h3 (bpos_ge h.srt hn y hy)
   ·show (b.l.take _ ++ [_] ++ b.l.drop _).length ≤ 8
    have := bpos_le b.l s
    simp; omega
   ·intro k hk
    rcases List.mem_append.1 hk with hk | hk
    ·rcases List.mem_append.1 hk with hk | hk
     ·exact h.kee k (List.mem_of_mem_take hk)
     ·simp at hk; rw [hk]; simpa using k2
    ·exact h.kee k (List.mem_of_mem_drop hk)
   ·intro k hk
    rcases List.mem_append.1 hk with hk | hk
    ·rcases List.mem_append.1 hk with hk | hk
     ·exact h.ft k (List.mem_of_mem_take hk)
     ·simp at hk; rw [hk]; exact eft
    ·exact h.ft k (List.mem_of_mem_drop hk)
  ·rw [if_pos (by simpa using h2)]; exact h
 ·rw [if_pos (by simpa using h1)]; exact h
theorem bhas_lt {l : List Kp} {s : Lb} (h : bhas l s = true) : bpos l s < l.length := by simp [bhas] at h; exact h.1
theorem takeB_inv {b : Bs} (h : BInv b) (s : Lb) (t v : Int) : BInv (takeB b s t v).1 := by
 unfold takeB
 by_cases h1 : wrongS s = 0
 ·rw [if_neg (by simp [h1])]
  by_cases h2 : Grain.inR t v = false
  ·rw [if_pos h2]; exact h
  rw [if_neg h2]
  by_cases h3 : t < b.hz
  ·rw [if_pos h3]; exact h
  rw [if_neg h3]
  by_cases h4 : bhas b.l s = true
  ·rw [if_pos h4]; exact putB_inv h (bhas_lt h4) t v
  ·rw [if_neg h4]; exact putN_inv h h1 (by simpa using h4) t v
 ·rw [if_pos h1]; exact h
theorem doB_inv {b : Bs} (h : BInv b) (d : Dn) : BInv (doB b d).1 := by
 unfold doB
 repeat' split
 ·exact takeB_inv h _ _ _
 ·exact rollB_inv h _
 ·exact forgB_inv h _ _
 ·exact h
 ·exact h
theorem playB_inv : ∀ (l : List Dn) {b : Bs}, BInv b → BInv (playB b l).1
 | [], _, h => h
 | d :: r, _, h => playB_inv r (doB_inv h d)
end Go.GrainU
namespace Grain
def bks (k tf tt st a tq : Int) : Pt := ⟨k, (max a tf + st - 1) / st * st, min tq tt / st * st⟩
def nx2 (s : Shf) (a tq : Int) : Pt :=
 if (bks 1 s.ff s.ft 10 a tq).t ≤ (bks 1 s.ff s.ft 10 a tq).f then ⟨0, a, tq⟩
 else if (bks 1 s.ff s.ft 10 a tq).f = a then bks 1 s.ff s.ft 10 a tq
 else ⟨0, a, (bks 1 s.ff s.ft 10 a tq).f⟩
def nxr (s : Shf) (a tq : Int) : Pt :=
 if (bks 2 s.cf s.ct 60 a tq).t ≤ (bks 2 s.cf s.ct 60 a tq).f then nx2 s a tq
 else if (bks 2 s.cf s.ct 60 a tq).f = a then bks 2 s.cf s.ct 60 a tq
 else nx2 s a (bks 2 s.cf s.ct 60 a tq).f
def chr (s : Shf) (tq : Int) : Nat → Int → List Pt → List Pt × Int
 | 0, _, out => (out, 0)
 | n + 1, a, out => if a < tq then (if may s (nxr s a tq) = true then chr s tq n (nxr s a tq).t (out ++ [nxr s a tq]) else ([], 10)) else (out, 0)
theorem chr_end {s : Shf} {tq a : Int} (h : ¬ a < tq) (n : Nat) (out : List Pt) : chr s tq n a out = (out, 0) := by
 cases n with
 | zero => rfl
 | succ n => simp [chr, h]
def Co (s : Shf) (tq x : Int) : Prop := x % 60 = 0 ∧ s.cf ≤ x ∧ x + 60 ≤ tq ∧ x + 60 ≤ s.ct
def Fi (s : Shf) (tq x : Int) : Prop := x % 10 = 0 ∧ s.ff ≤ x ∧ x + 10 ≤ tq ∧ x + 10 ≤ s.ft
theorem may2 {s : Shf} {tq x : Int} : (x + 60 ≤ tq ∧ may s ⟨2, x, x + 60⟩ = true) ↔ Co s tq x := by
 simp [may, Co]
 omega
theorem may1 {s : Shf} {tq x : Int} : (x + 10 ≤ tq ∧ may s ⟨1, x, x + 10⟩ = true) ↔ Fi s tq x := by
 simp [may, Fi]
 omega
theorem nxt_co {s : Shf} {tq x : Int} (h : Co s tq x) : nxt s x tq = ⟨2, x, x + 60⟩ := by
 unfold nxt; rw [if_pos (may2.2 h)]
theorem nxt_fi {s : Shf} {tq x : Int} (h : ¬ Co s tq x) (h' : Fi s tq x) : nxt s x tq = ⟨1, x, x + 10⟩ := by
 unfold nxt; rw [if_neg (fun e => h (may2.1 e)), if_pos (may1.2 h')]
theorem nxt_raw {s : Shf} {tq x : Int} (h : ¬ Co s tq x) (h' : ¬ Fi s tq x) : nxt s x tq = if s.ft ≤ x then ⟨0, x, tq⟩ else ⟨0, x, min tq (x - x % 10 + 10)⟩ := by
 unfold nxt; rw [if_neg (fun e => h (may2.1 e)), if_neg (fun e => h' (may1.1 e))]
inductive Run (s : Shf) (a tq : Int) : Pt → Prop where
 | co (T : Int) (h1 : a % 60 = 0) (h2 : s.cf ≤ a) (h3 : a < T) (h4 : T % 60 = 0) (h5 : T ≤ tq) (h6 : T ≤ s.ct) (h7 : tq < T + 60 ∨ s.ct < T + 60) : Run s a tq ⟨2, a, T⟩
 | fi (T : Int) (h1 : a % 10 = 0) (h2 : s.ff ≤ a) (h3 : a < T) (h4 : T % 10 = 0) (h5 : T ≤ tq) (h6 : T ≤ s.ft) (h7 : ∀ x, a ≤ x → x < T → ¬ Co s tq x) (h8 : tq < T + 10 ∨ s.ft < T + 10 ∨ Co s tq T) : Run s a tq ⟨1, a, T⟩
 | raw (T : Int) (h3 : a < T) (h4 : T = tq ∨ T % 10 = 0) (h5 : T ≤ tq) (h6 : ∀ x, a ≤ x → x < T → ¬ Co s tq x) (h7 : ∀ x, a ≤ x → x < T → ¬ Fi s tq x) (h8 : T = tq ∨ Co s tq T ∨ Fi s tq T) (h9 : T ≤ s.ft ∨ T = tq) : Run s a tq ⟨0, a, T⟩
theorem nx2_run {s : Shf} (sr : SR s) {a tq e : Int} (hae : a < e) (he : e = tq ∨ Co s tq e) (het : e ≤ tq) (hno : ∀ x, a ≤ x → x < e → ¬ Co s tq x) : Run s a tq (nx2 s a e) := by
 obtain ⟨f1, f2, f3, f4, f5⟩ := sr.fsp
 obtain ⟨c1, c2, c3, c4, c5⟩ := sr.csp
 obtain ⟨b1, b2, b3, b4⟩ := sr.bd
 have he10 : e = tq ∨ (e % 10 = 0 ∧ e + 60 ≤ s.ft) := by
  rcases he with h | h
  ·exact .inl h
  ·obtain ⟨q1, q2, q3, q4⟩ := h; exact .inr ⟨by omega, by omega⟩
 obtain ⟨F, hF⟩ : ∃ F, F = (max a s.ff + 10 - 1) / 10 * 10 := ⟨_, rfl⟩
 obtain ⟨T, hT⟩ : ∃ T, T = min e s.ft / 10 * 10 := ⟨_, rfl⟩
 have hF1 : a ≤ F ∧ s.ff ≤ F ∧ F % 10 = 0 ∧ (F < a + 10 ∨ F < s.ff + 10) := by rw [hF]; omega
 have hF2 : ∀ x, x % 10 = 0 → a ≤ x → s.ff ≤ x → F ≤ x := by intro x q1 q2 q3; rw [hF]; omega
 have hT1 : T ≤ e ∧ T ≤ s.ft ∧ T % 10 = 0 ∧ (e < T + 10 ∨ s.ft < T + 10) := by rw [hT]; omega
 unfold nx2 bks
 simp only
 rw [← hF, ← hT]
 clear hF hT
 by_cases h1 : T ≤ F
 ·rw [if_pos h1]
  refine .raw e hae (by rcases he10 with h | h; exact .inl h; exact .inr h.1) het hno ?_ (by rcases he with h | h; exact .inl h; exact .inr (.inl h)) (by rcases he10 with h | h; exact .inr h; exact .inl (by omega))
  intro x q1 q2 ⟨r1, r2, r3, r4⟩
  have := hF2 x r1 q1 r2
  rcases he10 with h | h <;> omega
 ·rw [if_neg h1]
  by_cases h2 : F = a
  ·rw [if_pos h2]
   rw [h2] at h1 hF1 hF2
   rw [h2]
   refine .fi T (by omega) (by omega) (by omega) hT1.2.2.1 (by omega) hT1.2.1 (fun x q1 q2 => hno x q1 (by omega)) ?_
   rcases he with h | h
   ·omega
   ·right; right
    have : T = e := by
     rcases he10 with q | q
     ·have := h.2.2.1; omega
     ·omega
    rw [this]; exact h
  ·rw [if_neg h2]
   refine .raw F (by omega) (.inr hF1.2.2.1) (by omega) (fun x q1 q2 => hno x q1 (by omega)) ?_ (.inr (.inr ⟨hF1.2.2.1, hF1.2.1, by omega, by omega⟩)) (.inl (by omega))
   intro x q1 q2 ⟨r1, r2, r3, r4⟩
   have := hF2 x r1 q1 r2
   omega
theorem nxr_run {s : Shf} (sr : SR s) {a tq : Int} (hto : a < tq) : Run s a tq (nxr s a tq) := by
 obtain ⟨f1, f2, f3, f4, f5⟩ := sr.fsp
 obtain ⟨c1, c2, c3, c4, c5⟩ := sr.csp
 obtain ⟨b1, b2, b3, b4⟩ := sr.bd
 obtain ⟨F, hF⟩ : ∃ F, F = (max a s.cf + 60 - 1) / 60 * 60 := ⟨_, rfl⟩
 obtain ⟨T, hT⟩ : ∃ T, T = min tq s.ct / 60 * 60 := ⟨_, rfl⟩
 have hF1 : a ≤ F ∧ s.cf ≤ F ∧ F % 60 = 0 := by rw [hF]; omega
 have hF2 : ∀ x, x % 60 = 0 → a ≤ x → s.cf ≤ x → F ≤ x := by intro x q1 q2 q3; rw [hF]; omega
 have hT1 : T ≤ tq ∧ T ≤ s.ct ∧ T % 60 = 0 ∧ (tq < T + 60 ∨ s.ct < T + 60) := by rw [hT]; omega
 unfold nxr
 have e1 : (bks 2 s.cf s.ct 60 a tq).f = F := by rw [hF]; rfl
 have e2 : (bks 2 s.cf s.ct 60 a tq).t = T := by rw [hT]; rfl
 have e3 : bks 2 s.cf s.ct 60 a tq = ⟨2, F, T⟩ := by rw [hF, hT]; rfl
 rw [e1, e2, e3]
 clear hF hT e1 e2 e3
 by_cases h1 : T ≤ F
 ·rw [if_pos h1]
  refine nx2_run sr hto (.inl rfl) (Int.le_refl _) ?_
  intro x q1 q2 ⟨r1, r2, r3, r4⟩
  have := hF2 x r1 q1 r2
  omega
 ·rw [if_neg h1]
  by_cases h2 : F = a
  ·rw [if_pos h2]
   rw [h2] at h1 hF1
   rw [h2]
   exact .co T hF1.2.2 hF1.2.1 (by omega) hT1.2.2.1 hT1.1 hT1.2.1 hT1.2.2.2
  ·rw [if_neg h2]
   refine nx2_run sr (by omega) (.inr ⟨hF1.2.2, hF1.2.1, by omega, by omega⟩) (by omega) ?_
   intro x q1 q2 ⟨r1, r2, r3, r4⟩
   have := hF2 x r1 q1 r2
   omega
theorem nxr_ft {s : Shf} (sr : SR s) {a tq : Int} (hto : a < tq) : (nxr s a tq).f = a ∧ (nxr s a tq).t ≤ tq ∧ a < (nxr s a tq).t := by
 have h := nxr_run sr hto
 generalize nxr s a tq = p at h
 cases h with
 | co T h1 h2 h3 h4 h5 h6 h7 => exact ⟨rfl, h5, h3⟩
 | fi T h1 h2 h3 h4 h5 h6 h7 h8 => exact ⟨rfl, h5, h3⟩
 | raw T h3 h4 h5 h6 h7 h8 h9 => exact ⟨rfl, h5, h3⟩
theorem run_other {s : Shf} {a tq : Int} {p : Pt} (h : Run s a tq p) : p.t = tq ∨ ∀ q, Run s p.t tq q → q.k ≠ p.k := by
 cases h with
 | co T h1 h2 h3 h4 h5 h6 h7 =>
  right
  intro q hq
  cases hq with
  | co U g1 g2 g3 g4 g5 g6 g7 => simp only at *; omega
  | fi U => simp
  | raw U => simp
 | fi T h1 h2 h3 h4 h5 h6 h7 h8 =>
  right
  intro q hq
  cases hq with
  | co U => simp
  | fi U g1 g2 g3 g4 g5 g6 g7 g8 =>
   simp only at *
   rcases h8 with e | e | e
   ·omega
   ·omega
   ·exact absurd e (g7 T (Int.le_refl _) g3)
  | raw U => simp
 | raw T h3 h4 h5 h6 h7 h8 h9 =>
  rcases h8 with e | e | e
  ·exact .inl e
  ·right
   intro q hq
   cases hq with
   | co U => simp
   | fi U => simp
   | raw U g3 g4 g5 g6 g7 g8 g9 => simp only at *; exact absurd e (g6 T (Int.le_refl _) g3)
  ·right
   intro q hq
   cases hq with
   | co U => simp
   | fi U => simp
   | raw U g3 g4 g5 g6 g7 g8 g9 => simp only at *; exact absurd e (g7 T (Int.le_refl _) g3)
theorem chs_fuel {s : Shf} {tq : Int} : ∀ (n m : Nat) (a : Int) (out : List Pt), (tq - a).toNat ≤ n → (tq - a).toNat ≤ m → chs s tq n a out = chs s tq m a out := by
 intro n
 induction n with
 | zero => intro m a out h1 h2; rw [chs_end (by omega), chs_end (by omega)]
 | succ n ih =>
  intro m a out h1 h2
  by_cases h : a < tq
  ·cases m with
   | zero => omega
   | succ m =>
    simp only [chs, if_pos h]
    by_cases hm : may s (nxt s a tq) = true
    ·rw [if_pos hm, if_pos hm]
     have := may_lt hm
     rw [nxt_f] at this
     exact ih m _ _ (by omega) (by omega)
    ·rw [if_neg hm, if_neg hm]
  ·rw [chs_end h, chs_end h]
theorem putP_two (out : List Pt) (k a b t : Int) : putP (putP out ⟨k, a, b⟩) ⟨k, b, t⟩ = putP out ⟨k, a, t⟩ := by
 rcases snoc_or out with rfl | ⟨r, q, rfl⟩
 ·rw [putP_nil, putP_nil]
  exact putP_same [] ⟨k, a, b⟩ ⟨k, b, t⟩ rfl
 ·by_cases e : q.k = k
  ·rw [putP_same r q ⟨k, a, b⟩ e, putP_same r q ⟨k, a, t⟩ e]
   exact putP_same r ⟨q.k, q.f, b⟩ ⟨k, b, t⟩ e
  ·rw [putP_other r q ⟨k, a, b⟩ e, putP_other r q ⟨k, a, t⟩ e]
   exact putP_same (r ++ [q]) ⟨k, a, b⟩ ⟨k, b, t⟩ rfl
theorem chs_run {s : Shf} {tq T k : Int} {I : Int → Prop} (hT : T ≤ tq) (step : ∀ x, I x → x < T → ∃ b, nxt s x tq = ⟨k, x, b⟩ ∧ x < b ∧ b ≤ T ∧ may s ⟨k, x, b⟩ = true ∧ I b) :
  ∀ (n : Nat) (a : Int) (out : List Pt) (m m' : Nat), I a → a < T → (T - a).toNat ≤ n → (tq - a).toNat ≤ m → (tq - T).toNat ≤ m' → chs s tq m a out = chs s tq m' T (putP out ⟨k, a, T⟩) := by
 intro n
 induction n with
 | zero => intro a out m m' _ h h1; omega
 | succ n ih =>
  intro a out m m' hI h h1 h2 h3
  obtain ⟨b, e, q1, q2, q3, q4⟩ := step a hI h
  cases m with
  | zero => omega
  | succ m =>
   simp only [chs, if_pos (show a < tq by omega), e, q3, if_true]
   by_cases hb : b = T
   ·subst hb
    exact chs_fuel _ _ _ _ (by omega) h3
   ·rw [ih b _ m m' q4 (by omega) (by omega) (by omega) h3, putP_two]
theorem putP_new {out : List Pt} {p : Pt} (h : ∀ q, out.getLast? = some q → q.k ≠ p.k) : putP out p = out ++ [p] := by
 rcases snoc_or out with rfl | ⟨r, q, rfl⟩
 ·rfl
 ·rw [putP_other r q p (h q (by simp))]
theorem chr_chs {s : Shf} (sr : SR s) {tq : Int} (hto : tq ≤ 1000000) : ∀ (n : Nat) (a : Int) (out : List Pt) (m : Nat), 0 ≤ a → (tq - a).toNat ≤ n → (tq - a).toNat ≤ m → (a < tq → ∀ q, out.getLast? = some q → q.k ≠ (nxr s a tq).k) → chr s tq n a out = chs s tq m a out := by
 obtain ⟨f1, f2, f3, f4, f5⟩ := sr.fsp
 obtain ⟨c1, c2, c3, c4, c5⟩ := sr.csp
 obtain ⟨b1, b2, b3, b4⟩ := sr.bd
 intro n
 induction n with
 | zero => intro a out m ha h1 h2 h3; rw [chr_end (by omega), chs_end (by omega)]
 | succ n ih =>
  intro a out m ha h1 h2 h3
  by_cases h : a < tq
  ·have hrun := nxr_run sr h
   have hnew := putP_new (h3 h)
   obtain ⟨p, hp⟩ : ∃ p, p = nxr s a tq := ⟨_, rfl⟩
   simp only [chr, if_pos h]
   rw [← hp] at hrun hnew ⊢
   have hnext : p.t ≤ tq → a < p.t → (p.t < tq → ∀ q, (out ++ [p]).getLast? = some q → q.k ≠ (nxr s p.t tq).k) := by
    intro hpt hap hlt q hq
    simp at hq
    rw [← hq]
    rcases run_other hrun with e | e
    ·omega
    ·exact fun e2 => e _ (nxr_run sr hlt) e2.symm
   cases hrun with
   | co T h1' h2' h3' h4 h5 h6 h7 =>
    have hm : may s ⟨2, a, T⟩ = true := by simp [may]; omega
    rw [if_pos hm, ih T _ (tq - T).toNat (by omega) (by simp only at *; omega) (by omega) (hnext h5 h3'), ← hnew]
    refine (chs_run (k := 2) (I := fun x => x % 60 = 0 ∧ a ≤ x) h5 ?_ _ a out m _ ⟨h1', Int.le_refl _⟩ h3' (Nat.le_refl _) h2 (Nat.le_refl _)).symm
    intro x ⟨g1, g2⟩ g3
    have hco : Co s tq x := ⟨g1, by omega, by omega, by omega⟩
    exact ⟨x + 60, nxt_co hco, by omega, by omega, (may2.2 hco).2, by omega, by omega⟩
   | fi T h1' h2' h3' h4 h5 h6 h7 h8 =>
    have hm : may s ⟨1, a, T⟩ = true := by simp [may]; omega
    rw [if_pos hm, ih T _ (tq - T).toNat (by omega) (by simp only at *; omega) (by omega) (hnext h5 h3'), ← hnew]
    refine (chs_run (k := 1) (I := fun x => x % 10 = 0 ∧ a ≤ x) h5 ?_ _ a out m _ ⟨h1', Int.le_refl _⟩ h3' (Nat.le_refl _) h2 (Nat.le_refl _)).symm
    intro x ⟨g1, g2⟩ g3
    have hfi : Fi s tq x := ⟨g1, by omega, by omega, by omega⟩
    exact ⟨x + 10, nxt_fi (h7 x g2 g3) hfi, by omega, by omega, (may1.2 hfi).2, by omega, by omega⟩
   | raw T h3' h4 h5 h6 h7 h8 h9 =>
    have hraw : ∀ x, a ≤ x → x < T → ∃ b, nxt s x tq = ⟨0, x, b⟩ ∧ x < b ∧ b ≤ T := by
     intro x g2 g3
     rw [nxt_raw (h6 x g2 g3) (h7 x g2 g3)]
     by_cases hf : s.ft ≤ x
     ·rw [if_pos hf]
      exact ⟨tq, rfl, by omega, by omega⟩
     ·rw [if_neg hf]
      exact ⟨_, rfl, by omega, by omega⟩
    by_cases hr : s.rf ≤ a
    ·have hm : may s ⟨0, a, T⟩ = true := by simp [may]; omega
     rw [if_pos hm, ih T _ (tq - T).toNat (by omega) (by simp only at *; omega) (by omega) (hnext h5 h3'), ← hnew]
     refine (chs_run (k := 0) (I := fun x => a ≤ x) h5 ?_ _ a out m _ (Int.le_refl _) h3' (Nat.le_refl _) h2 (Nat.le_refl _)).symm
     intro x g2 g3
     obtain ⟨b, q1, q2, q3⟩ := hraw x g2 g3
     exact ⟨b, q1, q2, q3, by simp [may]; omega, by omega⟩
    ·have hm : ¬ may s ⟨0, a, T⟩ = true := by simp [may]; omega
     rw [if_neg hm]
     obtain ⟨b, q1, q2, q3⟩ := hraw a (Int.le_refl _) h3'
     cases m with
     | zero => omega
     | succ m =>
      have hm2 : ¬ may s ⟨0, a, b⟩ = true := by simp [may]; omega
      simp only [chs, if_pos h, q1]
      rw [if_neg hm2]
  ·rw [chr_end h, chs_end h]
theorem choose_runs {s : Shf} (h : swrong s = 0) {f t : Int} (h0 : 0 ≤ f) (h1 : t ≤ 1000000) (n : Nat) (hn : (t - f).toNat ≤ n) : chr s t n f [] = chs s t (t - f).toNat f [] :=
 chr_chs ((sr_iff s).1 h) h1 n f [] _ h0 hn (Nat.le_refl _) (fun _ q hq => by simp at hq)
end Grain
