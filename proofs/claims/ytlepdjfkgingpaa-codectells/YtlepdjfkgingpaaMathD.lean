/-
  The plain mathematics behind CodecTurns: what is written is read, in one way alone.
-/
import Derived.Test.YtlepdjfkgingpaaMathB
namespace Grain

/-- a number's sevens, behind the first byte -/
def getT : Nat → List Int → Option (Int × List Int)
  | 0, _ => none
  | _ + 1, [] => none
  | f + 1, x :: r => if 128 ≤ x then (getT f r).map (fun p => (x % 128 + 128 * p.1, p.2)) else if x = 0 then none else some (x, r)

/-- a number's sevens -/
def getH : List Int → Option (Int × List Int)
  | [] => none
  | x :: r => if 128 ≤ x then (getT 5 r).map (fun p => (x % 128 + 128 * p.1, p.2)) else some (x, r)

theorem bt_drop (bs : List Int) (i : Nat) (h : i < bs.length) : bs.drop i = bt bs i :: bs.drop (i + 1) := by
  rw [List.drop_eq_getElem_cons h]
  simp [bt, List.getD, List.getElem?_eq_getElem h]

theorem bt_small {bs : List Int} (hb : AllB bs) {i : Nat} (h : ¬ 128 ≤ bt bs i) : bt bs i % 128 = bt bs i := by
  have := hb.bt i; omega

theorem getT_scan (bs : List Int) (hb : AllB bs) (f : Nat) : ∀ i, 0 < i →
    (scan bs (min (bs.length - i) f) i = none → getT f (bs.drop i) = none) ∧
    (∀ j, scan bs (min (bs.length - i) f) i = some j → ∃ u, getT f (bs.drop i) = some (u, bs.drop (j + 1)) ∧ acc bs (j + 1) = acc bs i + 128 ^ i * u) := by
  induction f with
  | zero => intro i _; simp [scan, getT]
  | succ f ih =>
    intro i hi
    by_cases hl : i < bs.length
    · obtain ⟨q, hq⟩ : ∃ q, min (bs.length - i) (f + 1) = q + 1 := ⟨min (bs.length - i) (f + 1) - 1, by omega⟩
      have hq' : q = min (bs.length - (i + 1)) f := by omega
      rw [bt_drop bs i hl, hq]
      by_cases h1 : 128 ≤ bt bs i
      · rw [scan_more h1, hq']
        obtain ⟨a, b⟩ := ih (i + 1) (by omega)
        refine ⟨fun h => ?_, fun j h => ?_⟩
        · simp [getT, h1, a h]
        · obtain ⟨u, e1, e2⟩ := b j h
          refine ⟨bt bs i % 128 + 128 * u, by simp [getT, h1, e1], ?_⟩
          rw [e2]
          simp only [acc, Int.pow_succ, Int.mul_add]
          rw [Int.mul_comm (bt bs i % 128) (128 ^ i), Int.mul_assoc, Int.add_assoc]
      · by_cases h2 : bt bs i = 0
        · rw [scan_zero h2 hi]
          exact ⟨fun _ => by simp [getT, h2], fun j h => by simp at h⟩
        · rw [scan_last h1 (by omega)]
          refine ⟨fun h => by simp at h, fun j h => ?_⟩
          simp at h
          subst h
          refine ⟨bt bs i, by simp [getT, h1, h2], ?_⟩
          simp only [acc]
          rw [bt_small hb h1, Int.mul_comm]
    · rw [show min (bs.length - i) (f + 1) = 0 from by omega, List.drop_eq_nil_of_le (by omega)]
      simp [scan, getT]

theorem getNum_H (bs : List Int) (hb : AllB bs) : getNum bs = (getH bs).map fun p => (unf p.1, p.2) := by
  unfold getNum
  match bs, hb with
  | [], _ => simp [scan, getH]
  | x :: r, hb =>
    obtain ⟨q, hq⟩ : ∃ q, min (x :: r).length 6 = q + 1 := ⟨min (x :: r).length 6 - 1, by simp; omega⟩
    have hq' : q = min ((x :: r).length - 1) 5 := by simp at hq ⊢; omega
    have b0 : bt (x :: r) 0 = x := by simp [bt]
    have xb := hb x (by simp)
    rw [hq]
    by_cases h1 : 128 ≤ bt (x :: r) 0
    · rw [scan_more h1, hq']
      obtain ⟨a, b⟩ := getT_scan (x :: r) hb 5 1 (by decide)
      have h1' : 128 ≤ x := by rw [b0] at h1; exact h1
      rw [Nat.zero_add]
      cases hs : scan (x :: r) (min ((x :: r).length - 1) 5) 1 with
      | none => have := a hs; simp only [List.drop_one, List.tail_cons] at this; simp [getH, h1', this]
      | some j =>
        obtain ⟨u, e1, e2⟩ := b j hs
        simp only [List.drop_one, List.tail_cons] at e1
        have e3 : acc (x :: r) 1 = x % 128 := by simp [acc, b0]
        rw [e3] at e2
        simp only [getH, if_pos h1', e1, Option.map_some]
        rw [e2]; simp
    · rw [scan_last h1 (by omega)]
      have h1' : ¬ 128 ≤ x := by rw [b0] at h1; exact h1
      have e3 : acc (x :: r) 1 = x := by simp [acc, b0]; omega
      simp [getH, h1', e3]

theorem getT_dig (rest : List Int) (f : Nat) : ∀ g u, f ≤ g + 1 → 0 < u → u < 128 ^ f → getT f (dig g u ++ rest) = some (u, rest) := by
  induction f with
  | zero => intro g u _ h0 h1; simp at h1; omega
  | succ f ih =>
    intro g u hg h0 h1
    by_cases hu : u < 128
    · rw [dig_last hu]
      have : ¬ 128 ≤ u := by omega
      have : ¬ u = 0 := by omega
      simp [getT, *]
    · have hf : 0 < f := by
        rcases Nat.eq_zero_or_pos f with e | e
        · subst e; simp at h1; omega
        · exact e
      obtain ⟨g', rfl⟩ : ∃ g', g = g' + 1 := ⟨g - 1, by omega⟩
      rw [dig_more hu]
      rw [Int.pow_succ] at h1
      have h2 := ih g' (u / 128) (by omega) (by omega) (Int.ediv_lt_of_lt_mul (by decide) h1)
      have h3 : 128 ≤ 128 + u % 128 := by omega
      simp only [List.cons_append, getT, if_pos h3, h2, Option.map_some]
      congr 2
      omega

theorem getH_dig (rest : List Int) {u : Int} (h0 : 0 ≤ u) (h1 : u < 4398046511104) : getH (dig 9 u ++ rest) = some (u, rest) := by
  by_cases hu : u < 128
  · rw [dig_last hu]
    have : ¬ 128 ≤ u := by omega
    simp [getH, this]
  · rw [dig_more hu]
    have h2 := getT_dig rest 5 8 (u / 128) (by omega) (by omega) (by have : (128 : Int) ^ 5 = 34359738368 := by decide
                                                                     omega)
    have h3 : 128 ≤ 128 + u % 128 := by omega
    simp only [List.cons_append, getH, if_pos h3, h2, Option.map_some]
    congr 2
    omega

theorem unf_fold (n : Int) : unf (fold n) = n := by
  unfold fold
  split
  · unfold unf; rw [if_pos (by omega)]; omega
  · unfold unf; rw [if_neg (by omega)]; omega

theorem fold_unf {u : Int} (h : 0 ≤ u) : fold (unf u) = u := by
  unfold unf
  split
  · unfold fold; rw [if_pos (by omega)]; omega
  · unfold fold; rw [if_neg (by omega)]; omega

theorem dig_AllB (g : Nat) : ∀ u, 0 ≤ u → u < 128 ^ (g + 1) → AllB (dig g u) := by
  induction g with
  | zero => intro u h0 h1 x hx; simp [dig] at hx; simp at h1; omega
  | succ g ih =>
    intro u h0 h1 x hx
    by_cases hu : u < 128
    · rw [dig_last hu] at hx; simp at hx; omega
    · rw [dig_more hu] at hx
      simp at hx
      rcases hx with e | e
      · omega
      · rw [Int.pow_succ] at h1
        exact ih _ (by omega) (Int.ediv_lt_of_lt_mul (by decide) h1) x e

theorem num_AllB {n : Int} (h1 : -1099511627776 ≤ n) (h2 : n ≤ 1099511627776) : AllB (num n) := by
  have h := fold_bd h1 h2
  exact dig_AllB 9 _ h.1 (fits_start h.2)

theorem AllB.append {a b : List Int} (ha : AllB a) (hb : AllB b) : AllB (a ++ b) := fun x hx => by
  rcases List.mem_append.1 hx with h | h
  · exact ha x h
  · exact hb x h

/-- WHAT IS WRITTEN IS READ: a number -/
theorem getNum_num {n : Int} {rest : List Int} (h1 : -1099511627776 ≤ n) (h2 : n ≤ 1099511627776) (hr : AllB rest) : getNum (num n ++ rest) = some (n, rest) := by
  rw [getNum_H _ ((num_AllB h1 h2).append hr)]
  have h : 0 ≤ fold n ∧ fold n < 4398046511104 := by unfold fold; split <;> omega
  unfold num
  rw [getH_dig rest h.1 h.2]
  simp [unf_fold]

theorem getT_back (f : Nat) : ∀ g bs u r, f ≤ g + 1 → AllB bs → getT f bs = some (u, r) → bs = dig g u ++ r ∧ 0 < u := by
  induction f with
  | zero => intro g bs u r _ _ h; simp [getT] at h
  | succ f ih =>
    intro g bs u r hg hb h
    match bs, hb with
    | [], _ => simp [getT] at h
    | x :: t, hb =>
      have xb := hb x (by simp)
      by_cases h1 : 128 ≤ x
      · simp only [getT, if_pos h1] at h
        cases ht : getT f t with
        | none => rw [ht] at h; simp at h
        | some p =>
          obtain ⟨u', q⟩ := p
          rw [ht] at h
          simp at h
          obtain ⟨rfl, rfl⟩ := h
          have hf : 0 < f := by
            rcases Nat.eq_zero_or_pos f with e | e
            · subst e; simp [getT] at ht
            · exact e
          obtain ⟨g', rfl⟩ : ∃ g', g = g' + 1 := ⟨g - 1, by omega⟩
          obtain ⟨e1, e2⟩ := ih g' t u' q (by omega) (fun y hy => hb y (by simp [hy])) ht
          refine ⟨?_, by omega⟩
          rw [dig_more (by omega), show (x % 128 + 128 * u') / 128 = u' from by omega, show 128 + (x % 128 + 128 * u') % 128 = x from by omega, List.cons_append, ← e1]
      · simp only [getT, if_neg h1] at h
        by_cases h2 : x = 0
        · simp [h2] at h
        · simp only [if_neg h2, Option.some.injEq, Prod.mk.injEq] at h
          obtain ⟨rfl, rfl⟩ := h
          exact ⟨by rw [dig_last (by omega)]; rfl, by omega⟩

/-- IN ONE WAY ALONE: a number -/
theorem getNum_back {bs : List Int} {d : Int} {r : List Int} (hb : AllB bs) (h : getNum bs = some (d, r)) : bs = num d ++ r := by
  rw [getNum_H bs hb] at h
  match bs, hb with
  | [], _ => simp [getH] at h
  | x :: t, hb =>
    have xb := hb x (by simp)
    by_cases h1 : 128 ≤ x
    · simp only [getH, if_pos h1] at h
      cases ht : getT 5 t with
      | none => rw [ht] at h; simp at h
      | some p =>
        obtain ⟨u', q⟩ := p
        rw [ht] at h
        simp at h
        obtain ⟨rfl, rfl⟩ := h
        obtain ⟨e1, e2⟩ := getT_back 5 8 t u' q (by omega) (fun y hy => hb y (by simp [hy])) ht
        unfold num
        rw [fold_unf (by omega), dig_more (by omega), show (x % 128 + 128 * u') / 128 = u' from by omega, show 128 + (x % 128 + 128 * u') % 128 = x from by omega, List.cons_append, ← e1]
    · simp only [getH, if_neg h1] at h
      simp at h
      obtain ⟨rfl, rfl⟩ := h
      unfold num
      rw [fold_unf (by omega), dig_last (by omega)]; rfl

/-- the bytes of n samples from sample k on -/
def body (l : List (Int × Int)) : Nat → Nat → List Int
  | 0, _ => []
  | n + 1, k => num (tm l k - tp l k - sp l k) ++ (num (vl l k - vp l k) ++ body l n (k + 1))

theorem upTo_body (l : List (Int × Int)) (n : Nat) : ∀ k, upTo l k ++ body l n k = upTo l (k + n) := by
  induction n with
  | zero => intro k; simp [body]
  | succ n ih =>
    intro k
    rw [show k + (n + 1) = (k + 1) + n from by omega, ← ih (k + 1)]
    simp [body, upTo]

theorem bytes_body (l : List (Int × Int)) : bytes l = num l.length ++ body l l.length 0 := by
  have := upTo_body l l.length 0
  rw [Nat.zero_add] at this
  exact this.symm

theorem Right.nums {l : List (Int × Int)} (h : Right l) {k : Nat} (hk : k < l.length) :
    (-1099511627776 ≤ tm l k - tp l k - sp l k ∧ tm l k - tp l k - sp l k ≤ 1099511627776) ∧ (-1099511627776 ≤ vl l k - vp l k ∧ vl l k - vp l k ≤ 1099511627776) := by
  have h1 := h.rng k hk
  have h2 := h.ahead k hk
  omega

theorem body_AllB {l : List (Int × Int)} (h : Right l) (n : Nat) : ∀ k, k + n ≤ l.length → AllB (body l n k) := by
  induction n with
  | zero => intro k _ x hx; simp [body] at hx
  | succ n ih =>
    intro k hk
    have hn := h.nums (show k < l.length by omega)
    exact (num_AllB hn.1.1 hn.1.2).append ((num_AllB hn.2.1 hn.2.2).append (ih (k + 1) (by omega)))

theorem num_pos (n : Int) : 1 ≤ (num n).length := by
  unfold num
  by_cases a : fold n < 128
  · rw [dig_last a]; simp
  · rw [dig_more a]; simp

theorem body_len (l : List (Int × Int)) (n : Nat) : ∀ k, 2 * n ≤ (body l n k).length := by
  induction n with
  | zero => intro k; simp
  | succ n ih =>
    intro k
    have h1 := num_pos (tm l k - tp l k - sp l k)
    have h2 := num_pos (vl l k - vp l k)
    have := ih (k + 1)
    simp only [body, List.length_append]; omega

theorem drop_at {l : List (Int × Int)} {k : Nat} (h : k < l.length) : l.drop k = (tm l k, vl l k) :: l.drop (k + 1) := by
  have e : (tm l k, vl l k) = l[k] := by simp [tm, vl, List.getD, List.getElem?_eq_getElem h]
  rw [e]
  exact List.drop_eq_getElem_cons h

theorem tp_succ (l : List (Int × Int)) (k : Nat) : tp l (k + 1) = tm l k := rfl
theorem vp_succ (l : List (Int × Int)) (k : Nat) : vp l (k + 1) = vl l k := rfl
theorem sp_succ (l : List (Int × Int)) (k : Nat) : sp l (k + 1) = tm l k - tp l k := rfl

theorem rdAll_body {l : List (Int × Int)} (h : Right l) (n : Nat) : ∀ k, k + n = l.length → rdAll n (body l n k) (tp l k) (vp l k) (sp l k) = some (l.drop k, []) := by
  induction n with
  | zero => intro k hk; rw [List.drop_eq_nil_of_le (by omega)]; rfl
  | succ n ih =>
    intro k hk
    have hlt : k < l.length := by omega
    have hn := h.nums hlt
    have hb := body_AllB h n (k + 1) (by omega)
    have g1 := getNum_num (rest := num (vl l k - vp l k) ++ body l n (k + 1)) hn.1.1 hn.1.2 ((num_AllB hn.2.1 hn.2.2).append hb)
    have g2 := getNum_num (rest := body l n (k + 1)) hn.2.1 hn.2.2 hb
    show rdAll (n + 1) (num (tm l k - tp l k - sp l k) ++ (num (vl l k - vp l k) ++ body l n (k + 1))) (tp l k) (vp l k) (sp l k) = _
    rw [rdAll_yes g1 g2]
    have e1 : tp l k + (sp l k + (tm l k - tp l k - sp l k)) = tm l k := by omega
    have e2 : vp l k + (vl l k - vp l k) = vl l k := by omega
    have e3 : sp l k + (tm l k - tp l k - sp l k) = tm l k - tp l k := by omega
    rw [e1, e2, e3]
    have := ih (k + 1) (by omega)
    rw [tp_succ, vp_succ, sp_succ] at this
    rw [this, drop_at hlt]; rfl

/-- WHAT IS WRITTEN IS READ -/
theorem rd_bytes {l : List (Int × Int)} (h : Right l) : rd (bytes l) = some (l, []) := by
  have hb := body_AllB h l.length 0 (by omega)
  have hf := h.few
  have g := getNum_num (n := l.length) (rest := body l l.length 0) (by omega) (by omega) hb
  have hl := body_len l l.length 0
  rw [bytes_body]
  unfold rd
  rw [g]
  simp only
  rw [if_neg (by omega), Int.toNat_natCast]
  have := rdAll_body h l.length 0 (by omega)
  simpa [tp, vp, sp] using this

theorem rdAll_back (l : List (Int × Int)) (n : Nat) : ∀ k bs q, AllB bs → rdAll n bs (tp l k) (vp l k) (sp l k) = some (l.drop k, q) → bs = body l n k ++ q := by
  induction n with
  | zero => intro k bs q _ h; simp [rdAll] at h; simp [body, h.2]
  | succ n ih =>
    intro k bs q hb h
    cases h1 : getNum bs with
    | none => rw [rdAll_no1 h1] at h; simp at h
    | some p1 =>
      obtain ⟨d, r⟩ := p1
      cases h2 : getNum r with
      | none => rw [rdAll_no2 h1 h2] at h; simp at h
      | some p2 =>
        obtain ⟨e, r'⟩ := p2
        rw [rdAll_yes h1 h2] at h
        have hb1 : AllB r := by obtain ⟨i, _, _, _, _, hr, _⟩ := getNum_some h1; rw [hr]; exact hb.drop _
        have hb2 : AllB r' := by obtain ⟨i, _, _, _, _, hr, _⟩ := getNum_some h2; rw [hr]; exact hb1.drop _
        cases h3 : rdAll n r' (tp l k + (sp l k + d)) (vp l k + e) (sp l k + d) with
        | none => rw [h3] at h; simp at h
        | some p3 =>
          obtain ⟨l', q'⟩ := p3
          rw [h3] at h
          simp at h
          obtain ⟨e1, rfl⟩ := h
          have hlt : k < l.length := by
            rcases Nat.lt_or_ge k l.length with hh | hh
            · exact hh
            · rw [List.drop_eq_nil_of_le hh] at e1; cases e1
          rw [drop_at hlt] at e1
          simp at e1
          obtain ⟨⟨e2, e3⟩, e4⟩ := e1
          have s1 : sp l k + d = sp l (k + 1) := by rw [sp_succ]; omega
          have s2 : tp l k + (sp l k + d) = tp l (k + 1) := by rw [tp_succ]; omega
          have s3 : vp l k + e = vp l (k + 1) := by rw [vp_succ]; omega
          rw [s2, s3, s1, e4] at h3
          have := ih (k + 1) r' q' hb2 h3
          rw [getNum_back hb h1, getNum_back hb1 h2, this]
          rw [show d = tm l k - tp l k - sp l k from by omega, show e = vl l k - vp l k from by omega]
          simp [body]

/-- IN ONE WAY ALONE -/
theorem rd_back {bs : List Int} {l : List (Int × Int)} (hb : AllB bs) (h : rd bs = some (l, [])) : bs = bytes l := by
  unfold rd at h
  cases h1 : getNum bs with
  | none => rw [h1] at h; simp at h
  | some p =>
    obtain ⟨n, r⟩ := p
    rw [h1] at h
    simp only at h
    by_cases hq : n < 0 ∨ (r.length : Int) / 2 < n
    · rw [if_pos hq] at h; cases h
    · rw [if_neg hq] at h
      have hl := rdAll_len _ _ _ _ _ _ _ h
      have hb1 : AllB r := by obtain ⟨i, _, _, _, _, hr, _⟩ := getNum_some h1; rw [hr]; exact hb.drop _
      have := rdAll_back l n.toNat 0 r [] hb1 (by simpa [tp, vp, sp] using h)
      rw [bytes_body, getNum_back hb h1, this, hl, List.append_nil]
      rw [show ((n.toNat : Nat) : Int) = n from by omega]

theorem bytes_AllB {l : List (Int × Int)} (h : Right l) : AllB (bytes l) := by
  rw [bytes_body]
  have hf := h.few
  exact (num_AllB (by omega) (by omega)).append (body_AllB h l.length 0 (by omega))

end Grain
