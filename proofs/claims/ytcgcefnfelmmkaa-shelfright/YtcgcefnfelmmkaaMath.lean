/-
  The plain mathematics of the codec: samples as pairs of numbers, what is wrong with them, a number's bytes. No program is named here.
-/
namespace Grain

/-- the time of sample k -/
def tm (l : List (Int × Int)) (k : Nat) : Int := (l.getD k (0, 0)).1
/-- the value of sample k -/
def vl (l : List (Int × Int)) (k : Nat) : Int := (l.getD k (0, 0)).2

/-- a sample is in range -/
def inR (t v : Int) : Bool := decide (0 ≤ t ∧ t ≤ 1000000 ∧ -1000000000 ≤ v ∧ v ≤ 1000000000)

/-- what is wrong with sample k: 3, 2, or 0 -/
def bad (l : List (Int × Int)) (k : Nat) : Int :=
  if inR (tm l k) (vl l k) = false then 3 else if 0 < k ∧ tm l k ≤ tm l (k - 1) then 2 else 0

/-- what is wrong with the samples from k on, n of them -/
def wrongF (l : List (Int × Int)) : Nat → Nat → Int × Int
  | 0, _ => (0, 0)
  | n + 1, k => if bad l k = 0 then wrongF l n (k + 1) else (bad l k, k)

/-- what is wrong with samples, and at which -/
def wrong (l : List (Int × Int)) : Int × Int := if 500 < l.length then (5, 0) else wrongF l l.length 0

theorem wrongF_ok {l : List (Int × Int)} {n k : Nat} (h : bad l k = 0) : wrongF l (n + 1) k = wrongF l n (k + 1) := by simp [wrongF, h]
theorem wrongF_no {l : List (Int × Int)} {n k : Nat} (h : bad l k ≠ 0) : wrongF l (n + 1) k = (bad l k, (k : Int)) := by simp [wrongF, h]

/-- a number of either sign among those from 0 on -/
def fold (n : Int) : Int := if n < 0 then -2 * n - 1 else 2 * n

/-- a number by sevens of bits -/
def dig : Nat → Int → List Int
  | 0, u => [u]
  | f + 1, u => if u < 128 then [u] else (128 + u % 128) :: dig f (u / 128)

/-- a number's bytes -/
def num (n : Int) : List Int := dig 9 (fold n)

theorem fold_bd {n : Int} (h1 : -1099511627776 ≤ n) (h2 : n ≤ 1099511627776) : 0 ≤ fold n ∧ fold n ≤ 4398046511104 := by
  unfold fold; split <;> omega

/-- u has at most f + 1 sevens -/
def fits (f : Nat) (u : Int) : Prop := u < 128 ^ (f + 1)

theorem fits_start {u : Int} (h : u ≤ 4398046511104) : fits 9 u := by
  unfold fits; have : (128 : Int) ^ (9 + 1) = 1180591620717411303424 := by decide
  omega

theorem fits_zero {u : Int} (h : fits 0 u) : u < 128 := by
  unfold fits at h; simpa using h

theorem fits_succ {f : Nat} {u : Int} (h : fits (f + 1) u) : fits f (u / 128) := by
  unfold fits at *
  rw [Int.pow_succ] at h
  exact Int.ediv_lt_of_lt_mul (by decide) h

theorem dig_last {f : Nat} {u : Int} (h : u < 128) : dig f u = [u] := by
  cases f <;> simp [dig, h]

theorem dig_more {f : Nat} {u : Int} (h : ¬ u < 128) : dig (f + 1) u = (128 + u % 128) :: dig f (u / 128) := by
  simp [dig, h]

theorem dig_len (f : Nat) : ∀ u : Int, (dig f u).length ≤ f + 1 := by
  induction f with
  | zero => intro u; simp [dig]
  | succ f ih =>
    intro u
    by_cases h : u < 128
    · rw [dig_last h]; simp
    · rw [dig_more h]; have := ih (u / 128); simp; omega

theorem num_len (n : Int) : (num n).length ≤ 10 := dig_len 9 _

/-- the time, the value and the step of the sample ahead of sample k -/
def tp (l : List (Int × Int)) : Nat → Int | 0 => 0 | k + 1 => tm l k
def vp (l : List (Int × Int)) : Nat → Int | 0 => 0 | k + 1 => vl l k
def sp (l : List (Int × Int)) : Nat → Int | 0 => 0 | k + 1 => tm l k - tp l k

/-- the bytes up to sample k -/
def upTo (l : List (Int × Int)) : Nat → List Int
  | 0 => num l.length
  | k + 1 => (upTo l k ++ num (tm l k - tp l k - sp l k)) ++ num (vl l k - vp l k)

/-- samples' bytes -/
def bytes (l : List (Int × Int)) : List Int := upTo l l.length

theorem upTo_len (l : List (Int × Int)) (k : Nat) : (upTo l k).length ≤ 10 + 20 * k := by
  induction k with
  | zero => have := num_len l.length; simpa [upTo] using this
  | succ k ih =>
    have h1 := num_len (tm l k - tp l k - sp l k)
    have h2 := num_len (vl l k - vp l k)
    simp [upTo]; omega

/-- right samples -/
structure Right (l : List (Int × Int)) : Prop where
  few : l.length ≤ 500
  rng : ∀ k, k < l.length → 0 ≤ tm l k ∧ tm l k ≤ 1000000 ∧ -1000000000 ≤ vl l k ∧ vl l k ≤ 1000000000
  rise : ∀ k, k + 1 < l.length → tm l k < tm l (k + 1)

theorem bad_cases (l : List (Int × Int)) (k : Nat) : bad l k = 3 ∨ bad l k = 2 ∨ bad l k = 0 := by
  unfold bad; split
  · simp
  · split <;> simp

theorem bad_zero {l : List (Int × Int)} {k : Nat} (h : bad l k = 0) : inR (tm l k) (vl l k) = true ∧ (0 < k → tm l (k - 1) < tm l k) := by
  unfold bad at h
  split at h
  · simp at h
  · rename_i h1
    split at h
    · simp at h
    · rename_i h2
      refine ⟨by simpa using h1, fun hk => ?_⟩
      rcases Int.lt_or_le (tm l (k - 1)) (tm l k) with h3 | h3
      · exact h3
      · exact absurd ⟨hk, h3⟩ h2

theorem wrongF_zero (l : List (Int × Int)) (n : Nat) : ∀ k, (wrongF l n k).1 = 0 → ∀ j, k ≤ j → j < k + n → bad l j = 0 := by
  induction n with
  | zero => intro k _ j h1 h2; omega
  | succ n ih =>
    intro k h j h1 h2
    by_cases hb : bad l k = 0
    · rw [wrongF_ok hb] at h
      rcases Nat.lt_or_ge k j with h3 | h3
      · exact ih (k + 1) h j h3 (by omega)
      · rw [show j = k from by omega]; exact hb
    · rw [wrongF_no hb] at h; exact absurd h hb

theorem wrongF_snd (l : List (Int × Int)) (n : Nat) : ∀ k, (wrongF l n k).1 = 0 → wrongF l n k = (0, 0) := by
  induction n with
  | zero => intro k _; rfl
  | succ n ih =>
    intro k h
    by_cases hb : bad l k = 0
    · rw [wrongF_ok hb] at h ⊢; exact ih _ h
    · rw [wrongF_no hb] at h; exact absurd h hb

theorem wrong_zero {l : List (Int × Int)} (h : (wrong l).1 = 0) : wrong l = (0, 0) := by
  unfold wrong at *
  by_cases h5 : 500 < l.length
  · simp [h5] at h
  · simp only [h5, if_false] at *; exact wrongF_snd _ _ _ h

theorem right_of {l : List (Int × Int)} (h : (wrong l).1 = 0) : Right l := by
  unfold wrong at h
  by_cases h5 : 500 < l.length
  · simp [h5] at h
  · simp only [h5, if_false] at h
    have hb : ∀ j, j < l.length → _ := fun j hj => bad_zero (wrongF_zero l l.length 0 h j (Nat.zero_le _) (by omega))
    refine ⟨by omega, fun k hk => ?_, fun k hk => ?_⟩
    · have := (hb k hk).1; simp [inR] at this; omega
    · have := (hb (k + 1) hk).2 (by omega); simpa using this

theorem Right.ahead {l : List (Int × Int)} (h : Right l) (k : Nat) (hk : k < l.length) :
    0 ≤ tp l k ∧ tp l k ≤ 1000000 ∧ -1000000000 ≤ vp l k ∧ vp l k ≤ 1000000000 ∧ -1000000 ≤ sp l k ∧ sp l k ≤ 1000000 := by
  match k with
  | 0 => simp [tp, vp, sp]
  | k + 1 =>
    have h1 := h.rng k (by omega)
    match k with
    | 0 => simp [tp, vp, sp]; omega
    | k + 1 =>
      have h2 := h.rng k (by omega)
      simp [tp, vp, sp]; omega

/-! ### numbers read -/

def unf (u : Int) : Int := if u % 2 = 1 then -(u / 2) - 1 else u / 2

/-- byte i -/
def bt (bs : List Int) (i : Nat) : Int := bs.getD i 0

/-- the first i bytes by sevens of bits -/
def acc (bs : List Int) : Nat → Int
  | 0 => 0
  | i + 1 => acc bs i + bt bs i % 128 * 128 ^ i

/-- where the number ends, from byte i on, n of them -/
def scan (bs : List Int) : Nat → Nat → Option Nat
  | 0, _ => none
  | n + 1, i => if 128 ≤ bt bs i then scan bs n (i + 1) else if bt bs i = 0 ∧ 0 < i then none else some i

/-- the number that bytes begin with, and how many they are -/
def get (bs : List Int) : Option (Int × Nat) := (scan bs (min bs.length 6) 0).map fun i => (unf (acc bs (i + 1)), i + 1)

theorem scan_more {bs : List Int} {n i : Nat} (h : 128 ≤ bt bs i) : scan bs (n + 1) i = scan bs n (i + 1) := by simp [scan, h]
theorem scan_last {bs : List Int} {n i : Nat} (h : ¬ 128 ≤ bt bs i) (h' : ¬ (bt bs i = 0 ∧ 0 < i)) : scan bs (n + 1) i = some i := by simp [scan, h, h']
theorem scan_zero {bs : List Int} {n i : Nat} (h : bt bs i = 0) (h' : 0 < i) : scan bs (n + 1) i = none := by simp [scan, h, h']

theorem acc_bd (bs : List Int) (i : Nat) : 0 ≤ acc bs i ∧ acc bs i < 128 ^ i := by
  induction i with
  | zero => simp [acc]
  | succ i ih =>
    have h0 : 0 ≤ bt bs i % 128 := by omega
    have h1 : bt bs i % 128 ≤ 127 := by omega
    have hp : (0 : Int) < 128 ^ i := Int.pow_pos (by decide)
    have h2 : 0 ≤ bt bs i % 128 * 128 ^ i := Int.mul_nonneg h0 (Int.le_of_lt hp)
    have h3 : bt bs i % 128 * 128 ^ i ≤ 127 * 128 ^ i := Int.mul_le_mul_of_nonneg_right h1 (Int.le_of_lt hp)
    simp only [acc, Int.pow_succ]
    omega

theorem acc_le (bs : List Int) {k : Nat} (h : k < 6) : 0 ≤ acc bs (k + 1) ∧ acc bs (k + 1) ≤ 4398046511104 := by
  have h1 := acc_bd bs (k + 1)
  have h2 : (128 : Int) ^ (k + 1) ≤ 128 ^ 6 := by
    have : ((128 ^ (k + 1) : Nat) : Int) ≤ ((128 ^ 6 : Nat) : Int) := Int.ofNat_le.mpr (Nat.pow_le_pow_right (by decide) (by omega))
    simpa using this
  have h3 : (128 : Int) ^ 6 = 4398046511104 := by decide
  omega

/-- all are bytes -/
def AllB (bs : List Int) : Prop := ∀ x, x ∈ bs → 0 ≤ x ∧ x ≤ 255

theorem AllB.bt {bs : List Int} (h : AllB bs) (j : Nat) : 0 ≤ bt bs j ∧ bt bs j ≤ 255 := by
  unfold Grain.bt
  rcases Nat.lt_or_ge j bs.length with hj | hj
  · have := h bs[j] (List.getElem_mem hj); simpa [List.getD, List.getElem?_eq_getElem hj] using this
  · simp [List.getD, List.getElem?_eq_none hj]

theorem AllB.drop {bs : List Int} (h : AllB bs) (k : Nat) : AllB (bs.drop k) := fun x hx => h x (List.mem_of_mem_drop hx)

/-- the number that bytes begin with, and the bytes behind it -/
def getNum (bs : List Int) : Option (Int × List Int) :=
  match scan bs (min bs.length 6) 0 with
  | none => none
  | some i => some (unf (acc bs (i + 1)), bs.drop (i + 1))

theorem scan_lt (bs : List Int) (n : Nat) : ∀ i j, scan bs n i = some j → i ≤ j ∧ j < i + n := by
  induction n with
  | zero => intro i j h; simp [scan] at h
  | succ n ih =>
    intro i j h
    by_cases hb : 128 ≤ Grain.bt bs i
    · rw [scan_more hb] at h; have := ih _ _ h; omega
    · by_cases hz : Grain.bt bs i = 0 ∧ 0 < i
      · rw [scan_zero hz.1 hz.2] at h; simp at h
      · rw [scan_last hb hz] at h; simp at h; omega

theorem unf_bd {u : Int} (h0 : 0 ≤ u) (h1 : u ≤ 4398046511104) : -2199023255552 ≤ unf u ∧ unf u ≤ 2199023255552 := by
  unfold unf; split <;> omega

theorem getNum_some {bs : List Int} {d : Int} {r : List Int} (h : getNum bs = some (d, r)) :
    ∃ i, scan bs (min bs.length 6) 0 = some i ∧ i < 6 ∧ i < bs.length ∧ d = unf (acc bs (i + 1)) ∧ r = bs.drop (i + 1) ∧ -2199023255552 ≤ d ∧ d ≤ 2199023255552 := by
  unfold getNum at h
  cases hs : scan bs (min bs.length 6) 0 with
  | none => rw [hs] at h; simp at h
  | some i =>
    rw [hs] at h
    simp at h
    have := scan_lt _ _ _ _ hs
    have hb := acc_le bs (k := i) (by omega)
    have hu := unf_bd hb.1 hb.2
    exact ⟨i, rfl, by omega, by omega, h.1.symm, h.2.symm, by rw [← h.1]; exact hu.1, by rw [← h.1]; exact hu.2⟩

theorem getNum_none {bs : List Int} (h : getNum bs = none) : scan bs (min bs.length 6) 0 = none := by
  unfold getNum at h
  cases hs : scan bs (min bs.length 6) 0 with
  | none => rfl
  | some i => rw [hs] at h; simp at h

/-- n samples read, behind a time, a value and a step -/
def rdAll : Nat → List Int → Int → Int → Int → Option (List (Int × Int) × List Int)
  | 0, bs, _, _, _ => some ([], bs)
  | n + 1, bs, t, v, s =>
    match getNum bs with
    | none => none
    | some (d, r) =>
      match getNum r with
      | none => none
      | some (h, r') => (rdAll n r' (t + (s + d)) (v + h) (s + d)).map fun p => ((t + (s + d), v + h) :: p.1, p.2)

theorem rdAll_no1 {n : Nat} {bs : List Int} {t v s : Int} (h : getNum bs = none) : rdAll (n + 1) bs t v s = none := by simp [rdAll, h]
theorem rdAll_no2 {n : Nat} {bs r : List Int} {t v s d : Int} (h : getNum bs = some (d, r)) (h' : getNum r = none) : rdAll (n + 1) bs t v s = none := by simp [rdAll, h, h']
theorem rdAll_yes {n : Nat} {bs r r' : List Int} {t v s d h : Int} (h1 : getNum bs = some (d, r)) (h2 : getNum r = some (h, r')) :
    rdAll (n + 1) bs t v s = (rdAll n r' (t + (s + d)) (v + h) (s + d)).map fun p => ((t + (s + d), v + h) :: p.1, p.2) := by simp [rdAll, h1, h2]

/-- samples read from bytes, whatever is wrong with them, and what is left -/
def rd (bs : List Int) : Option (List (Int × Int) × List Int) :=
  match getNum bs with
  | none => none
  | some (n, r) => if n < 0 ∨ (r.length : Int) / 2 < n then none else rdAll n.toNat r 0 0 0

theorem rdAll_len (n : Nat) : ∀ bs t v s l q, rdAll n bs t v s = some (l, q) → l.length = n := by
  induction n with
  | zero => intro bs t v s l q h; simp [rdAll] at h; simp [h.1.symm]
  | succ n ih =>
    intro bs t v s l q h
    cases h1 : getNum bs with
    | none => rw [rdAll_no1 h1] at h; simp at h
    | some p1 =>
      obtain ⟨d, r⟩ := p1
      cases h2 : getNum r with
      | none => rw [rdAll_no2 h1 h2] at h; simp at h
      | some p2 =>
        obtain ⟨e, r'⟩ := p2
        rw [rdAll_yes h1 h2] at h
        cases h3 : rdAll n r' (t + (s + d)) (v + e) (s + d) with
        | none => rw [h3] at h; simp at h
        | some p3 =>
          rw [h3] at h
          simp at h
          have := ih _ _ _ _ p3.1 p3.2 (by rw [h3])
          rw [← h.1]; simp [this]

/-- where reading stands behind k samples -/
structure At (n : Nat) (r0 : List Int) (k : Nat) (rs : List Int) (pre : List (Int × Int)) (t v s : Int) : Prop where
  eq : rdAll n r0 0 0 0 = (rdAll (n - k) rs t v s).map fun p => (pre ++ p.1, p.2)
  len : pre.length = k
  sb : k ≤ 501 → -2199023255552 * (k : Int) ≤ s ∧ s ≤ 2199023255552 * (k : Int)
  tb : k ≤ 501 → -1101710651031552 * (k : Int) ≤ t ∧ t ≤ 1101710651031552 * (k : Int)
  vb : k ≤ 501 → -2199023255552 * (k : Int) ≤ v ∧ v ≤ 2199023255552 * (k : Int)

theorem At.start (n : Nat) (r0 : List Int) : At n r0 0 r0 [] 0 0 0 := ⟨by simp, rfl, by simp, by simp, by simp⟩

theorem At.next {n k : Nat} {r0 rs r r' : List Int} {pre : List (Int × Int)} {t v s d h : Int} (a : At n r0 k rs pre t v s) (hk : k < n) (h1 : getNum rs = some (d, r)) (h2 : getNum r = some (h, r')) :
    At n r0 (k + 1) r' (pre ++ [(t + (s + d), v + h)]) (t + (s + d)) (v + h) (s + d) := by
  obtain ⟨_, _, _, _, _, _, d0, d1⟩ := getNum_some h1
  obtain ⟨_, _, _, _, _, _, e0, e1⟩ := getNum_some h2
  refine ⟨?_, by simp [a.len], fun hk => ?_, fun hk => ?_, fun hk => ?_⟩
  · rw [a.eq, show n - k = (n - (k + 1)) + 1 from by omega, rdAll_yes h1 h2]
    cases rdAll (n - (k + 1)) r' (t + (s + d)) (v + h) (s + d) with
    | none => rfl
    | some p => simp
  · have := a.sb (by omega); omega
  · have h3 := a.sb (by omega); have h4 := a.tb (by omega); omega
  · have := a.vb (by omega); omega

theorem At.no1 {n k : Nat} {r0 rs : List Int} {pre : List (Int × Int)} {t v s : Int} (a : At n r0 k rs pre t v s) (hk : k < n) (h1 : getNum rs = none) : rdAll n r0 0 0 0 = none := by
  rw [a.eq, show n - k = (n - (k + 1)) + 1 from by omega, rdAll_no1 h1]; rfl
theorem At.no2 {n k : Nat} {r0 rs r : List Int} {pre : List (Int × Int)} {t v s d : Int} (a : At n r0 k rs pre t v s) (hk : k < n) (h1 : getNum rs = some (d, r)) (h2 : getNum r = none) : rdAll n r0 0 0 0 = none := by
  rw [a.eq, show n - k = (n - (k + 1)) + 1 from by omega, rdAll_no2 h1 h2]; rfl
theorem At.done {n : Nat} {r0 rs : List Int} {pre : List (Int × Int)} {t v s : Int} (a : At n r0 n rs pre t v s) : rdAll n r0 0 0 0 = some (pre, rs) := by
  rw [a.eq, Nat.sub_self]; simp [rdAll]

theorem getNum_bd {bs : List Int} {d : Int} {r : List Int} (h : getNum bs = some (d, r)) : -2199023255552 ≤ d ∧ d ≤ 2199023255552 := by
  obtain ⟨_, _, _, _, _, _, d0, d1⟩ := getNum_some h
  exact ⟨d0, d1⟩

theorem take_snoc {pre : List (Int × Int)} {x : Int × Int} (h : pre.length ≤ 500) : (pre ++ [x]).take 501 = pre.take 501 ++ [x] := by
  rw [List.take_of_length_le (by simp; omega), List.take_of_length_le (by omega)]

theorem take_same {pre : List (Int × Int)} {x : Int × Int} (h : 501 ≤ pre.length) : (pre ++ [x]).take 501 = pre.take 501 := List.take_append_of_le_length h

theorem tm_take {l : List (Int × Int)} {n k : Nat} (h : k < n) : tm (l.take n) k = tm l k ∧ vl (l.take n) k = vl l k := by
  unfold tm vl
  simp [List.getD, h]

theorem wrong_take (l : List (Int × Int)) : wrong (l.take 501) = wrong l := by
  by_cases h : l.length ≤ 501
  · rw [List.take_of_length_le h]
  · unfold wrong
    rw [if_pos (by simp; omega), if_pos (by omega)]

end Grain
