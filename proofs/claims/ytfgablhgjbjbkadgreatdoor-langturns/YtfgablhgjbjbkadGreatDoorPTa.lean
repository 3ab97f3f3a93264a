/-
  Signs, words and numbers that were written are read. No program is named here.
-/
import Derived.Test.YtfgablhgjbjbkadGreatDoorPL
namespace Go.GrainU
open Go.RowKit

/-- a text's bytes -/
def bl (s : ByteArray) : List UInt8 := s.data.toList

theorem bl_app (a b : ByteArray) : bl (a ++ b) = bl a ++ bl b := by simp [bl, ByteArray.data_append]
theorem bl_lit (l : List UInt8) : bl (lit l) = l := by simp [bl, lit]
theorem lit_bl (s : ByteArray) : lit (bl s) = s := by
  apply ByteArray.ext
  simp [bl, lit]
theorem bl_len (s : ByteArray) : (bl s).length = s.size := Array.length_toList

theorem skip_32 (r : List UInt8) : skip (32 :: r) = skip r := by simp [skip]
theorem skip_of {c : UInt8} (r : List UInt8) (h : (c == 32) = false) : skip (c :: r) = c :: r := by simp [skip, h]

theorem acc_hit {c : UInt8} {r r' : List UInt8} (h : skip r = c :: r') : acc [c] r = some r' := by
  unfold acc; rw [h]; simp [List.isPrefixOf]
theorem acc_miss {c d : UInt8} {r r' : List UInt8} (h : skip r = d :: r') (hne : (c == d) = false) : acc [c] r = none := by
  unfold acc; rw [h]; simp [List.isPrefixOf, hne]
theorem acc_nil {c : UInt8} {r : List UInt8} (h : skip r = []) : acc [c] r = none := by
  unfold acc; rw [h]; simp [List.isPrefixOf]
theorem acc_hit2 {c d : UInt8} {r r' : List UInt8} (h : skip r = c :: d :: r') : acc [c, d] r = some r' := by
  unfold acc; rw [h]; simp [List.isPrefixOf]
theorem acc_miss2 {c d e : UInt8} {r r' : List UInt8} (h : skip r = e :: r') (hne : (c == e) = false) : acc [c, d] r = none := by
  unfold acc; rw [h]; simp [List.isPrefixOf, hne]
theorem acc_32 (sg r : List UInt8) : acc sg (32 :: r) = acc sg r := by unfold acc; rw [skip_32]
theorem expe_hit {c : UInt8} {r r' : List UInt8} (h : skip r = c :: r') : expe [c] r = .ok r' := by unfold expe; rw [acc_hit h]

theorem take_app {p : UInt8 → Bool} {l r : List UInt8} (h : l.all p = true) (hr : ∀ c t, r = c :: t → p c = false) : (l ++ r).takeWhile p = l ∧ (l ++ r).dropWhile p = r := by
  induction l with
  | nil =>
    cases r with
    | nil => simp
    | cons c t => have := hr c t rfl; simp [this]
  | cons a l ih =>
    simp only [List.all_cons, Bool.and_eq_true] at h
    obtain ⟨i1, i2⟩ := ih h.2
    simp [h.1, i1, i2]

/-! numbers -/

theorem ofNat_digit {d : Nat} (h : d < 10) : digit (UInt8.ofNat (48 + d)) = true ∧ (UInt8.ofNat (48 + d)).toNat = 48 + d := by
  have h1 : (UInt8.ofNat (48 + d)).toNat = 48 + d := by
    rw [UInt8.toNat_ofNat']
    omega
  refine ⟨?_, h1⟩
  unfold digit
  rw [h1]
  simp
  omega

theorem dec_digit : ∀ u, (Go.Lib.decDigits u).all digit = true := by
  intro u
  induction u using Nat.strongRecOn with
  | _ u ih =>
    rw [Go.Lib.decDigits]
    split
    · rename_i h; simp only [List.all_cons, List.all_nil, Bool.and_true]; exact (ofNat_digit h).1
    · rename_i h
      rw [List.all_append, ih (u / 10) (by omega)]
      simp only [List.all_cons, List.all_nil, Bool.and_true, Bool.true_and]; exact (ofNat_digit (d := u % 10) (by omega)).1

theorem pu_app (b : List UInt8) : ∀ (a : List UInt8) (n v : Nat), Go.Lib.parseUint10 n a = .ok v → Go.Lib.parseUint10 n (a ++ b) = Go.Lib.parseUint10 v b := by
  intro a
  induction a with
  | nil => intro n v h; simp only [Go.Lib.parseUint10] at h; injection h with h; rw [h]; rfl
  | cons c r ih =>
    intro n v h
    simp only [Go.Lib.parseUint10, List.cons_append] at h ⊢
    split at h
    · rename_i h1
      rw [if_pos h1]
      split at h
      · cases h
      · rename_i h2
        rw [if_neg h2]
        split at h
        · cases h
        · rename_i h3
          rw [if_neg h3]
          exact ih _ _ h
    · cases h

theorem pu_dec : ∀ u, u ≤ 1000000 → Go.Lib.parseUint10 0 (Go.Lib.decDigits u) = .ok u := by
  intro u
  induction u using Nat.strongRecOn with
  | _ u ih =>
    intro hu
    rw [Go.Lib.decDigits]
    split
    · rename_i h
      have e := (ofNat_digit h).2
      simp only [Go.Lib.parseUint10]
      rw [e]
      rw [if_pos (by omega), if_neg (by omega), if_neg (by omega)]
      simp
    · rename_i h
      rw [pu_app _ _ _ _ (ih (u / 10) (by omega) (by omega))]
      have e := (ofNat_digit (d := u % 10) (by omega)).2
      simp only [Go.Lib.parseUint10]
      rw [e]
      rw [if_pos (by omega), if_neg (by omega), if_neg (by omega)]
      congr 1
      omega

theorem dec_cons : ∀ u, ∃ c t, Go.Lib.decDigits u = c :: t ∧ (10 ≤ u → c.toNat ≠ 48) ∧ (t ≠ [] → 10 ≤ u) := by
  intro u
  induction u using Nat.strongRecOn with
  | _ u ih =>
    rw [Go.Lib.decDigits]
    split
    · rename_i h; exact ⟨_, [], rfl, by omega, fun h => absurd rfl h⟩
    · rename_i h
      obtain ⟨c, t, e, h1, h2⟩ := ih (u / 10) (by omega)
      rw [e]
      refine ⟨c, t ++ [UInt8.ofNat (48 + u % 10)], rfl, fun _ => ?_, fun _ => by omega⟩
      by_cases h3 : 10 ≤ u / 10
      · exact h1 h3
      · have e2 : Go.Lib.decDigits (u / 10) = [UInt8.ofNat (48 + u / 10)] := by rw [Go.Lib.decDigits, dif_pos (by omega)]
        rw [e2] at e
        injection e with e _
        rw [← e, (ofNat_digit (d := u / 10) (by omega)).2]
        omega

theorem digit_bd {c : UInt8} (h : digit c = true) : 48 ≤ c.toNat ∧ c.toNat ≤ 57 := by
  unfold digit at h
  simp at h
  exact h

theorem ne_of_toNat {c d : UInt8} (h : c.toNat ≠ d.toNat) : (c == d) = false := by
  rw [beq_eq_false_iff_ne]
  exact fun e => h (by rw [e])

theorem itoa_cons {n : Int} (h0 : 0 ≤ n) : ∃ c t, Go.Lib.itoa n = c :: t ∧ digit c = true := by
  have e : Go.Lib.itoa n = Go.Lib.decDigits n.toNat := by unfold Go.Lib.itoa; rw [if_neg (by omega)]
  obtain ⟨c, t, e1, _, _⟩ := dec_cons n.toNat
  have hd := dec_digit n.toNat
  rw [e1] at hd
  simp only [List.all_cons, Bool.and_eq_true] at hd
  exact ⟨c, t, by rw [e, e1], hd.1⟩

theorem numb_read {a b n : Int} {r : List UInt8} (h0 : 0 ≤ n) (h1 : n ≤ 1000000) (ha : a ≤ n) (hb : n ≤ b) (hr : ∀ c t, r = c :: t → digit c = false) : numb a b (Go.Lib.itoa n ++ r) = .ok (n, r) := by
  obtain ⟨u, hu⟩ : ∃ u : Nat, n = u := ⟨n.toNat, by omega⟩
  have e : Go.Lib.itoa n = Go.Lib.decDigits u := by unfold Go.Lib.itoa; rw [if_neg (by omega)]; congr 1; omega
  obtain ⟨c, t, e1, h2, h3⟩ := dec_cons u
  have hd := dec_digit u
  have hp := pu_dec u (by omega)
  obtain ⟨t1, t2⟩ := take_app hd hr
  rw [e]
  have hc : digit c = true := by rw [e1] at hd; simp only [List.all_cons, Bool.and_eq_true] at hd; exact hd.1
  have hbd := digit_bd hc
  have hs : skip (Go.Lib.decDigits u ++ r) = Go.Lib.decDigits u ++ r := by
    rw [e1, List.cons_append]
    exact skip_of _ (ne_of_toNat (by show c.toNat ≠ 32; omega))
  have hat : Go.Lib.atoiAll (Go.Lib.decDigits u) = .ok n := by
    rw [e1] at hp ⊢
    simp only [Go.Lib.atoiAll, Go.Lib.parseMag]
    rw [if_neg (by omega : ¬ (c.toNat = 43 ∨ c.toNat = 45)), if_neg (by simp : ¬ (c :: t = [])), hp]
    simp only
    rw [if_neg (by omega), if_neg (by omega), if_neg (by omega), hu]
  unfold numb
  rw [hs, t1, t2, if_neg (by rw [e1]; simp), hat]
  have hok : numOk a b (Go.Lib.decDigits u) n = true := by
    unfold numOk
    simp only [Bool.and_eq_true, Bool.not_eq_true', Bool.and_eq_false_iff, decide_eq_true_eq, decide_eq_false_iff_not]
    refine ⟨?_, ha, hb⟩
    rw [e1]
    by_cases ht : t = []
    · left; rw [ht]; simp
    · right
      have := h2 (h3 ht)
      exact ne_of_toNat (by show c.toNat ≠ 48; exact this)
  simp only
  rw [if_pos hok]

/-! words -/

/-- a word: a letter, then letters, digits or lines; not too long -/
def wordy (l : List UInt8) : Prop := ∃ c t, l = c :: t ∧ letter c = true ∧ t.all wbyte = true ∧ t.length ≤ 11

theorem letter_bd {c : UInt8} (h : letter c = true) : 97 ≤ c.toNat ∧ c.toNat ≤ 122 := by
  unfold letter at h
  simp at h
  exact h

theorem letter_ne {c d : UInt8} (h : letter c = true) (hd : d.toNat < 97 ∨ 122 < d.toNat) : (c == d) = false := by
  have := letter_bd h
  exact ne_of_toNat (by omega)

theorem letter_ne' {c d : UInt8} (h : letter c = true) (hd : d.toNat < 97 ∨ 122 < d.toNat) : (d == c) = false := by
  have := letter_bd h
  exact ne_of_toNat (by omega)

theorem letter_no_digit {c : UInt8} (h : letter c = true) : digit c = false := by
  have := letter_bd h
  unfold digit
  simp
  omega

theorem wordy_skip {x : List UInt8} (h : wordy x) (r : List UInt8) : ∃ c t, x = c :: t ∧ letter c = true ∧ skip (x ++ r) = c :: (t ++ r) := by
  obtain ⟨c, t, rfl, h1, _, _⟩ := h
  exact ⟨c, t, rfl, h1, by rw [List.cons_append]; exact skip_of _ (letter_ne h1 (by decide))⟩

theorem anyW_read {x r : List UInt8} (h : wordy x) (hr : ∀ c t, r = c :: t → wbyte c = false) : anyW (x ++ r) = (x, r) := by
  obtain ⟨c, t, e, h1, hs⟩ := wordy_skip h r
  have hall : x.all wbyte = true := by
    obtain ⟨c, t, rfl, h1, h2, _⟩ := h
    simp only [List.all_cons, Bool.and_eq_true]
    exact ⟨by unfold wbyte; rw [h1]; rfl, h2⟩
  obtain ⟨t1, t2⟩ := take_app hall hr
  have hs' : skip (x ++ r) = x ++ r := by rw [hs, e]; rfl
  unfold anyW nxt
  rw [hs', t1, t2]
  rw [if_pos]
  rw [e]
  simpa using h1

theorem wrd_read {x r : List UInt8} (h : wordy x) (hr : ∀ c t, r = c :: t → wbyte c = false) : wrd (x ++ r) = .ok (x, r) := by
  unfold wrd
  rw [anyW_read h hr]
  obtain ⟨c, t, rfl, h1, h2, h3⟩ := h
  simp only
  rw [if_neg (by simp), if_neg (by simp; omega)]

theorem wrd_32 (r : List UInt8) : wrd (32 :: r) = wrd r := by
  unfold wrd anyW nxt
  rw [skip_32]
  split
  · rfl
  · simp

theorem wrdOf_32 (m : List ByteArray) (r : List UInt8) : wrdOf m (32 :: r) = wrdOf m r := by
  unfold wrdOf
  rw [wrd_32, skip_32]

theorem words1_32 (r : List UInt8) : words1 (32 :: r) = words1 r := by unfold words1; rw [wrd_32]

theorem lst_32 (m : Nat) (r : List UInt8) : lst words1 m (32 :: r) = lst words1 m r := by unfold lst; rw [words1_32]

theorem numb_32 (a b : Int) (r : List UInt8) : numb a b (32 :: r) = numb a b r := by unfold numb; rw [skip_32]

theorem fine_at {s : ByteArray} : ∀ n, Grain.fineN s n = true → ∀ k, k < n → Grain.badN k (Grain.byt s k) = false := by
  intro n
  induction n with
  | zero => intro _ k hk; omega
  | succ n ih =>
    intro h k hk
    simp only [Grain.fineN, Bool.and_eq_true, Bool.not_eq_true'] at h
    rcases (show k < n ∨ k = n from by omega) with e | e
    · exact ih h.1 k e
    · rw [e]; exact h.2

theorem fine_of {s : ByteArray} : ∀ n, (∀ k, k < n → Grain.badN k (Grain.byt s k) = false) → Grain.fineN s n = true := by
  intro n
  induction n with
  | zero => intro _; rfl
  | succ n ih =>
    intro h
    simp only [Grain.fineN, Bool.and_eq_true, Bool.not_eq_true']
    exact ⟨ih fun k hk => h k (by omega), h n (by omega)⟩

theorem low_letter (c : UInt8) : Grain.low (c.toNat : Int) = letter c := by
  unfold Grain.low letter
  congr 1
  · exact decide_eq_decide.2 (by omega)
  · exact decide_eq_decide.2 (by omega)

theorem badN_zero (c : UInt8) : Grain.badN 0 (c.toNat : Int) = false ↔ letter c = true := by
  unfold Grain.badN
  rw [low_letter]
  cases letter c <;> simp

theorem badN_succ (k : Nat) (c : UInt8) : Grain.badN (k + 1) (c.toNat : Int) = false ↔ wbyte c = true := by
  unfold Grain.badN wbyte
  rw [low_letter]
  cases letter c with
  | true => simp
  | false =>
    unfold digit
    simp
    by_cases e : c.toNat = 95
    · have : c = 95 := by apply UInt8.toNat_inj.1; exact e
      simp [this]
    · have : c ≠ 95 := fun h => e (by rw [h]; rfl)
      simp [this]
      omega

theorem bytL_at {s : ByteArray} {k : Nat} {c : UInt8} (h : (bl s)[k]? = some c) : Grain.byt s k = (c.toNat : Int) := by
  unfold Grain.byt
  unfold bl at h
  rw [List.getD_eq_getElem?_getD, h]
  rfl

theorem named_wordy {s : ByteArray} (h : Grain.named s = true) : wordy (bl s) := by
  unfold Grain.named at h
  simp only [Bool.and_eq_true, decide_eq_true_eq] at h
  obtain ⟨hf, h0, h1⟩ := h
  have hat := fine_at _ hf
  have hl := bl_len s
  cases hb : bl s with
  | nil => rw [hb] at hl; simp at hl; omega
  | cons c t =>
    rw [hb] at hl
    simp at hl
    refine ⟨c, t, rfl, ?_, ?_, by omega⟩
    · have := hat 0 (by omega)
      rw [bytL_at (c := c) (by rw [hb]; rfl)] at this
      exact (badN_zero c).1 this
    · rw [List.all_eq_true]
      intro d hd
      obtain ⟨k, hk, e⟩ := List.mem_iff_getElem.1 hd
      have := hat (k + 1) (by omega)
      rw [bytL_at (c := d) (by rw [hb, List.getElem?_cons_succ, List.getElem?_eq_getElem hk, e])] at this
      exact (badN_succ k d).1 this

theorem wordy_named {x : List UInt8} (h : wordy x) : Grain.named (lit x) = true := by
  obtain ⟨c, t, rfl, h1, h2, h3⟩ := h
  have hs : (lit (c :: t)).size = t.length + 1 := by rw [lit_size]; rfl
  unfold Grain.named
  simp only [Bool.and_eq_true, decide_eq_true_eq]
  refine ⟨fine_of _ ?_, by omega, by omega⟩
  intro k hk
  match k, hk with
  | 0, _ =>
    rw [bytL_at (c := c) (by rw [bl_lit]; rfl)]
    exact (badN_zero c).2 h1
  | k + 1, hk =>
    have hk' : k < t.length := by omega
    rw [bytL_at (c := t[k]) (by rw [bl_lit, List.getElem?_cons_succ, List.getElem?_eq_getElem hk'])]
    rw [List.all_eq_true] at h2
    exact (badN_succ k _).2 (h2 _ (List.getElem_mem hk'))

theorem take_sat (p : UInt8 → Bool) (l : List UInt8) : (l.takeWhile p).all p = true := by
  induction l with
  | nil => rfl
  | cons a r ih =>
    rw [List.takeWhile_cons]
    split
    · rename_i h; simp [h, ih]
    · rfl

theorem wrd_wordy {r x r' : List UInt8} (h : wrd r = .ok (x, r')) : wordy x := by
  unfold wrd at h
  split at h
  · cases h
  · rename_i h0
    split at h
    · cases h
    · rename_i h1
      injection h with h
      have hx : (anyW r).1 = x := by rw [h]
      rw [hx] at h0 h1
      unfold anyW at hx
      split at hx
      · rename_i hl
        simp only at hx
        cases hs : skip r with
        | nil => rw [hs] at hx; simp at hx; exact absurd hx h0
        | cons c t =>
          have hc : letter c = true := by unfold nxt at hl; rw [hs] at hl; simpa using hl
          rw [hs, List.takeWhile_cons, if_pos (by unfold wbyte; rw [hc]; rfl)] at hx
          rw [← hx]
          refine ⟨c, _, rfl, hc, take_sat _ _, ?_⟩
          rw [← hx] at h1
          simp at h1
          omega
      · simp only at hx; exact absurd hx.symm h0

end Go.GrainU
