/-
  The order of words and of series.
-/
import Derived.Test.YtcgcefnfelmmkaaRefCmp
namespace Go.GrainU
open Go.RowKit

theorem less_irrefl : ∀ x : List UInt8, Op.bytesLess x x = false
  | [] => rfl
  | a :: x => by
    have h := less_irrefl x
    simp [Op.bytesLess, h, UInt8.lt_irrefl]

theorem less_asymm : ∀ x y : List UInt8, Op.bytesLess x y = true → Op.bytesLess y x = false
  | _, [], h => by simp [Op.bytesLess] at h
  | [], _ :: _, _ => rfl
  | a :: x, b :: y, h => by
    have ih := less_asymm x y
    simp only [Op.bytesLess, Bool.or_eq_true, Bool.and_eq_true, decide_eq_true_eq, beq_iff_eq, Bool.or_eq_false_iff, decide_eq_false_iff_not, Bool.and_eq_false_imp] at h ⊢
    rcases h with h | ⟨rfl, h⟩
    · refine ⟨fun h' => ?_, fun e => ?_⟩
      · rw [UInt8.lt_iff_toNat_lt] at h h'; omega
      · subst e; exact absurd h (UInt8.lt_irrefl _)
    · exact ⟨UInt8.lt_irrefl _, fun _ => ih h⟩

theorem less_total : ∀ x y : List UInt8, Op.bytesLess x y = false → x ≠ y → Op.bytesLess y x = true
  | [], [], _, h => absurd rfl h
  | [], _ :: _, h, _ => by simp [Op.bytesLess] at h
  | _ :: _, [], _, _ => rfl
  | a :: x, b :: y, h, hne => by
    have ih := less_total x y
    simp only [Op.bytesLess, Bool.or_eq_true, Bool.and_eq_true, decide_eq_true_eq, beq_iff_eq, Bool.or_eq_false_iff, decide_eq_false_iff_not, Bool.and_eq_false_imp] at h ⊢
    by_cases e : a = b
    · subst e
      exact .inr ⟨rfl, ih (h.2 rfl) (fun e => hne (by rw [e]))⟩
    · left
      have h1 := h.1
      rw [UInt8.lt_iff_toNat_lt] at h1 ⊢
      have : a.toNat ≠ b.toNat := fun e' => e (UInt8.toNat_inj.1 e')
      omega

theorem less_trans : ∀ x y z : List UInt8, Op.bytesLess x y = true → Op.bytesLess y z = true → Op.bytesLess x z = true
  | _, [], _, h, _ => by simp [Op.bytesLess] at h
  | _, _ :: _, [], _, h => by simp [Op.bytesLess] at h
  | [], _ :: _, _ :: _, _, _ => rfl
  | a :: x, b :: y, c :: z, h, h' => by
    have ih := less_trans x y z
    simp only [Op.bytesLess, Bool.or_eq_true, Bool.and_eq_true, decide_eq_true_eq, beq_iff_eq] at h h' ⊢
    rcases h with h | ⟨rfl, h⟩
    · rcases h' with h' | ⟨rfl, _⟩
      · left; rw [UInt8.lt_iff_toNat_lt] at *; omega
      · exact .inl h
    · rcases h' with h' | ⟨rfl, h'⟩
      · exact .inl h'
      · exact .inr ⟨rfl, ih h h'⟩

theorem cmpW_cases (x y : ByteArray) : (cmpW x y = -1 ∧ Op.bytesLess x.toList y.toList = true) ∨ (cmpW x y = 0 ∧ x = y) ∨ (cmpW x y = 1 ∧ Op.bytesLess y.toList x.toList = true) := by
  cases h : Op.bytesLess x.toList y.toList
  · by_cases e : x = y
    · exact .inr (.inl ⟨cmpW_eq h e, e⟩)
    · exact .inr (.inr ⟨cmpW_gt h e, less_total _ _ h (fun e' => e (toList_inj e'))⟩)
  · exact .inl ⟨cmpW_lt h, rfl⟩

theorem cmpW_self (x : ByteArray) : cmpW x x = 0 := cmpW_eq (less_irrefl _) rfl

theorem cmpW_back (x y : ByteArray) : cmpW y x = - cmpW x y := by
  rcases cmpW_cases x y with ⟨h, h'⟩ | ⟨h, rfl⟩ | ⟨h, h'⟩
  · have := less_asymm _ _ h'
    rw [h, cmpW_gt this (fun e => by subst e; rw [less_irrefl] at h'; cases h')]; rfl
  · rw [h]; rfl
  · rw [h, cmpW_lt h']

theorem cmpW_trans {x y z : ByteArray} (h : cmpW x y = -1) (h' : cmpW y z = -1) : cmpW x z = -1 := by
  rcases cmpW_cases x y with ⟨_, a⟩ | ⟨e, _⟩ | ⟨e, _⟩
  · rcases cmpW_cases y z with ⟨_, b⟩ | ⟨e, _⟩ | ⟨e, _⟩
    · exact cmpW_lt (less_trans _ _ _ a b)
    · omega
    · omega
  · omega
  · omega

/-- a series against another, label by label -/
def cmpL : List (ByteArray × ByteArray) → List (ByteArray × ByteArray) → Int
  | [], [] => 0
  | [], _ :: _ => -1
  | _ :: _, [] => 1
  | x :: r, y :: t => if cmpW x.1 y.1 ≠ 0 then cmpW x.1 y.1 else if cmpW x.2 y.2 ≠ 0 then cmpW x.2 y.2 else cmpL r t

theorem drop_lab {l : List (ByteArray × ByteArray)} {k : Nat} (h : k < l.length) : l.drop k = (lk l k, lv l k) :: l.drop (k + 1) := by
  rw [List.drop_eq_getElem_cons h]
  simp only [lk, lv, List.getD, List.getElem?_eq_getElem h, Option.getD_some]

theorem cmpF_L (a b : List (ByteArray × ByteArray)) : ∀ n k, k ≤ b.length → k + n = a.length → cmpF a b n k = cmpL (a.drop k) (b.drop k) := by
  intro n
  induction n with
  | zero =>
    intro k hk h
    rw [cmpF, List.drop_of_length_le (show a.length ≤ k from by omega)]
    by_cases e : a.length < b.length
    · rw [if_pos e, drop_lab (show k < b.length from by omega)]; rfl
    · rw [if_neg e, List.drop_of_length_le (show b.length ≤ k from by omega)]; rfl
  | succ n ih =>
    intro k hk h
    rw [cmpF, drop_lab (show k < a.length from by omega)]
    by_cases e : b.length ≤ k
    · rw [if_pos e, List.drop_of_length_le e]; rfl
    · rw [if_neg e, drop_lab (show k < b.length from by omega), cmpL, ih (k + 1) (by omega) (by omega)]

theorem cmpS_L (a b : List (ByteArray × ByteArray)) : cmpS a b = cmpL a b := by
  unfold cmpS
  rw [cmpF_L a b a.length 0 (by omega) (by omega)]
  simp

theorem cmpL_cases : ∀ a b : List (ByteArray × ByteArray), cmpL a b = -1 ∨ (cmpL a b = 0 ∧ a = b) ∨ cmpL a b = 1
  | [], [] => .inr (.inl ⟨rfl, rfl⟩)
  | [], _ :: _ => .inl rfl
  | _ :: _, [] => .inr (.inr rfl)
  | (x, y) :: r, (x', y') :: t => by
    have ih := cmpL_cases r t
    simp only [cmpL]
    rcases cmpW_cases x x' with ⟨h, _⟩ | ⟨h, rfl⟩ | ⟨h, _⟩
    · left; rw [h]; rfl
    · rw [h, if_neg (by simp)]
      rcases cmpW_cases y y' with ⟨h, _⟩ | ⟨h, rfl⟩ | ⟨h, _⟩
      · left; rw [h]; rfl
      · rw [h, if_neg (by simp)]
        rcases ih with ih | ⟨ih, rfl⟩ | ih
        · exact .inl ih
        · exact .inr (.inl ⟨ih, rfl⟩)
        · exact .inr (.inr ih)
      · right; right; rw [h]; rfl
    · right; right; rw [h]; rfl

theorem cmpL_self : ∀ a : List (ByteArray × ByteArray), cmpL a a = 0
  | [] => rfl
  | x :: r => by simp [cmpL, cmpW_self, cmpL_self r]

theorem cmpL_zero (a b : List (ByteArray × ByteArray)) : cmpL a b = 0 ↔ a = b := by
  refine ⟨fun h => ?_, fun h => by rw [h]; exact cmpL_self b⟩
  rcases cmpL_cases a b with e | ⟨_, e⟩ | e
  · omega
  · exact e
  · omega

theorem cmpL_back : ∀ a b : List (ByteArray × ByteArray), cmpL b a = - cmpL a b
  | [], [] => rfl
  | [], _ :: _ => rfl
  | _ :: _, [] => rfl
  | x :: r, y :: t => by
    have ih := cmpL_back r t
    simp only [cmpL]
    rw [cmpW_back x.1 y.1, cmpW_back x.2 y.2, ih]
    by_cases h : cmpW x.1 y.1 = 0
    · by_cases h' : cmpW x.2 y.2 = 0
      · simp [h, h']
      · simp [h, h']
    · simp [h]

theorem cmpL_trans : ∀ a b c : List (ByteArray × ByteArray), cmpL a b = -1 → cmpL b c = -1 → cmpL a c = -1
  | [], _, [], h, h' => by
    rename_i b
    cases b with
    | nil => simp [cmpL] at h
    | cons y t => simp [cmpL] at h'
  | [], _, _ :: _, _, _ => rfl
  | _ :: _, [], _, h, _ => by simp [cmpL] at h
  | _ :: _, _ :: _, [], _, h => by simp [cmpL] at h
  | (x, y) :: r, (x', y') :: t, (x'', y'') :: u, h, h' => by
    have ih := cmpL_trans r t u
    simp only [cmpL] at h h' ⊢
    rcases cmpW_cases x x' with ⟨e, _⟩ | ⟨e, rfl⟩ | ⟨e, _⟩
    · rcases cmpW_cases x' x'' with ⟨f, _⟩ | ⟨f, rfl⟩ | ⟨f, _⟩
      · rw [cmpW_trans e f]; rfl
      · rw [e]; rfl
      · rw [f] at h'; simp at h'
    · rw [e, if_neg (by simp)] at h
      rcases cmpW_cases x x'' with ⟨f, _⟩ | ⟨f, rfl⟩ | ⟨f, _⟩
      · rw [f]; rfl
      · rw [f, if_neg (by simp)] at h' ⊢
        rcases cmpW_cases y y' with ⟨e, _⟩ | ⟨e, rfl⟩ | ⟨e, _⟩
        · rcases cmpW_cases y' y'' with ⟨f, _⟩ | ⟨f, rfl⟩ | ⟨f, _⟩
          · rw [cmpW_trans e f]; rfl
          · rw [e]; rfl
          · rw [f] at h'; simp at h'
        · rw [e, if_neg (by simp)] at h
          rcases cmpW_cases y y'' with ⟨f, _⟩ | ⟨f, rfl⟩ | ⟨f, _⟩
          · rw [f]; rfl
          · rw [f, if_neg (by simp)] at h' ⊢
            exact ih h h'
          · rw [f] at h'; simp at h'
        · rw [e] at h; simp at h
      · rw [f] at h'; simp at h'
    · rw [e] at h; simp at h

end Go.GrainU
