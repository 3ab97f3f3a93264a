/-
  The order of words and of series.
-/
import Derived.Test.YthohkokhimdamaaGreatRows
import Derived.Test.YthohkokhimdamaaGreatP03
import Derived.Deep.RegionHeld3
import Derived.Laws.Cover1
/-
  The walk of the document's Compare.
-/
namespace Go.GrainU
open Go.RowKit

/-- a word against another -/
def cmpW (x y : ByteArray) : Int := if Op.bytesLess x.toList y.toList = true then -1 else if x = y then 0 else 1

/-- a series against another, from label k on, n of them -/
def cmpF (a b : List (ByteArray × ByteArray)) : Nat → Nat → Int
  | 0, _ => if a.length < b.length then -1 else 0
  | n + 1, k => if b.length ≤ k then 1 else if cmpW (lk a k) (lk b k) ≠ 0 then cmpW (lk a k) (lk b k) else if cmpW (lv a k) (lv b k) ≠ 0 then cmpW (lv a k) (lv b k) else cmpF a b n (k + 1)

/-- a series against another -/
def cmpS (a b : List (ByteArray × ByteArray)) : Int := cmpF a b a.length 0

theorem cmpW_lt {x y : ByteArray} (h : Op.bytesLess x.toList y.toList = true) : cmpW x y = -1 := by simp [cmpW, h]
theorem cmpW_eq {x y : ByteArray} (h : Op.bytesLess x.toList y.toList = false) (e : x = y) : cmpW x y = 0 := by simp only [cmpW, h, if_pos e]; rfl
theorem cmpW_gt {x y : ByteArray} (h : Op.bytesLess x.toList y.toList = false) (e : x ≠ y) : cmpW x y = 1 := by simp only [cmpW, h, if_neg e]; rfl

theorem four_cells {w : World} {B : Nat} {x0 x1 x2 x3 : Value} {t : TypeId} {fr : Nat × Nat} (h : w.heap[B]? = some (.cells #[x0, x1, x2, x3] t fr)) :
    w.cell? ⟨B, 0, none⟩ = some x0 ∧ w.cell? ⟨B, 1, none⟩ = some x1 ∧ w.cell? ⟨B, 2, none⟩ = some x2 ∧ w.cell? ⟨B, 3, none⟩ = some x3 := by
  simp [World.cell?, h]

end Go.GrainU
namespace Go.Proofs.YthohkokhimdamaaGreat
open Go.RowKit Go.GrainU

set_option maxHeartbeats 4000000 in
theorem rcmp_any (a b : List (ByteArray × ByteArray)) (ao bo : Option Addr) (n m c c' : Nat) (w : World) (ha : Seg w ao (lcells a)) (hb : Seg w bo (lcells b)) (hn : n = a.length) (hm : m = b.length) (hc : n ≤ 9223372036854775807) :
    Calls Tryz.prog 25 #[.slice ao n c, .slice bo m c'] w fun e w' => e = .returned (.int .i64 (cmpS a b)) ∧ Below w.heap.size w w' := by
  have hS : cmpS a b = cmpF a b n 0 := by rw [hn]; rfl
  rw [hS]
  clear hS
  have HN := hide hn
  have HM := hide hm
  clear hn hm
  go_enter Tryz.func25, Tryz.ntmps25
  go_wp2
  go_loopw [10] (fun i wr => ∃ k : Nat, k ≤ n ∧ i = .int .i64 k ∧ Hid (cmpF a b n 0 = cmpF a b (n - k) k) ∧ Below w.heap.size w wr) (fun i _ => n - (intOf i).toNat)
  case atStart => exact ⟨0, Nat.zero_le _, rfl, rfl, Below.refl _ _⟩
  case round =>
    obtain ⟨k, hk, rfl, HW, bel⟩ := hrel
    have hsz := bel.size
    by_cases hlt : k < n
    · have hka : k < a.length := by rw [← HN.out]; exact hlt
      have HS : Hid (cmpF a b n 0 = if m ≤ k then 1 else if cmpW (lk a k) (lk b k) ≠ 0 then cmpW (lk a k) (lk b k) else if cmpW (lv a k) (lv b k) ≠ 0 then cmpW (lv a k) (lv b k) else cmpF a b (n - (k + 1)) (k + 1)) := by
        show _ = _
        rw [HW.out, show n - k = (n - (k + 1)) + 1 from by omega, cmpF, HM.out]
      by_cases hkm : k < m
      · have hkb : k < b.length := by rw [← HM.out]; exact hkm
        obtain ⟨p, off, rfl, hbl, hcell⟩ := seg_label ha hka
        obtain ⟨p', off', rfl, hbl', hcell'⟩ := seg_label hb hkb
        obtain ⟨x, hx⟩ : ∃ x, x = lk a k := ⟨_, rfl⟩
        obtain ⟨y, hy⟩ : ∃ y, y = lv a k := ⟨_, rfl⟩
        obtain ⟨x', hx'⟩ : ∃ x, x = lk b k := ⟨_, rfl⟩
        obtain ⟨y', hy'⟩ : ∃ y, y = lv b k := ⟨_, rfl⟩
        have c0 : wr.cell? ⟨p, off + k * 2, none⟩ = some (.string x) := by rw [hx]; exact (bel.cell (by exact hbl)).trans (hcell k hka).1
        have c1 : wr.cell? ⟨p, off + k * 2 + 1, none⟩ = some (.string y) := by rw [hy]; exact (bel.cell (by exact hbl)).trans (hcell k hka).2
        have d0 : wr.cell? ⟨p', off' + k * 2, none⟩ = some (.string x') := by rw [hx']; exact (bel.cell (by exact hbl')).trans (hcell' k hkb).1
        have d1 : wr.cell? ⟨p', off' + k * 2 + 1, none⟩ = some (.string y') := by rw [hy']; exact (bel.cell (by exact hbl')).trans (hcell' k hkb).2
        have HS' : Hid (cmpF a b n 0 = if cmpW x x' ≠ 0 then cmpW x x' else if cmpW y y' ≠ 0 then cmpW y y' else cmpF a b (n - (k + 1)) (k + 1)) := by
          show _ = _
          rw [HS.out, if_neg (by omega), hx, hy, hx', hy']
        clear hx hy hx' hy' hcell hcell' hka hkb HS HW
        have kk : ¬ ((m : Int) ≤ (k : Int)) := by omega
        have k1 : (k : Int) < (n : Int) := by omega
        have k2 : (k : Int) < (m : Int) := by omega
        go_wp2_with fail
        go_region_held3 (fun w' => w'.cell? ⟨p, off + k * 2, none⟩ = some (.string x) ∧ w'.cell? ⟨p, off + k * 2 + 1, none⟩ = some (.string y) ∧ w'.cell? ⟨p', off' + k * 2, none⟩ = some (.string x') ∧ w'.cell? ⟨p', off' + k * 2 + 1, none⟩ = some (.string y')) (go_keep) (fail)
        obtain ⟨X, hX⟩ : ∃ X, X = wr.heap.size := ⟨_, rfl⟩
        obtain ⟨V, hV⟩ : ∃ V, V = (wr.alloc (.cells #[.string x, .string x', .string y, .string y'] 93)).drew := ⟨_, rfl⟩
        have F : V.heap[X]? = some (.cells #[.string x, .string x', .string y, .string y'] 93 (0, 0)) := by rw [hV, hX]; exact heap_alloc_new wr _
        have belV : Below w.heap.size w V := by rw [hV]; exact below_drewN (bel.alloc hsz _) 1
        rw [← hV, ← hX]
        clear hV hX bel hsz c0 c1 d0 d1
        go_wp2
        go_loopw [41] (fun q wq => ∃ j : Nat, j ≤ 2 ∧ q = .int .i64 j ∧ Hid ((1 ≤ j → cmpW x x' = 0) ∧ (2 ≤ j → cmpW y y' = 0)) ∧ wq.heap[X]? = some (.cells #[.string x, .string x', .string y, .string y'] 93 (0, 0)) ∧ Below w.heap.size w wq) (fun q _ => 2 - (intOf q).toNat)
        case atStart => exact ⟨0, by omega, rfl, ⟨fun h => by omega, fun h => by omega⟩, F, belV⟩
        case round =>
          clear F belV
          obtain ⟨j, hj, rfl, HI, F, belq⟩ := hrel
          have hsq := belq.size
          obtain ⟨f0, f1, f2, f3⟩ := four_cells F
          have hXq : X < wr.heap.size := lt_of_block F
          by_cases hj2 : j < 2
          · have blk : ∀ o, (wr.alloc o).heap[X]? = some (.cells #[.string x, .string x', .string y, .string y'] 93 (0, 0)) := fun o => by
              rw [Below.heap_alloc _ _ _ hXq]; exact F
            rcases (show j = 0 ∨ j = 1 from by omega) with hj0 | hj0
            · subst hj0
              cases hl : Op.bytesLess x.toList x'.toList with
              | true =>
                have hw : Hid (cmpF a b n 0 = -1) := by
                  show _ = _
                  rw [HS'.out, cmpW_lt hl, if_pos (by decide)]
                clear HS' HI
                go_wp2
                go_ret
                exact ⟨ret_int hw.out.symm, belq.alloc hsq _⟩
              | false =>
                by_cases he : x = x'
                · have hI' : Hid ((1 ≤ 0 + 1 → cmpW x x' = 0) ∧ (2 ≤ 0 + 1 → cmpW y y' = 0)) := ⟨fun _ => cmpW_eq hl he, fun h => by omega⟩
                  have hq := cmpW_eq hl he
                  subst he
                  obtain ⟨v1, v2⟩ := word_self x
                  clear HI hq
                  go_wp2
                  go_roundw
                  case rel => exact ⟨0 + 1, by omega, by go_num, hI', blk _, belq.alloc hsq _⟩
                  case measure => simp [intOf]
                · have hw : Hid (cmpF a b n 0 = 1) := by
                    show _ = _
                    rw [HS'.out, cmpW_gt hl he, if_pos (by decide)]
                  obtain ⟨v1, v2⟩ := word_ne he
                  clear HS' HI he
                  go_wp2
                  go_ret
                  exact ⟨ret_int hw.out.symm, belq.alloc hsq _⟩
            · subst hj0
              cases hl : Op.bytesLess y.toList y'.toList with
              | true =>
                have hw : Hid (cmpF a b n 0 = -1) := by
                  show _ = _
                  rw [HS'.out, if_neg (by rw [HI.out.1 (by omega)]; simp), cmpW_lt hl, if_pos (by decide)]
                clear HS' HI
                go_wp2
                go_ret
                exact ⟨ret_int hw.out.symm, belq.alloc hsq _⟩
              | false =>
                by_cases he : y = y'
                · have hI' : Hid ((1 ≤ 1 + 1 → cmpW x x' = 0) ∧ (2 ≤ 1 + 1 → cmpW y y' = 0)) := ⟨fun _ => HI.out.1 (by omega), fun _ => cmpW_eq hl he⟩
                  have hq := cmpW_eq hl he
                  subst he
                  obtain ⟨v1, v2⟩ := word_self y
                  clear HI hq
                  go_wp2
                  go_roundw
                  case rel => exact ⟨1 + 1, by omega, by go_num, hI', blk _, belq.alloc hsq _⟩
                  case measure => simp [intOf]
                · have hw : Hid (cmpF a b n 0 = 1) := by
                    show _ = _
                    rw [HS'.out, if_neg (by rw [HI.out.1 (by omega)]; simp), cmpW_gt hl he, if_pos (by decide)]
                  obtain ⟨v1, v2⟩ := word_ne he
                  clear HS' HI he
                  go_wp2
                  go_ret
                  exact ⟨ret_int hw.out.symm, belq.alloc hsq _⟩
          · have he : j = 2 := by omega
            subst he
            have hw : Hid (cmpF a b n 0 = cmpF a b (n - (k + 1)) (k + 1)) := by
              show _ = _
              rw [HS'.out, if_neg (by rw [HI.out.1 (by omega)]; simp), if_neg (by rw [HI.out.2 (by omega)]; simp)]
            clear HS' HI
            go_wp2
            go_roundw
            case rel => exact ⟨k + 1, by omega, by go_num, hw, belq⟩
            case measure => simp [intOf]; omega
      · have hw : Hid (cmpF a b n 0 = 1) := by
          show _ = _
          rw [HS.out, if_pos (by omega)]
        have kk : (m : Int) ≤ (k : Int) := by omega
        clear HS HW hka
        go_wp2
        go_ret
        exact ⟨ret_int hw.out.symm, bel⟩
    · have he : k = n := by omega
      subst he
      by_cases hl : k < m
      · have hw : Hid (cmpF a b k 0 = -1) := by
          show _ = _
          rw [HW.out, Nat.sub_self, cmpF, if_pos (by rw [← HN.out, ← HM.out]; exact hl)]
        have hd : decide ((k : Int) < (m : Int)) = true := by simpa using hl
        clear HW
        go_wp2
        go_ret
        exact ⟨ret_int hw.out.symm, bel⟩
      · have hw : Hid (cmpF a b k 0 = 0) := by
          show _ = _
          rw [HW.out, Nat.sub_self, cmpF, if_neg (by rw [← HN.out, ← HM.out]; exact hl)]
        have hd : decide ((k : Int) < (m : Int)) = false := by simp; omega
        clear HW
        go_wp2
        go_ret
        exact ⟨ret_int hw.out.symm, bel⟩

end Go.Proofs.YthohkokhimdamaaGreat

/-
  The order of words and of series.
-/
namespace Go.GrainU
open Go.RowKit

theorem less_irrefl : ∀ x : List UInt8, Op.bytesLess x x = false
  | [] => rfl
  | a :: x => by
    have h := less_irrefl x
    simp [Op.bytesLess, h, UInt8.lt_irrefl]

theorem less_asymm : ∀ x y : List UInt8, Op.bytesLess x y = true → Op.bytesLess y x = false
  | _, [], h => by simp [Op.bytesLess] at h
  | [], _ :: _, _ => rfl
  | a :: x, b :: y, h => by
    have ih := less_asymm x y
    simp only [Op.bytesLess, Bool.or_eq_true, Bool.and_eq_true, decide_eq_true_eq, beq_iff_eq, Bool.or_eq_false_iff, decide_eq_false_iff_not, Bool.and_eq_false_imp] at h ⊢
    rcases h with h | ⟨rfl, h⟩
    · refine ⟨fun h' => ?_, fun e => ?_⟩
      · rw [UInt8.lt_iff_toNat_lt] at h h'; omega
      · subst e; exact absurd h (UInt8.lt_irrefl _)
    · exact ⟨UInt8.lt_irrefl _, fun _ => ih h⟩

theorem less_total : ∀ x y : List UInt8, Op.bytesLess x y = false → x ≠ y → Op.bytesLess y x = true
  | [], [], _, h => absurd rfl h
  | [], _ :: _, h, _ => by simp [Op.bytesLess] at h
  | _ :: _, [], _, _ => rfl
  | a :: x, b :: y, h, hne => by
    have ih := less_total x y
    simp only [Op.bytesLess, Bool.or_eq_true, Bool.and_eq_true, decide_eq_true_eq, beq_iff_eq, Bool.or_eq_false_iff, decide_eq_false_iff_not, Bool.and_eq_false_imp] at h ⊢
    by_cases e : a = b
    · subst e
      exact .inr ⟨rfl, ih (h.2 rfl) (fun e => hne (by rw [e]))⟩
    · left
      have h1 := h.1
      rw [UInt8.lt_iff_toNat_lt] at h1 ⊢
      have : a.toNat ≠ b.toNat := fun e' => e (UInt8.toNat_inj.1 e')
      omega

theorem less_trans : ∀ x y z : List UInt8, Op.bytesLess x y = true → Op.bytesLess y z = true → Op.bytesLess x z = true
  | _, [], _, h, _ => by simp [Op.bytesLess] at h
  | _, _ :: _, [], _, h => by simp [Op.bytesLess] at h
  | [], _ :: _, _ :: _, _, _ => rfl
  | a :: x, b :: y, c :: z, h, h' => by
    have ih := less_trans x y z
    simp only [Op.bytesLess, Bool.or_eq_true, Bool.and_eq_true, decide_eq_true_eq, beq_iff_eq] at h h' ⊢
    rcases h with h | ⟨rfl, h⟩
    · rcases h' with h' | ⟨rfl, _⟩
      · left; rw [UInt8.lt_iff_toNat_lt] at *; omega
      · exact .inl h
    · rcases h' with h' | ⟨rfl, h'⟩
      · exact .inl h'
      · exact .inr ⟨rfl, ih h h'⟩

theorem cmpW_cases (x y : ByteArray) : (cmpW x y = -1 ∧ Op.bytesLess x.toList y.toList = true) ∨ (cmpW x y = 0 ∧ x = y) ∨ (cmpW x y = 1 ∧ Op.bytesLess y.toList x.toList = true) := by
  cases h : Op.bytesLess x.toList y.toList
  · by_cases e : x = y
    · exact .inr (.inl ⟨cmpW_eq h e, e⟩)
    · exact .inr (.inr ⟨cmpW_gt h e, less_total _ _ h (fun e' => e (toList_inj e'))⟩)
  · exact .inl ⟨cmpW_lt h, rfl⟩

theorem cmpW_self (x : ByteArray) : cmpW x x = 0 := cmpW_eq (less_irrefl _) rfl

theorem cmpW_back (x y : ByteArray) : cmpW y x = - cmpW x y := by
  rcases cmpW_cases x y with ⟨h, h'⟩ | ⟨h, rfl⟩ | ⟨h, h'⟩
  · have := less_asymm _ _ h'
    rw [h, cmpW_gt this (fun e => by subst e; rw [less_irrefl] at h'; cases h')]; rfl
  · rw [h]; rfl
  · rw [h, cmpW_lt h']

theorem cmpW_trans {x y z : ByteArray} (h : cmpW x y = -1) (h' : cmpW y z = -1) : cmpW x z = -1 := by
  rcases cmpW_cases x y with ⟨_, a⟩ | ⟨e, _⟩ | ⟨e, _⟩
  · rcases cmpW_cases y z with ⟨_, b⟩ | ⟨e, _⟩ | ⟨e, _⟩
    · exact cmpW_lt (less_trans _ _ _ a b)
    · omega
    · omega
  · omega
  · omega

/-- a series against another, label by label -/
def cmpL : List (ByteArray × ByteArray) → List (ByteArray × ByteArray) → Int
  | [], [] => 0
  | [], _ :: _ => -1
  | _ :: _, [] => 1
  | x :: r, y :: t => if cmpW x.1 y.1 ≠ 0 then cmpW x.1 y.1 else if cmpW x.2 y.2 ≠ 0 then cmpW x.2 y.2 else cmpL r t

theorem drop_lab {l : List (ByteArray × ByteArray)} {k : Nat} (h : k < l.length) : l.drop k = (lk l k, lv l k) :: l.drop (k + 1) := by
  rw [List.drop_eq_getElem_cons h]
  simp only [lk, lv, List.getD, List.getElem?_eq_getElem h, Option.getD_some]

theorem cmpF_L (a b : List (ByteArray × ByteArray)) : ∀ n k, k ≤ b.length → k + n = a.length → cmpF a b n k = cmpL (a.drop k) (b.drop k) := by
  intro n
  induction n with
  | zero =>
    intro k hk h
    rw [cmpF, List.drop_of_length_le (show a.length ≤ k from by omega)]
    by_cases e : a.length < b.length
    · rw [if_pos e, drop_lab (show k < b.length from by omega)]; rfl
    · rw [if_neg e, List.drop_of_length_le (show b.length ≤ k from by omega)]; rfl
  | succ n ih =>
    intro k hk h
    rw [cmpF, drop_lab (show k < a.length from by omega)]
    by_cases e : b.length ≤ k
    · rw [if_pos e, List.drop_of_length_le e]; rfl
    · rw [if_neg e, drop_lab (show k < b.length from by omega), cmpL, ih (k + 1) (by omega) (by omega)]

theorem cmpS_L (a b : List (ByteArray × ByteArray)) : cmpS a b = cmpL a b := by
  unfold cmpS
  rw [cmpF_L a b a.length 0 (by omega) (by omega)]
  simp

theorem cmpL_cases : ∀ a b : List (ByteArray × ByteArray), cmpL a b = -1 ∨ (cmpL a b = 0 ∧ a = b) ∨ cmpL a b = 1
  | [], [] => .inr (.inl ⟨rfl, rfl⟩)
  | [], _ :: _ => .inl rfl
  | _ :: _, [] => .inr (.inr rfl)
  | (x, y) :: r, (x', y') :: t => by
    have ih := cmpL_cases r t
    simp only [cmpL]
    rcases cmpW_cases x x' with ⟨h, _⟩ | ⟨h, rfl⟩ | ⟨h, _⟩
    · left; rw [h]; rfl
    · rw [h, if_neg (by simp)]
      rcases cmpW_cases y y' with ⟨h, _⟩ | ⟨h, rfl⟩ | ⟨h, _⟩
      · left; rw [h]; rfl
      · rw [h, if_neg (by simp)]
        rcases ih with ih | ⟨ih, rfl⟩ | ih
        · exact .inl ih
        · exact .inr (.inl ⟨ih, rfl⟩)
        · exact .inr (.inr ih)
      · right; right; rw [h]; rfl
    · right; right; rw [h]; rfl

theorem cmpL_self : ∀ a : List (ByteArray × ByteArray), cmpL a a = 0
  | [] => rfl
  | x :: r => by simp [cmpL, cmpW_self, cmpL_self r]

theorem cmpL_zero (a b : List (ByteArray × ByteArray)) : cmpL a b = 0 ↔ a = b := by
  refine ⟨fun h => ?_, fun h => by rw [h]; exact cmpL_self b⟩
  rcases cmpL_cases a b with e | ⟨_, e⟩ | e
  · omega
  · exact e
  · omega

theorem cmpL_back : ∀ a b : List (ByteArray × ByteArray), cmpL b a = - cmpL a b
  | [], [] => rfl
  | [], _ :: _ => rfl
  | _ :: _, [] => rfl
  | x :: r, y :: t => by
    have ih := cmpL_back r t
    simp only [cmpL]
    rw [cmpW_back x.1 y.1, cmpW_back x.2 y.2, ih]
    by_cases h : cmpW x.1 y.1 = 0
    · by_cases h' : cmpW x.2 y.2 = 0
      · simp [h, h']
      · simp [h, h']
    · simp [h]

theorem cmpL_trans : ∀ a b c : List (ByteArray × ByteArray), cmpL a b = -1 → cmpL b c = -1 → cmpL a c = -1
  | [], _, [], h, h' => by
    rename_i b
    cases b with
    | nil => simp [cmpL] at h
    | cons y t => simp [cmpL] at h'
  | [], _, _ :: _, _, _ => rfl
  | _ :: _, [], _, h, _ => by simp [cmpL] at h
  | _ :: _, _ :: _, [], _, h => by simp [cmpL] at h
  | (x, y) :: r, (x', y') :: t, (x'', y'') :: u, h, h' => by
    have ih := cmpL_trans r t u
    simp only [cmpL] at h h' ⊢
    rcases cmpW_cases x x' with ⟨e, _⟩ | ⟨e, rfl⟩ | ⟨e, _⟩
    · rcases cmpW_cases x' x'' with ⟨f, _⟩ | ⟨f, rfl⟩ | ⟨f, _⟩
      · rw [cmpW_trans e f]; rfl
      · rw [e]; rfl
      · rw [f] at h'; simp at h'
    · rw [e, if_neg (by simp)] at h
      rcases cmpW_cases x x'' with ⟨f, _⟩ | ⟨f, rfl⟩ | ⟨f, _⟩
      · rw [f]; rfl
      · rw [f, if_neg (by simp)] at h' ⊢
        rcases cmpW_cases y y' with ⟨e, _⟩ | ⟨e, rfl⟩ | ⟨e, _⟩
        · rcases cmpW_cases y' y'' with ⟨f, _⟩ | ⟨f, rfl⟩ | ⟨f, _⟩
          · rw [cmpW_trans e f]; rfl
          · rw [e]; rfl
          · rw [f] at h'; simp at h'
        · rw [e, if_neg (by simp)] at h
          rcases cmpW_cases y y'' with ⟨f, _⟩ | ⟨f, rfl⟩ | ⟨f, _⟩
          · rw [f]; rfl
          · rw [f, if_neg (by simp)] at h' ⊢
            exact ih h h'
          · rw [f] at h'; simp at h'
        · rw [e] at h; simp at h
      · rw [f] at h'; simp at h'
    · rw [e] at h; simp at h

end Go.GrainU
