/-
  The walk of the document's Compare.
-/
import Derived.Test.YtjgdjbphelkdoadRows
import Derived.Test.YtjgdjbphelkdoadLabM
import Derived.Deep.RegionHeld3
import Derived.Laws.Cover1
namespace Go.GrainU
open Go.RowKit

/-- a word against another -/
def cmpW (x y : ByteArray) : Int := if Op.bytesLess x.toList y.toList = true then -1 else if x = y then 0 else 1

/-- a series against another, from label k on, n of them -/
def cmpF (a b : List (ByteArray × ByteArray)) : Nat → Nat → Int
  | 0, _ => if a.length < b.length then -1 else 0
  | n + 1, k => if b.length ≤ k then 1 else if cmpW (lk a k) (lk b k) ≠ 0 then cmpW (lk a k) (lk b k) else if cmpW (lv a k) (lv b k) ≠ 0 then cmpW (lv a k) (lv b k) else cmpF a b n (k + 1)

/-- a series against another -/
def cmpS (a b : List (ByteArray × ByteArray)) : Int := cmpF a b a.length 0

theorem cmpW_lt {x y : ByteArray} (h : Op.bytesLess x.toList y.toList = true) : cmpW x y = -1 := by simp [cmpW, h]
theorem cmpW_eq {x y : ByteArray} (h : Op.bytesLess x.toList y.toList = false) (e : x = y) : cmpW x y = 0 := by simp only [cmpW, h, if_pos e]; rfl
theorem cmpW_gt {x y : ByteArray} (h : Op.bytesLess x.toList y.toList = false) (e : x ≠ y) : cmpW x y = 1 := by simp only [cmpW, h, if_neg e]; rfl

theorem four_cells {w : World} {B : Nat} {x0 x1 x2 x3 : Value} {t : TypeId} {fr : Nat × Nat} (h : w.heap[B]? = some (.cells #[x0, x1, x2, x3] t fr)) :
    w.cell? ⟨B, 0, none⟩ = some x0 ∧ w.cell? ⟨B, 1, none⟩ = some x1 ∧ w.cell? ⟨B, 2, none⟩ = some x2 ∧ w.cell? ⟨B, 3, none⟩ = some x3 := by
  simp [World.cell?, h]

end Go.GrainU
namespace Go.Proofs.Ytjgdjbphelkdoad
open Go.RowKit Go.GrainU

set_option maxHeartbeats 4000000 in
theorem rcmp_any (a b : List (ByteArray × ByteArray)) (ao bo : Option Addr) (n m c c' : Nat) (w : World) (ha : Seg w ao (lcells a)) (hb : Seg w bo (lcells b)) (hn : n = a.length) (hm : m = b.length) (hc : n ≤ 9223372036854775807) :
    Calls Try.prog 31 #[.slice ao n c, .slice bo m c'] w fun e w' => e = .returned (.int .i64 (cmpS a b)) ∧ Below w.heap.size w w' := by
  have hS : cmpS a b = cmpF a b n 0 := by rw [hn]; rfl
  rw [hS]
  clear hS
  have HN := hide hn
  have HM := hide hm
  clear hn hm
  go_enter Try.func31, Try.ntmps31
  go_wp2
  go_loopw [10] (fun i wr => ∃ k : Nat, k ≤ n ∧ i = .int .i64 k ∧ Hid (cmpF a b n 0 = cmpF a b (n - k) k) ∧ Below w.heap.size w wr) (fun i _ => n - (intOf i).toNat)
  case atStart => exact ⟨0, Nat.zero_le _, rfl, rfl, Below.refl _ _⟩
  case round =>
    obtain ⟨k, hk, rfl, HW, bel⟩ := hrel
    have hsz := bel.size
    by_cases hlt : k < n
    · have hka : k < a.length := by rw [← HN.out]; exact hlt
      have HS : Hid (cmpF a b n 0 = if m ≤ k then 1 else if cmpW (lk a k) (lk b k) ≠ 0 then cmpW (lk a k) (lk b k) else if cmpW (lv a k) (lv b k) ≠ 0 then cmpW (lv a k) (lv b k) else cmpF a b (n - (k + 1)) (k + 1)) := by
        show _ = _
        rw [HW.out, show n - k = (n - (k + 1)) + 1 from by omega, cmpF, HM.out]
      by_cases hkm : k < m
      · have hkb : k < b.length := by rw [← HM.out]; exact hkm
        obtain ⟨p, off, rfl, hbl, hcell⟩ := seg_label ha hka
        obtain ⟨p', off', rfl, hbl', hcell'⟩ := seg_label hb hkb
        obtain ⟨x, hx⟩ : ∃ x, x = lk a k := ⟨_, rfl⟩
        obtain ⟨y, hy⟩ : ∃ y, y = lv a k := ⟨_, rfl⟩
        obtain ⟨x', hx'⟩ : ∃ x, x = lk b k := ⟨_, rfl⟩
        obtain ⟨y', hy'⟩ : ∃ y, y = lv b k := ⟨_, rfl⟩
        have c0 : wr.cell? ⟨p, off + k * 2, none⟩ = some (.string x) := by rw [hx]; exact (bel.cell (by exact hbl)).trans (hcell k hka).1
        have c1 : wr.cell? ⟨p, off + k * 2 + 1, none⟩ = some (.string y) := by rw [hy]; exact (bel.cell (by exact hbl)).trans (hcell k hka).2
        have d0 : wr.cell? ⟨p', off' + k * 2, none⟩ = some (.string x') := by rw [hx']; exact (bel.cell (by exact hbl')).trans (hcell' k hkb).1
        have d1 : wr.cell? ⟨p', off' + k * 2 + 1, none⟩ = some (.string y') := by rw [hy']; exact (bel.cell (by exact hbl')).trans (hcell' k hkb).2
        have HS' : Hid (cmpF a b n 0 = if cmpW x x' ≠ 0 then cmpW x x' else if cmpW y y' ≠ 0 then cmpW y y' else cmpF a b (n - (k + 1)) (k + 1)) := by
          show _ = _
          rw [HS.out, if_neg (by omega), hx, hy, hx', hy']
        clear hx hy hx' hy' hcell hcell' hka hkb HS HW
        have kk : ¬ ((m : Int) ≤ (k : Int)) := by omega
        have k1 : (k : Int) < (n : Int) := by omega
        have k2 : (k : Int) < (m : Int) := by omega
        go_wp2_with fail
        go_region_held3 (fun w' => w'.cell? ⟨p, off + k * 2, none⟩ = some (.string x) ∧ w'.cell? ⟨p, off + k * 2 + 1, none⟩ = some (.string y) ∧ w'.cell? ⟨p', off' + k * 2, none⟩ = some (.string x') ∧ w'.cell? ⟨p', off' + k * 2 + 1, none⟩ = some (.string y')) (go_keep) (fail)
        obtain ⟨X, hX⟩ : ∃ X, X = wr.heap.size := ⟨_, rfl⟩
        obtain ⟨V, hV⟩ : ∃ V, V = (wr.alloc (.cells #[.string x, .string x', .string y, .string y'] 94)).drew := ⟨_, rfl⟩
        have F : V.heap[X]? = some (.cells #[.string x, .string x', .string y, .string y'] 94 (0, 0)) := by rw [hV, hX]; exact heap_alloc_new wr _
        have belV : Below w.heap.size w V := by rw [hV]; exact below_drewN (bel.alloc hsz _) 1
        rw [← hV, ← hX]
        clear hV hX bel hsz c0 c1 d0 d1
        go_wp2
        go_loopw [41] (fun q wq => ∃ j : Nat, j ≤ 2 ∧ q = .int .i64 j ∧ Hid ((1 ≤ j → cmpW x x' = 0) ∧ (2 ≤ j → cmpW y y' = 0)) ∧ wq.heap[X]? = some (.cells #[.string x, .string x', .string y, .string y'] 94 (0, 0)) ∧ Below w.heap.size w wq) (fun q _ => 2 - (intOf q).toNat)
        case atStart => exact ⟨0, by omega, rfl, ⟨fun h => by omega, fun h => by omega⟩, F, belV⟩
        case round =>
          clear F belV
          obtain ⟨j, hj, rfl, HI, F, belq⟩ := hrel
          have hsq := belq.size
          obtain ⟨f0, f1, f2, f3⟩ := four_cells F
          have hXq : X < wr.heap.size := lt_of_block F
          by_cases hj2 : j < 2
          · have blk : ∀ o, (wr.alloc o).heap[X]? = some (.cells #[.string x, .string x', .string y, .string y'] 94 (0, 0)) := fun o => by
              rw [Below.heap_alloc _ _ _ hXq]; exact F
            rcases (show j = 0 ∨ j = 1 from by omega) with hj0 | hj0
            · subst hj0
              cases hl : Op.bytesLess x.toList x'.toList with
              | true =>
                have hw : Hid (cmpF a b n 0 = -1) := by
                  show _ = _
                  rw [HS'.out, cmpW_lt hl, if_pos (by decide)]
                clear HS' HI
                go_wp2
                go_ret
                exact ⟨ret_int hw.out.symm, belq.alloc hsq _⟩
              | false =>
                by_cases he : x = x'
                · have hI' : Hid ((1 ≤ 0 + 1 → cmpW x x' = 0) ∧ (2 ≤ 0 + 1 → cmpW y y' = 0)) := ⟨fun _ => cmpW_eq hl he, fun h => by omega⟩
                  have hq := cmpW_eq hl he
                  subst he
                  obtain ⟨v1, v2⟩ := word_self x
                  clear HI hq
                  go_wp2
                  go_roundw
                  case rel => exact ⟨0 + 1, by omega, by go_num, hI', blk _, belq.alloc hsq _⟩
                  case measure => simp [intOf]
                · have hw : Hid (cmpF a b n 0 = 1) := by
                    show _ = _
                    rw [HS'.out, cmpW_gt hl he, if_pos (by decide)]
                  obtain ⟨v1, v2⟩ := word_ne he
                  clear HS' HI he
                  go_wp2
                  go_ret
                  exact ⟨ret_int hw.out.symm, belq.alloc hsq _⟩
            · subst hj0
              cases hl : Op.bytesLess y.toList y'.toList with
              | true =>
                have hw : Hid (cmpF a b n 0 = -1) := by
                  show _ = _
                  rw [HS'.out, if_neg (by rw [HI.out.1 (by omega)]; simp), cmpW_lt hl, if_pos (by decide)]
                clear HS' HI
                go_wp2
                go_ret
                exact ⟨ret_int hw.out.symm, belq.alloc hsq _⟩
              | false =>
                by_cases he : y = y'
                · have hI' : Hid ((1 ≤ 1 + 1 → cmpW x x' = 0) ∧ (2 ≤ 1 + 1 → cmpW y y' = 0)) := ⟨fun _ => HI.out.1 (by omega), fun _ => cmpW_eq hl he⟩
                  have hq := cmpW_eq hl he
                  subst he
                  obtain ⟨v1, v2⟩ := word_self y
                  clear HI hq
                  go_wp2
                  go_roundw
                  case rel => exact ⟨1 + 1, by omega, by go_num, hI', blk _, belq.alloc hsq _⟩
                  case measure => simp [intOf]
                · have hw : Hid (cmpF a b n 0 = 1) := by
                    show _ = _
                    rw [HS'.out, if_neg (by rw [HI.out.1 (by omega)]; simp), cmpW_gt hl he, if_pos (by decide)]
                  obtain ⟨v1, v2⟩ := word_ne he
                  clear HS' HI he
                  go_wp2
                  go_ret
                  exact ⟨ret_int hw.out.symm, belq.alloc hsq _⟩
          · have he : j = 2 := by omega
            subst he
            have hw : Hid (cmpF a b n 0 = cmpF a b (n - (k + 1)) (k + 1)) := by
              show _ = _
              rw [HS'.out, if_neg (by rw [HI.out.1 (by omega)]; simp), if_neg (by rw [HI.out.2 (by omega)]; simp)]
            clear HS' HI
            go_wp2
            go_roundw
            case rel => exact ⟨k + 1, by omega, by go_num, hw, belq⟩
            case measure => simp [intOf]; omega
      · have hw : Hid (cmpF a b n 0 = 1) := by
          show _ = _
          rw [HS.out, if_pos (by omega)]
        have kk : (m : Int) ≤ (k : Int) := by omega
        clear HS HW hka
        go_wp2
        go_ret
        exact ⟨ret_int hw.out.symm, bel⟩
    · have he : k = n := by omega
      subst he
      by_cases hl : k < m
      · have hw : Hid (cmpF a b k 0 = -1) := by
          show _ = _
          rw [HW.out, Nat.sub_self, cmpF, if_pos (by rw [← HN.out, ← HM.out]; exact hl)]
        have hd : decide ((k : Int) < (m : Int)) = true := by simpa using hl
        clear HW
        go_wp2
        go_ret
        exact ⟨ret_int hw.out.symm, bel⟩
      · have hw : Hid (cmpF a b k 0 = 0) := by
          show _ = _
          rw [HW.out, Nat.sub_self, cmpF, if_neg (by rw [← HN.out, ← HM.out]; exact hl)]
        have hd : decide ((k : Int) < (m : Int)) = false := by simp; omega
        clear HW
        go_wp2
        go_ret
        exact ⟨ret_int hw.out.symm, bel⟩

end Go.Proofs.Ytjgdjbphelkdoad
