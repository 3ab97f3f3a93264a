/-
  The walk of names.Get.
-/
import Derived.Test.YthohkokhimdamaaRows
import Derived.Test.YthohkokhimdamaaMatchM
namespace Go.GrainU
open Go.RowKit

/-- where the first label with a key lies, or -1 -/
def IsAt (s : List (ByteArray × ByteArray)) (key : ByteArray) (i : Int) : Prop := (i = -1 ∧ find s key = none) ∨ ∃ k : Nat, k < s.length ∧ i = k ∧ find s key = some (lv s k)

end Go.GrainU
namespace Go.Proofs.Ythohkokhimdamaa
open Go.RowKit Go.GrainU

theorem nget1_any (x y key : ByteArray) (B : Nat) (w : World) (hB : w.cell? ⟨B, 0, none⟩ = some (.string key)) :
    Calls Try.prog 81 #[.agg #[.string x, .string y], .pointer (some ⟨B, 0, none⟩)] w fun e w' => e = .returned (.bool (decide (x = key))) ∧ Below w.heap.size w w' := by
  have hl : B < w.heap.size := World.block_lt_of_cell? w _ hB
  have bel : Below w.heap.size w (w.alloc (.cells #[.string x, .string y] 40)) := (Below.refl _ _).alloc (Nat.le_refl _) _
  have hW := word_eq x key
  have hW' : (x == key) = decide (x = key) := by rw [Go.beq_toListBytes]; exact hW
  generalize decide (x = key) = D at hW hW' ⊢
  go_enter Try.func81, Try.ntmps81
  go_wp2
  go_ret
  exact ⟨rfl, bel⟩

set_option maxHeartbeats 1000000 in
theorem nidx_any (s : List (ByteArray × ByteArray)) (key : ByteArray) (B : Nat) (ao : Option Addr) (n c : Nat) (w : World) (ha : Seg w ao (lcells s)) (hB : w.cell? ⟨B, 0, none⟩ = some (.string key)) (hn : n = s.length) (hc : n ≤ 9223372036854775807) :
    Calls Try.prog 80 #[.slice ao n c, .func (.func 81) #[] #[.pointer (some ⟨B, 0, none⟩)]] w fun e w' => (∃ i, e = .returned (.int .i64 i) ∧ IsAt s key i) ∧ Below w.heap.size w w' := by
  have hl : B < w.heap.size := World.block_lt_of_cell? w _ hB
  have HN := hide hn
  clear hn
  go_enter Try.func80, Try.ntmps80
  go_wp2
  go_loopw [8] (fun i wr => ∃ k : Nat, k ≤ n ∧ i = .int .i64 k ∧ Hid (find s key = find (s.drop k) key) ∧ Below w.heap.size w wr) (fun i _ => n - (intOf i).toNat)
  case atStart => exact ⟨0, Nat.zero_le _, rfl, rfl, Below.refl _ _⟩
  case round =>
    obtain ⟨k, hk, rfl, HW, bel⟩ := hrel
    have hsz := bel.size
    by_cases hlt : k < n
    · have hka : k < s.length := by rw [← HN.out]; exact hlt
      obtain ⟨p, off, rfl, hbl, hcell⟩ := seg_label ha hka
      obtain ⟨x, hx⟩ : ∃ x, x = lk s k := ⟨_, rfl⟩
      obtain ⟨y, hy⟩ : ∃ y, y = lv s k := ⟨_, rfl⟩
      have c0 : wr.cell? ⟨p, off + k * 2, none⟩ = some (.string x) := by rw [hx]; exact (bel.cell (by exact hbl)).trans (hcell k hka).1
      have c1 : wr.cell? ⟨p, off + k * 2 + 1, none⟩ = some (.string y) := by rw [hy]; exact (bel.cell (by exact hbl)).trans (hcell k hka).2
      have cB : wr.cell? ⟨B, 0, none⟩ = some (.string key) := (bel.cell (by exact hl)).trans hB
      have HS : Hid (find s key = if x = key then some (lv s k) else find (s.drop (k + 1)) key) := by
        show _ = _
        rw [HW.out, find_drop hka, hx]
      have HK := hide hka
      clear hx hy hcell hka HW
      go_wp2_with fail
      refine (nget1_any x y key B wr cB).mono ?_
      rintro e w1 ⟨rfl, hb1⟩
      have bel1 : Below w.heap.size w w1 := bel.trans (hb1.mono hsz)
      clear hb1 bel c0 c1 cB
      by_cases e1 : x = key
      · have hw : Hid (find s key = some (lv s k)) := by show _ = _; rw [HS.out, if_pos e1]
        have hd : decide (x = key) = true := by simpa using e1
        rw [hd]
        clear HS hd e1
        go_wp2
        go_ret
        exact ⟨⟨_, rfl, .inr ⟨k, HK.out, rfl, hw.out⟩⟩, bel1⟩
      · have hw : Hid (find s key = find (s.drop (k + 1)) key) := by show _ = _; rw [HS.out, if_neg e1]
        have hd : decide (x = key) = false := by simpa using e1
        rw [hd]
        clear HS hd e1
        go_wp2
        go_roundw
        case rel => exact ⟨k + 1, by omega, by go_num, hw, bel1⟩
        case measure => simp [intOf]; omega
    · have he : k = n := by omega
      subst he
      have hw : Hid (find s key = none) := by
        show _ = _
        rw [HW.out, List.drop_eq_nil_of_le (by rw [← HN.out]; omega)]; rfl
      clear HW
      go_wp2
      go_ret
      exact ⟨⟨_, rfl, .inl ⟨rfl, hw.out⟩⟩, bel⟩

set_option maxHeartbeats 1000000 in
theorem nget_any (s : List (ByteArray × ByteArray)) (key : ByteArray) (ao : Option Addr) (n c : Nat) (w : World) (ha : Seg w ao (lcells s)) (hn : n = s.length) (hc : n ≤ 9223372036854775807) :
    Calls Try.prog 71 #[.slice ao n c, .string key] w fun e w' => e = .returned (.tuple #[.string ((find s key).getD ⟨#[]⟩), .bool (find s key).isSome]) ∧ Below w.heap.size w w' := by
  obtain ⟨V, hV⟩ : ∃ V, V = w.alloc (.cells #[.string key] 9) := ⟨_, rfl⟩
  have bel : Below w.heap.size w V := by rw [hV]; exact (Below.refl _ _).alloc (Nat.le_refl _) _
  have cB : V.cell? ⟨w.heap.size, 0, none⟩ = some (.string key) := by rw [hV]; simp
  have hsz := bel.size
  have hVs : V.heap.size = w.heap.size + 1 := by rw [hV]; simp
  have HV := hide hV
  have HN := hide hn
  clear hV hn
  have haV := ha.below bel
  go_enter Try.func71, Try.ntmps71
  go_wp2_with fail
  rw [← HV.out]
  refine (nidx_any s key w.heap.size ao n c V haV cB HN.out hc).mono ?_
  rintro e w1 ⟨⟨i, rfl, hi⟩, hb1⟩
  have bel1 : Below w.heap.size w w1 := bel.trans (hb1.mono hsz)
  clear hb1
  rcases hi with ⟨rfl, hf⟩ | ⟨k, hk, rfl, hf⟩
  · have HF := hide hf
    clear hf
    go_wp2
    go_ret2
    exact ⟨by rw [HF.out]; rfl, bel1⟩
  · have HF := hide hf
    clear hf
    obtain ⟨p, off, rfl, hbl, hcell⟩ := seg_label ha hk
    obtain ⟨y, hy⟩ : ∃ y, y = lv s k := ⟨_, rfl⟩
    have c1 : w1.cell? ⟨p, off + k * 2 + 1, none⟩ = some (.string y) := by rw [hy]; exact (bel1.cell (by exact hbl)).trans (hcell k hk).2
    have HY := hide hy
    have hkn : k < n := by rw [HN.out]; exact hk
    clear hy hcell hk
    go_wp2
    go_ret2
    exact ⟨by rw [HF.out, HY.out]; rfl, bel1⟩

end Go.Proofs.Ythohkokhimdamaa
