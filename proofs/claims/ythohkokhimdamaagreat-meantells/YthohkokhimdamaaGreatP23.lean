/-
  The walk of names.Get.
-/
import Derived.Test.YthohkokhimdamaaGreatP09
import Derived.Test.YthohkokhimdamaaGreatP22
import Derived.Test.YthohkokhimdamaaGreatRows
import Derived.Test.YthohkokhimdamaaGreatP04
/-
  The walk of agg.Value at whatever word.
-/
namespace Go.GrainU
open Go.RowKit

theorem list_ne {x : ByteArray} {l : List UInt8} (h : ¬ x = lit l) : (x.toList == l) = false := by
  have := (word_ne h).2
  rw [show (lit l).toList = l from ByteArray.toList_mk l] at this
  exact this

end Go.GrainU
namespace Go.Proofs.YthohkokhimdamaaGreat
open Go.RowKit Go.GrainU

set_option maxHeartbeats 1000000 in
theorem mvalue_avg (s : Grain.Sm) (w : World) (h : 1 ≤ s.c) (h0 : -9223372036854775808 ≤ s.t) (h1 : s.t ≤ 9223372036854775807) :
    Calls Tryz.prog 56 #[.string ⟨#[97, 118, 103]⟩, .agg #[.int .i64 s.c, .int .i64 s.t, .int .i64 s.mn, .int .i64 s.mx, .int .i64 s.f, .int .i64 s.l, .int .i64 s.r]] w fun e w' => e = .returned (.tuple #[.int .i64 (s.t.tdiv s.c), .bool true]) ∧ Below w.heap.size w w' := by
  have hq := wrap_i64_tdiv s.t s.c h0 h1 h
  have hz : (s.c == 0) = false := by simp; omega
  go_enter Tryz.func56, Tryz.ntmps56
  go_wp2
  exact bodyPost_ret (v := .tuple #[.int .i64 (s.t.tdiv s.c), .bool true]) (by simp [results, Tryz.results56, go_sem]) rfl ⟨rfl, by go_grown⟩

set_option maxHeartbeats 1000000 in
theorem mvalue_count (s : Grain.Sm) (w : World) (h : 1 ≤ s.c) :
    Calls Tryz.prog 56 #[.string ⟨#[99, 111, 117, 110, 116]⟩, .agg #[.int .i64 s.c, .int .i64 s.t, .int .i64 s.mn, .int .i64 s.mx, .int .i64 s.f, .int .i64 s.l, .int .i64 s.r]] w fun e w' => e = .returned (.tuple #[.int .i64 (s.c), .bool true]) ∧ Below w.heap.size w w' := by
  go_enter Tryz.func56, Tryz.ntmps56
  go_wp2
  exact bodyPost_ret (v := .tuple #[.int .i64 (s.c), .bool true]) (by simp [results, Tryz.results56, go_sem]) rfl ⟨rfl, by go_grown⟩

set_option maxHeartbeats 1000000 in
theorem mvalue_first (s : Grain.Sm) (w : World) (h : 1 ≤ s.c) :
    Calls Tryz.prog 56 #[.string ⟨#[102, 105, 114, 115, 116]⟩, .agg #[.int .i64 s.c, .int .i64 s.t, .int .i64 s.mn, .int .i64 s.mx, .int .i64 s.f, .int .i64 s.l, .int .i64 s.r]] w fun e w' => e = .returned (.tuple #[.int .i64 (s.f), .bool true]) ∧ Below w.heap.size w w' := by
  go_enter Tryz.func56, Tryz.ntmps56
  go_wp2
  exact bodyPost_ret (v := .tuple #[.int .i64 (s.f), .bool true]) (by simp [results, Tryz.results56, go_sem]) rfl ⟨rfl, by go_grown⟩

set_option maxHeartbeats 1000000 in
theorem mvalue_last (s : Grain.Sm) (w : World) (h : 1 ≤ s.c) :
    Calls Tryz.prog 56 #[.string ⟨#[108, 97, 115, 116]⟩, .agg #[.int .i64 s.c, .int .i64 s.t, .int .i64 s.mn, .int .i64 s.mx, .int .i64 s.f, .int .i64 s.l, .int .i64 s.r]] w fun e w' => e = .returned (.tuple #[.int .i64 (s.l), .bool true]) ∧ Below w.heap.size w w' := by
  go_enter Tryz.func56, Tryz.ntmps56
  go_wp2
  exact bodyPost_ret (v := .tuple #[.int .i64 (s.l), .bool true]) (by simp [results, Tryz.results56, go_sem]) rfl ⟨rfl, by go_grown⟩

set_option maxHeartbeats 1000000 in
theorem mvalue_max (s : Grain.Sm) (w : World) (h : 1 ≤ s.c) :
    Calls Tryz.prog 56 #[.string ⟨#[109, 97, 120]⟩, .agg #[.int .i64 s.c, .int .i64 s.t, .int .i64 s.mn, .int .i64 s.mx, .int .i64 s.f, .int .i64 s.l, .int .i64 s.r]] w fun e w' => e = .returned (.tuple #[.int .i64 (s.mx), .bool true]) ∧ Below w.heap.size w w' := by
  go_enter Tryz.func56, Tryz.ntmps56
  go_wp2
  exact bodyPost_ret (v := .tuple #[.int .i64 (s.mx), .bool true]) (by simp [results, Tryz.results56, go_sem]) rfl ⟨rfl, by go_grown⟩

set_option maxHeartbeats 1000000 in
theorem mvalue_min (s : Grain.Sm) (w : World) (h : 1 ≤ s.c) :
    Calls Tryz.prog 56 #[.string ⟨#[109, 105, 110]⟩, .agg #[.int .i64 s.c, .int .i64 s.t, .int .i64 s.mn, .int .i64 s.mx, .int .i64 s.f, .int .i64 s.l, .int .i64 s.r]] w fun e w' => e = .returned (.tuple #[.int .i64 (s.mn), .bool true]) ∧ Below w.heap.size w w' := by
  go_enter Tryz.func56, Tryz.ntmps56
  go_wp2
  exact bodyPost_ret (v := .tuple #[.int .i64 (s.mn), .bool true]) (by simp [results, Tryz.results56, go_sem]) rfl ⟨rfl, by go_grown⟩

set_option maxHeartbeats 1000000 in
theorem mvalue_rise (s : Grain.Sm) (w : World) (h : 1 ≤ s.c) :
    Calls Tryz.prog 56 #[.string ⟨#[114, 105, 115, 101]⟩, .agg #[.int .i64 s.c, .int .i64 s.t, .int .i64 s.mn, .int .i64 s.mx, .int .i64 s.f, .int .i64 s.l, .int .i64 s.r]] w fun e w' => e = .returned (.tuple #[.int .i64 (s.r), .bool true]) ∧ Below w.heap.size w w' := by
  go_enter Tryz.func56, Tryz.ntmps56
  go_wp2
  exact bodyPost_ret (v := .tuple #[.int .i64 (s.r), .bool true]) (by simp [results, Tryz.results56, go_sem]) rfl ⟨rfl, by go_grown⟩

set_option maxHeartbeats 1000000 in
theorem mvalue_sum (s : Grain.Sm) (w : World) (h : 1 ≤ s.c) :
    Calls Tryz.prog 56 #[.string ⟨#[115, 117, 109]⟩, .agg #[.int .i64 s.c, .int .i64 s.t, .int .i64 s.mn, .int .i64 s.mx, .int .i64 s.f, .int .i64 s.l, .int .i64 s.r]] w fun e w' => e = .returned (.tuple #[.int .i64 (s.t), .bool true]) ∧ Below w.heap.size w w' := by
  go_enter Tryz.func56, Tryz.ntmps56
  go_wp2
  exact bodyPost_ret (v := .tuple #[.int .i64 (s.t), .bool true]) (by simp [results, Tryz.results56, go_sem]) rfl ⟨rfl, by go_grown⟩

set_option maxHeartbeats 1000000 in
theorem mvalue_below (s : Grain.Sm) (x : ByteArray) (w : World) (h : s.c < 1) :
    Calls Tryz.prog 56 #[.string x, .agg #[.int .i64 s.c, .int .i64 s.t, .int .i64 s.mn, .int .i64 s.mx, .int .i64 s.f, .int .i64 s.l, .int .i64 s.r]] w fun e w' => e = .returned (.tuple #[.int .i64 0, .bool false]) ∧ Below w.heap.size w w' := by
  go_enter Tryz.func56, Tryz.ntmps56
  go_wp2
  exact bodyPost_ret (v := .tuple #[.int .i64 0, .bool false]) (by simp [results, Tryz.results56, go_sem]) rfl ⟨rfl, by go_grown⟩

set_option maxHeartbeats 1000000 in
theorem mvalue_other (s : Grain.Sm) (x : ByteArray) (w : World) (h : 1 ≤ s.c) (h0 : (x.toList == [97, 118, 103]) = false) (h1 : (x.toList == [99, 111, 117, 110, 116]) = false) (h2 : (x.toList == [102, 105, 114, 115, 116]) = false) (h3 : (x.toList == [108, 97, 115, 116]) = false) (h4 : (x.toList == [109, 97, 120]) = false) (h5 : (x.toList == [109, 105, 110]) = false) (h6 : (x.toList == [114, 105, 115, 101]) = false) (h7 : (x.toList == [115, 117, 109]) = false) :
    Calls Tryz.prog 56 #[.string x, .agg #[.int .i64 s.c, .int .i64 s.t, .int .i64 s.mn, .int .i64 s.mx, .int .i64 s.f, .int .i64 s.l, .int .i64 s.r]] w fun e w' => e = .returned (.tuple #[.int .i64 0, .bool false]) ∧ Below w.heap.size w w' := by
  go_enter Tryz.func56, Tryz.ntmps56
  go_wp2
  exact bodyPost_ret (v := .tuple #[.int .i64 0, .bool false]) (by simp [results, Tryz.results56, go_sem]) rfl ⟨rfl, by go_grown⟩

/-- Value, whatever the word -/
theorem mvalue_any (s : Grain.Sm) (x : ByteArray) (w : World) (t0 : -9223372036854775808 ≤ s.t) (t1 : s.t ≤ 9223372036854775807) :
    Calls Tryz.prog 56 #[.string x, .agg #[.int .i64 s.c, .int .i64 s.t, .int .i64 s.mn, .int .i64 s.mx, .int .i64 s.f, .int .i64 s.l, .int .i64 s.r]] w fun e w' => e = .returned (.tuple #[.int .i64 (valP x s).1, .bool (valP x s).2]) ∧ Below w.heap.size w w' := by
  by_cases hc : s.c < 1
  · have e : valP x s = (0, false) := by simp [valP, hc]
    rw [e]
    exact mvalue_below s x w hc
  have h : 1 ≤ s.c := by omega
  by_cases h0 : x = lit [97, 118, 103]
  · have e : valP x s = (s.t.tdiv s.c, true) := by rw [valP, if_neg hc, if_pos h0]
    rw [e, h0]
    exact mvalue_avg s w h t0 t1
  by_cases h1 : x = lit [99, 111, 117, 110, 116]
  · have e : valP x s = (s.c, true) := by rw [valP, if_neg hc, if_neg h0, if_pos h1]
    rw [e, h1]
    exact mvalue_count s w h
  by_cases h2 : x = lit [102, 105, 114, 115, 116]
  · have e : valP x s = (s.f, true) := by rw [valP, if_neg hc, if_neg h0, if_neg h1, if_pos h2]
    rw [e, h2]
    exact mvalue_first s w h
  by_cases h3 : x = lit [108, 97, 115, 116]
  · have e : valP x s = (s.l, true) := by rw [valP, if_neg hc, if_neg h0, if_neg h1, if_neg h2, if_pos h3]
    rw [e, h3]
    exact mvalue_last s w h
  by_cases h4 : x = lit [109, 97, 120]
  · have e : valP x s = (s.mx, true) := by rw [valP, if_neg hc, if_neg h0, if_neg h1, if_neg h2, if_neg h3, if_pos h4]
    rw [e, h4]
    exact mvalue_max s w h
  by_cases h5 : x = lit [109, 105, 110]
  · have e : valP x s = (s.mn, true) := by rw [valP, if_neg hc, if_neg h0, if_neg h1, if_neg h2, if_neg h3, if_neg h4, if_pos h5]
    rw [e, h5]
    exact mvalue_min s w h
  by_cases h6 : x = lit [114, 105, 115, 101]
  · have e : valP x s = (s.r, true) := by rw [valP, if_neg hc, if_neg h0, if_neg h1, if_neg h2, if_neg h3, if_neg h4, if_neg h5, if_pos h6]
    rw [e, h6]
    exact mvalue_rise s w h
  by_cases h7 : x = lit [115, 117, 109]
  · have e : valP x s = (s.t, true) := by rw [valP, if_neg hc, if_neg h0, if_neg h1, if_neg h2, if_neg h3, if_neg h4, if_neg h5, if_neg h6, if_pos h7]
    rw [e, h7]
    exact mvalue_sum s w h
  · have e : valP x s = (0, false) := by rw [valP, if_neg hc, if_neg h0, if_neg h1, if_neg h2, if_neg h3, if_neg h4, if_neg h5, if_neg h6, if_neg h7]
    rw [e]
    exact mvalue_other s x w h (list_ne h0) (list_ne h1) (list_ne h2) (list_ne h3) (list_ne h4) (list_ne h5) (list_ne h6) (list_ne h7)

end Go.Proofs.YthohkokhimdamaaGreat

/-
  The walk of names.Get.
-/
namespace Go.GrainU
open Go.RowKit

/-- where the first label with a key lies, or -1 -/
def IsAt (s : List (ByteArray × ByteArray)) (key : ByteArray) (i : Int) : Prop := (i = -1 ∧ find s key = none) ∨ ∃ k : Nat, k < s.length ∧ i = k ∧ find s key = some (lv s k)

end Go.GrainU
namespace Go.Proofs.YthohkokhimdamaaGreat
open Go.RowKit Go.GrainU

theorem nget1_any (x y key : ByteArray) (B : Nat) (w : World) (hB : w.cell? ⟨B, 0, none⟩ = some (.string key)) :
    Calls Tryz.prog 105 #[.agg #[.string x, .string y], .pointer (some ⟨B, 0, none⟩)] w fun e w' => e = .returned (.bool (decide (x = key))) ∧ Below w.heap.size w w' := by
  have hl : B < w.heap.size := World.block_lt_of_cell? w _ hB
  have bel : Below w.heap.size w (w.alloc (.cells #[.string x, .string y] 88)) := (Below.refl _ _).alloc (Nat.le_refl _) _
  have hW := word_eq x key
  have hW' : (x == key) = decide (x = key) := by rw [Go.beq_toListBytes]; exact hW
  generalize decide (x = key) = D at hW hW' ⊢
  go_enter Tryz.func105, Tryz.ntmps105
  go_wp2
  go_ret
  exact ⟨rfl, bel⟩

set_option maxHeartbeats 1000000 in
theorem nidx_any (s : List (ByteArray × ByteArray)) (key : ByteArray) (B : Nat) (ao : Option Addr) (n c : Nat) (w : World) (ha : Seg w ao (lcells s)) (hB : w.cell? ⟨B, 0, none⟩ = some (.string key)) (hn : n = s.length) (hc : n ≤ 9223372036854775807) :
    Calls Tryz.prog 104 #[.slice ao n c, .func (.func 105) #[] #[.pointer (some ⟨B, 0, none⟩)]] w fun e w' => (∃ i, e = .returned (.int .i64 i) ∧ IsAt s key i) ∧ Below w.heap.size w w' := by
  have hl : B < w.heap.size := World.block_lt_of_cell? w _ hB
  have HN := hide hn
  clear hn
  go_enter Tryz.func104, Tryz.ntmps104
  go_wp2
  go_loopw [8] (fun i wr => ∃ k : Nat, k ≤ n ∧ i = .int .i64 k ∧ Hid (find s key = find (s.drop k) key) ∧ Below w.heap.size w wr) (fun i _ => n - (intOf i).toNat)
  case atStart => exact ⟨0, Nat.zero_le _, rfl, rfl, Below.refl _ _⟩
  case round =>
    obtain ⟨k, hk, rfl, HW, bel⟩ := hrel
    have hsz := bel.size
    by_cases hlt : k < n
    · have hka : k < s.length := by rw [← HN.out]; exact hlt
      obtain ⟨p, off, rfl, hbl, hcell⟩ := seg_label ha hka
      obtain ⟨x, hx⟩ : ∃ x, x = lk s k := ⟨_, rfl⟩
      obtain ⟨y, hy⟩ : ∃ y, y = lv s k := ⟨_, rfl⟩
      have c0 : wr.cell? ⟨p, off + k * 2, none⟩ = some (.string x) := by rw [hx]; exact (bel.cell (by exact hbl)).trans (hcell k hka).1
      have c1 : wr.cell? ⟨p, off + k * 2 + 1, none⟩ = some (.string y) := by rw [hy]; exact (bel.cell (by exact hbl)).trans (hcell k hka).2
      have cB : wr.cell? ⟨B, 0, none⟩ = some (.string key) := (bel.cell (by exact hl)).trans hB
      have HS : Hid (find s key = if x = key then some (lv s k) else find (s.drop (k + 1)) key) := by
        show _ = _
        rw [HW.out, find_drop hka, hx]
      have HK := hide hka
      clear hx hy hcell hka HW
      go_wp2_with fail
      refine (nget1_any x y key B wr cB).mono ?_
      rintro e w1 ⟨rfl, hb1⟩
      have bel1 : Below w.heap.size w w1 := bel.trans (hb1.mono hsz)
      clear hb1 bel c0 c1 cB
      by_cases e1 : x = key
      · have hw : Hid (find s key = some (lv s k)) := by show _ = _; rw [HS.out, if_pos e1]
        have hd : decide (x = key) = true := by simpa using e1
        rw [hd]
        clear HS hd e1
        go_wp2
        go_ret
        exact ⟨⟨_, rfl, .inr ⟨k, HK.out, rfl, hw.out⟩⟩, bel1⟩
      · have hw : Hid (find s key = find (s.drop (k + 1)) key) := by show _ = _; rw [HS.out, if_neg e1]
        have hd : decide (x = key) = false := by simpa using e1
        rw [hd]
        clear HS hd e1
        go_wp2
        go_roundw
        case rel => exact ⟨k + 1, by omega, by go_num, hw, bel1⟩
        case measure => simp [intOf]; omega
    · have he : k = n := by omega
      subst he
      have hw : Hid (find s key = none) := by
        show _ = _
        rw [HW.out, List.drop_eq_nil_of_le (by rw [← HN.out]; omega)]; rfl
      clear HW
      go_wp2
      go_ret
      exact ⟨⟨_, rfl, .inl ⟨rfl, hw.out⟩⟩, bel⟩

set_option maxHeartbeats 1000000 in
theorem nget_any (s : List (ByteArray × ByteArray)) (key : ByteArray) (ao : Option Addr) (n c : Nat) (w : World) (ha : Seg w ao (lcells s)) (hn : n = s.length) (hc : n ≤ 9223372036854775807) :
    Calls Tryz.prog 98 #[.slice ao n c, .string key] w fun e w' => e = .returned (.tuple #[.string ((find s key).getD ⟨#[]⟩), .bool (find s key).isSome]) ∧ Below w.heap.size w w' := by
  obtain ⟨V, hV⟩ : ∃ V, V = w.alloc (.cells #[.string key] 9) := ⟨_, rfl⟩
  have bel : Below w.heap.size w V := by rw [hV]; exact (Below.refl _ _).alloc (Nat.le_refl _) _
  have cB : V.cell? ⟨w.heap.size, 0, none⟩ = some (.string key) := by rw [hV]; simp
  have hsz := bel.size
  have hVs : V.heap.size = w.heap.size + 1 := by rw [hV]; simp
  have HV := hide hV
  have HN := hide hn
  clear hV hn
  have haV := ha.below bel
  go_enter Tryz.func98, Tryz.ntmps98
  go_wp2_with fail
  rw [← HV.out]
  refine (nidx_any s key w.heap.size ao n c V haV cB HN.out hc).mono ?_
  rintro e w1 ⟨⟨i, rfl, hi⟩, hb1⟩
  have bel1 : Below w.heap.size w w1 := bel.trans (hb1.mono hsz)
  clear hb1
  rcases hi with ⟨rfl, hf⟩ | ⟨k, hk, rfl, hf⟩
  · have HF := hide hf
    clear hf
    go_wp2
    go_ret2
    exact ⟨by rw [HF.out]; rfl, bel1⟩
  · have HF := hide hf
    clear hf
    obtain ⟨p, off, rfl, hbl, hcell⟩ := seg_label ha hk
    obtain ⟨y, hy⟩ : ∃ y, y = lv s k := ⟨_, rfl⟩
    have c1 : w1.cell? ⟨p, off + k * 2 + 1, none⟩ = some (.string y) := by rw [hy]; exact (bel1.cell (by exact hbl)).trans (hcell k hk).2
    have HY := hide hy
    have hkn : k < n := by rw [HN.out]; exact hk
    clear hy hcell hk
    go_wp2
    go_ret2
    exact ⟨by rw [HF.out, HY.out]; rfl, bel1⟩

end Go.Proofs.YthohkokhimdamaaGreat
