import Derived.Test.YtoldmigappbjcaaGreatDoorL01
import Derived.Test.YtoldmigappbjcaaGreatDoorL26
import Derived.Test.YtoldmigappbjcaaGreatDoorL29
import Derived.Test.YtoldmigappbjcaaGreatDoorRows
namespace Go.GrainU
open Go.RowKit
theorem list_ne {x : ByteArray} {l : List UInt8} (h : ¬ x = lit l) : (x.toList == l) = false := by
 have := (word_ne h).2
 rw [show (lit l).toList = l from ByteArray.toList_mk l] at this
 exact this
end Go.GrainU
namespace Go.Proofs.YtoldmigappbjcaaGreatDoor
open Go.RowKit Go.GrainU
set_option maxHeartbeats 1000000 in
theorem mvalue_avg (s : Grain.Sm) (w : World) (h : 1 ≤ s.c) (h0 : -9223372036854775808 ≤ s.t) (h1 : s.t ≤ 9223372036854775807) :
  Calls Tryz.prog 30 #[.string ⟨#[97, 118, 103]⟩, .agg #[.int .i64 s.c, .int .i64 s.t, .int .i64 s.mn, .int .i64 s.mx, .int .i64 s.f, .int .i64 s.l, .int .i64 s.r]] w fun e w' => e = .returned (.tuple #[.int .i64 (s.t.tdiv s.c), .bool true]) ∧ Below w.heap.size w w' := by
 have hq := wrap_i64_tdiv s.t s.c h0 h1 h
 have hz : (s.c == 0) = false := by simp; omega
 go_enter Tryz.func30, Tryz.ntmps30
 go_wp2
 exact bodyPost_ret (v := .tuple #[.int .i64 (s.t.tdiv s.c), .bool true]) (by simp [results, Tryz.results30, go_sem]) rfl ⟨rfl, by go_grown⟩
set_option maxHeartbeats 1000000 in
theorem mvalue_count (s : Grain.Sm) (w : World) (h : 1 ≤ s.c) :
  Calls Tryz.prog 30 #[.string ⟨#[99, 111, 117, 110, 116]⟩, .agg #[.int .i64 s.c, .int .i64 s.t, .int .i64 s.mn, .int .i64 s.mx, .int .i64 s.f, .int .i64 s.l, .int .i64 s.r]] w fun e w' => e = .returned (.tuple #[.int .i64 (s.c), .bool true]) ∧ Below w.heap.size w w' := by
 go_enter Tryz.func30, Tryz.ntmps30
 go_wp2
 exact bodyPost_ret (v := .tuple #[.int .i64 (s.c), .bool true]) (by simp [results, Tryz.results30, go_sem]) rfl ⟨rfl, by go_grown⟩
set_option maxHeartbeats 1000000 in
theorem mvalue_first (s : Grain.Sm) (w : World) (h : 1 ≤ s.c) :
  Calls Tryz.prog 30 #[.string ⟨#[102, 105, 114, 115, 116]⟩, .agg #[.int .i64 s.c, .int .i64 s.t, .int .i64 s.mn, .int .i64 s.mx, .int .i64 s.f, .int .i64 s.l, .int .i64 s.r]] w fun e w' => e = .returned (.tuple #[.int .i64 (s.f), .bool true]) ∧ Below w.heap.size w w' := by
 go_enter Tryz.func30, Tryz.ntmps30
 go_wp2
 exact bodyPost_ret (v := .tuple #[.int .i64 (s.f), .bool true]) (by simp [results, Tryz.results30, go_sem]) rfl ⟨rfl, by go_grown⟩
set_option maxHeartbeats 1000000 in
theorem mvalue_last (s : Grain.Sm) (w : World) (h : 1 ≤ s.c) :
  Calls Tryz.prog 30 #[.string ⟨#[108, 97, 115, 116]⟩, .agg #[.int .i64 s.c, .int .i64 s.t, .int .i64 s.mn, .int .i64 s.mx, .int .i64 s.f, .int .i64 s.l, .int .i64 s.r]] w fun e w' => e = .returned (.tuple #[.int .i64 (s.l), .bool true]) ∧ Below w.heap.size w w' := by
 go_enter Tryz.func30, Tryz.ntmps30
 go_wp2
 exact bodyPost_ret (v := .tuple #[.int .i64 (s.l), .bool true]) (by simp [results, Tryz.results30, go_sem]) rfl ⟨rfl, by go_grown⟩
set_option maxHeartbeats 1000000 in
theorem mvalue_max (s : Grain.Sm) (w : World) (h : 1 ≤ s.c) :
  Calls Tryz.prog 30 #[.string ⟨#[109, 97, 120]⟩, .agg #[.int .i64 s.c, .int .i64 s.t, .int .i64 s.mn, .int .i64 s.mx, .int .i64 s.f, .int .i64 s.l, .int .i64 s.r]] w fun e w' => e = .returned (.tuple #[.int .i64 (s.mx), .bool true]) ∧ Below w.heap.size w w' := by
 go_enter Tryz.func30, Tryz.ntmps30
 go_wp2
 exact bodyPost_ret (v := .tuple #[.int .i64 (s.mx), .bool true]) (by simp [results, Tryz.results30, go_sem]) rfl ⟨rfl, by go_grown⟩
set_option maxHeartbeats 1000000 in
theorem mvalue_min (s : Grain.Sm) (w : World) (h : 1 ≤ s.c) :
  Calls Tryz.prog 30 #[.string ⟨#[109, 105, 110]⟩, .agg #[.int .i64 s.c, .int .i64 s.t, .int .i64 s.mn, .int .i64 s.mx, .int .i64 s.f, .int .i64 s.l, .int .i64 s.r]] w fun e w' => e = .returned (.tuple #[.int .i64 (s.mn), .bool true]) ∧ Below w.heap.size w w' := by
 go_enter Tryz.func30, Tryz.ntmps30
 go_wp2
 exact bodyPost_ret (v := .tuple #[.int .i64 (s.mn), .bool true]) (by simp [results, Tryz.results30, go_sem]) rfl ⟨rfl, by go_grown⟩
set_option maxHeartbeats 1000000 in
theorem mvalue_rise (s : Grain.Sm) (w : World) (h : 1 ≤ s.c) :
  Calls Tryz.prog 30 #[.string ⟨#[114, 105, 115, 101]⟩, .agg #[.int .i64 s.c, .int .i64 s.t, .int .i64 s.mn, .int .i64 s.mx, .int .i64 s.f, .int .i64 s.l, .int .i64 s.r]] w fun e w' => e = .returned (.tuple #[.int .i64 (s.r), .bool true]) ∧ Below w.heap.size w w' := by
 go_enter Tryz.func30, Tryz.ntmps30
 go_wp2
 exact bodyPost_ret (v := .tuple #[.int .i64 (s.r), .bool true]) (by simp [results, Tryz.results30, go_sem]) rfl ⟨rfl, by go_grown⟩
set_option maxHeartbeats 1000000 in
theorem mvalue_sum (s : Grain.Sm) (w : World) (h : 1 ≤ s.c) :
  Calls Tryz.prog 30 #[.string ⟨#[115, 117, 109]⟩, .agg #[.int .i64 s.c, .int .i64 s.t, .int .i64 s.mn, .int .i64 s.mx, .int .i64 s.f, .int .i64 s.l, .int .i64 s.r]] w fun e w' => e = .returned (.tuple #[.int .i64 (s.t), .bool true]) ∧ Below w.heap.size w w' := by
 go_enter Tryz.func30, Tryz.ntmps30
 go_wp2
 exact bodyPost_ret (v := .tuple #[.int .i64 (s.t), .bool true]) (by simp [results, Tryz.results30, go_sem]) rfl ⟨rfl, by go_grown⟩
set_option maxHeartbeats 1000000 in
theorem mvalue_below (s : Grain.Sm) (x : ByteArray) (w : World) (h : s.c < 1) :
  Calls Tryz.prog 30 #[.string x, .agg #[.int .i64 s.c, .int .i64 s.t, .int .i64 s.mn, .int .i64 s.mx, .int .i64 s.f, .int .i64 s.l, .int .i64 s.r]] w fun e w' => e = .returned (.tuple #[.int .i64 0, .bool false]) ∧ Below w.heap.size w w' := by
 go_enter Tryz.func30, Tryz.ntmps30
 go_wp2
 exact bodyPost_ret (v := .tuple #[.int .i64 0, .bool false]) (by simp [results, Tryz.results30, go_sem]) rfl ⟨rfl, by go_grown⟩
set_option maxHeartbeats 1000000 in
theorem mvalue_other (s : Grain.Sm) (x : ByteArray) (w : World) (h : 1 ≤ s.c) (h0 : (x.toList == [97, 118, 103]) = false) (h1 : (x.toList == [99, 111, 117, 110, 116]) = false) (h2 : (x.toList == [102, 105, 114, 115, 116]) = false) (h3 : (x.toList == [108, 97, 115, 116]) = false) (h4 : (x.toList == [109, 97, 120]) = false) (h5 : (x.toList == [109, 105, 110]) = false) (h6 : (x.toList == [114, 105, 115, 101]) = false) (h7 : (x.toList == [115, 117, 109]) = false) :
  Calls Tryz.prog 30 #[.string x, .agg #[.int .i64 s.c, .int .i64 s.t, .int .i64 s.mn, .int .i64 s.mx, .int .i64 s.f, .int .i64 s.l, .int .i64 s.r]] w fun e w' => e = .returned (.tuple #[.int .i64 0, .bool false]) ∧ Below w.heap.size w w' := by
 go_enter Tryz.func30, Tryz.ntmps30
 go_wp2
 exact bodyPost_ret (v := .tuple #[.int .i64 0, .bool false]) (by simp [results, Tryz.results30, go_sem]) rfl ⟨rfl, by go_grown⟩
theorem mvalue_any (s : Grain.Sm) (x : ByteArray) (w : World) (t0 : -9223372036854775808 ≤ s.t) (t1 : s.t ≤ 9223372036854775807) :
  Calls Tryz.prog 30 #[.string x, .agg #[.int .i64 s.c, .int .i64 s.t, .int .i64 s.mn, .int .i64 s.mx, .int .i64 s.f, .int .i64 s.l, .int .i64 s.r]] w fun e w' => e = .returned (.tuple #[.int .i64 (valP x s).1, .bool (valP x s).2]) ∧ Below w.heap.size w w' := by
 by_cases hc : s.c < 1
 ·have e : valP x s = (0, false) := by simp [valP, hc]
  rw [e]
  exact mvalue_below s x w hc
 have h : 1 ≤ s.c := by omega
 by_cases h0 : x = lit [97, 118, 103]
 ·have e : valP x s = (s.t.tdiv s.c, true) := by rw [valP, if_neg hc, if_pos h0]
  rw [e, h0]
  exact mvalue_avg s w h t0 t1
 by_cases h1 : x = lit [99, 111, 117, 110, 116]
 ·have e : valP x s = (s.c, true) := by rw [valP, if_neg hc, if_neg h0, if_pos h1]
  rw [e, h1]
  exact mvalue_count s w h
 by_cases h2 : x = lit [102, 105, 114, 115, 116]
 ·have e : valP x s = (s.f, true) := by rw [valP, if_neg hc, if_neg h0, if_neg h1, if_pos h2]
  rw [e, h2]
  exact mvalue_first s w h
 by_cases h3 : x = lit [108, 97, 115, 116]
 ·have e : valP x s = (s.l, true) := by rw [valP, if_neg hc, if_neg h0, if_neg h1, if_neg h2, if_pos h3]
  rw [e, h3]
  exact mvalue_last s w h
 by_cases h4 : x = lit [109, 97, 120]
 ·have e : valP x s = (s.mx, true) := by rw [valP, if_neg hc, if_neg h0, if_neg h1, if_neg h2, if_neg h3, if_pos h4]
  rw [e, h4]
  exact mvalue_max s w h
 by_cases h5 : x = lit [109, 105, 110]
 ·have e : valP x s = (s.mn, true) := by rw [valP, if_neg hc, if_neg h0, if_neg h1, if_neg h2, if_neg h3, if_neg h4, if_pos h5]
  rw [e, h5]
  exact mvalue_min s w h
 by_cases h6 : x = lit [114, 105, 115, 101]
 ·have e : valP x s = (s.r, true) := by rw [valP, if_neg hc, if_neg h0, if_neg h1, if_neg h2, if_neg h3, if_neg h4, if_neg h5, if_pos h6]
  rw [e, h6]
  exact mvalue_rise s w h
 by_cases h7 : x = lit [115, 117, 109]
 ·have e : valP x s = (s.t, true) := by rw [valP, if_neg hc, if_neg h0, if_neg h1, if_neg h2, if_neg h3, if_neg h4, if_neg h5, if_neg h6, if_pos h7]
  rw [e, h7]
  exact mvalue_sum s w h
 ·have e : valP x s = (0, false) := by rw [valP, if_neg hc, if_neg h0, if_neg h1, if_neg h2, if_neg h3, if_neg h4, if_neg h5, if_neg h6, if_neg h7]
  rw [e]
  exact mvalue_other s x w h (list_ne h0) (list_ne h1) (list_ne h2) (list_ne h3) (list_ne h4) (list_ne h5) (list_ne h6) (list_ne h7)
end Go.Proofs.YtoldmigappbjcaaGreatDoor
namespace Go.GrainU
open Go.RowKit
def IsAt (s : List (ByteArray × ByteArray)) (key : ByteArray) (i : Int) : Prop := (i = -1 ∧ find s key = none) ∨ ∃ k : Nat, k < s.length ∧ i = k ∧ find s key = some (lv s k)
end Go.GrainU
namespace Go.Proofs.YtoldmigappbjcaaGreatDoor
open Go.RowKit Go.GrainU
theorem nget1_any (x y key : ByteArray) (B : Nat) (w : World) (hB : w.cell? ⟨B, 0, none⟩ = some (.string key)) :
  Calls Tryz.prog 226 #[.agg #[.string x, .string y], .pointer (some ⟨B, 0, none⟩)] w fun e w' => e = .returned (.bool (decide (x = key))) ∧ Below w.heap.size w w' := by
 have hl : B < w.heap.size := World.block_lt_of_cell? w _ hB
 have bel : Below w.heap.size w (w.alloc (.cells #[.string x, .string y] 88)) := (Below.refl _ _).alloc (Nat.le_refl _) _
 have hW := word_eq x key
 have hW' : (x == key) = decide (x = key) := by rw [Go.beq_toListBytes]; exact hW
 generalize decide (x = key) = D at hW hW' ⊢
 go_enter Tryz.func226, Tryz.ntmps226
 go_wp2
 go_ret
 exact ⟨rfl, bel⟩
set_option maxHeartbeats 1000000 in
theorem nidx_any (s : List (ByteArray × ByteArray)) (key : ByteArray) (B : Nat) (ao : Option Addr) (n c : Nat) (w : World) (ha : Seg w ao (lcells s)) (hB : w.cell? ⟨B, 0, none⟩ = some (.string key)) (hn : n = s.length) (hc : n ≤ 9223372036854775807) :
  Calls Tryz.prog 225 #[.slice ao n c, .func (.func 226) #[] #[.pointer (some ⟨B, 0, none⟩)]] w fun e w' => (∃ i, e = .returned (.int .i64 i) ∧ IsAt s key i) ∧ Below w.heap.size w w' := by
 have hl : B < w.heap.size := World.block_lt_of_cell? w _ hB
 have HN := hide hn
 clear hn
 go_enter Tryz.func225, Tryz.ntmps225
 go_wp2
 go_loopw [8] (fun i wr => ∃ k : Nat, k ≤ n ∧ i = .int .i64 k ∧ Hid (find s key = find (s.drop k) key) ∧ Below w.heap.size w wr) (fun i _ => n - (intOf i).toNat)
 case atStart => exact ⟨0, Nat.zero_le _, rfl, rfl, Below.refl _ _⟩
 case round =>
  obtain ⟨k, hk, rfl, HW, bel⟩ := hrel
  have hsz := bel.size
  by_cases hlt : k < n
  ·have hka : k < s.length := by rw [← HN.out]; exact hlt
   obtain ⟨p, off, rfl, hbl, hcell⟩ := seg_label ha hka
   obtain ⟨x, hx⟩ : ∃ x, x = lk s k := ⟨_, rfl⟩
   obtain ⟨y, hy⟩ : ∃ y, y = lv s k := ⟨_, rfl⟩
   have c0 : wr.cell? ⟨p, off + k * 2, none⟩ = some (.string x) := by rw [hx]; exact (bel.cell (by exact hbl)).trans (hcell k hka).1
   have c1 : wr.cell? ⟨p, off + k * 2 + 1, none⟩ = some (.string y) := by rw [hy]; exact (bel.cell (by exact hbl)).trans (hcell k hka).2
   have cB : wr.cell? ⟨B, 0, none⟩ = some (.string key) := (bel.cell (by exact hl)).trans hB
   have HS : Hid (find s key = if x = key then some (lv s k) else find (s.drop (k + 1)) key) := by
    show _ = _
    rw [HW.out, find_drop hka, hx]
   have HK := hide hka
   clear hx hy hcell hka HW
   go_wp2_with fail
   refine (nget1_any x y key B wr cB).mono ?_
   rintro e w1 ⟨rfl, hb1⟩
   have bel1 : Below w.heap.size w w1 := bel.trans (hb1.mono hsz)
   clear hb1 bel c0 c1 cB
   by_cases e1 : x = key
   ·have hw : Hid (find s key = some (lv s k)) := by show _ = _; rw [HS.out, if_pos e1]
    have hd : decide (x = key) = true := by simpa using e1
    rw [hd]
    clear HS hd e1
    go_wp2
    go_ret
    exact ⟨⟨_, rfl, .inr ⟨k, HK.out, rfl, hw.out⟩⟩, bel1⟩
   ·have hw : Hid (find s key = find (s.drop (k + 1)) key) := by show _ = _; rw [HS.out, if_neg e1]
    have hd : decide (x = key) = false := by simpa using e1
    rw [hd]
    clear HS hd e1
    go_wp2
    go_roundw
    case rel => exact ⟨k + 1, by omega, by go_num, hw, bel1⟩
    case measure => simp [intOf]; omega
  ·have he : k = n := by omega
   subst he
   have hw : Hid (find s key = none) := by
    show _ = _
    rw [HW.out, List.drop_eq_nil_of_le (by rw [← HN.out]; omega)]; rfl
   clear HW
   go_wp2
   go_ret
   exact ⟨⟨_, rfl, .inl ⟨rfl, hw.out⟩⟩, bel⟩
set_option maxHeartbeats 1000000 in
theorem nget_any (s : List (ByteArray × ByteArray)) (key : ByteArray) (ao : Option Addr) (n c : Nat) (w : World) (ha : Seg w ao (lcells s)) (hn : n = s.length) (hc : n ≤ 9223372036854775807) :
  Calls Tryz.prog 200 #[.slice ao n c, .string key] w fun e w' => e = .returned (.tuple #[.string ((find s key).getD ⟨#[]⟩), .bool (find s key).isSome]) ∧ Below w.heap.size w w' := by
 obtain ⟨V, hV⟩ : ∃ V, V = w.alloc (.cells #[.string key] 9) := ⟨_, rfl⟩
 have bel : Below w.heap.size w V := by rw [hV]; exact (Below.refl _ _).alloc (Nat.le_refl _) _
 have cB : V.cell? ⟨w.heap.size, 0, none⟩ = some (.string key) := by rw [hV]; simp
 have hsz := bel.size
 have hVs : V.heap.size = w.heap.size + 1 := by rw [hV]; simp
 have HV := hide hV
 have HN := hide hn
 clear hV hn
 have haV := ha.below bel
 go_enter Tryz.func200, Tryz.ntmps200
 go_wp2_with fail
 rw [← HV.out]
 refine (nidx_any s key w.heap.size ao n c V haV cB HN.out hc).mono ?_
 rintro e w1 ⟨⟨i, rfl, hi⟩, hb1⟩
 have bel1 : Below w.heap.size w w1 := bel.trans (hb1.mono hsz)
 clear hb1
 rcases hi with ⟨rfl, hf⟩ | ⟨k, hk, rfl, hf⟩
 ·have HF := hide hf
  clear hf
  go_wp2
  go_ret2
  exact ⟨by rw [HF.out]; rfl, bel1⟩
 ·have HF := hide hf
  clear hf
  obtain ⟨p, off, rfl, hbl, hcell⟩ := seg_label ha hk
  obtain ⟨y, hy⟩ : ∃ y, y = lv s k := ⟨_, rfl⟩
  have c1 : w1.cell? ⟨p, off + k * 2 + 1, none⟩ = some (.string y) := by rw [hy]; exact (bel1.cell (by exact hbl)).trans (hcell k hk).2
  have HY := hide hy
  have hkn : k < n := by rw [HN.out]; exact hk
  clear hy hcell hk
  go_wp2
  go_ret2
  exact ⟨by rw [HF.out, HY.out]; rfl, bel1⟩
end Go.Proofs.YtoldmigappbjcaaGreatDoor
namespace Go.GrainU
open Go.RowKit
theorem three_cells {w : World} {B : Nat} {x0 x1 x2 : Value} {t : TypeId} {fr : Nat × Nat} (h : w.heap[B]? = some (.cells #[x0, x1, x2] t fr)) :
  w.cell? ⟨B, 0, none⟩ = some x0 ∧ w.cell? ⟨B, 1, none⟩ = some x1 ∧ w.cell? ⟨B, 2, none⟩ = some x2 := by
 simp [World.cell?, h]
end Go.GrainU
namespace Go.Proofs.YtoldmigappbjcaaGreatDoor
open Go.RowKit Go.GrainU
set_option maxHeartbeats 2000000 in
theorem nisso_any (s : List (ByteArray × ByteArray)) (kind : Int) (key val : ByteArray) (ao : Option Addr) (n c : Nat) (w : World) (ha : Seg w ao (lcells s)) (hn : n = s.length) (hc : n ≤ 9223372036854775807) :
  Calls Tryz.prog 161 #[.slice ao n c, .agg #[.int .i64 kind, .string key, .string val]] w fun e w' => e = .returned (.bool (sayM (find s key) ⟨kind, key, val⟩)) ∧ Below w.heap.size w w' := by
 obtain ⟨V, hV⟩ : ∃ V, V = w.alloc (.cells #[.int .i64 kind, .string key, .string val] 183) := ⟨_, rfl⟩
 obtain ⟨X, hX⟩ : ∃ X, X = w.heap.size := ⟨_, rfl⟩
 have F : V.heap[X]? = some (.cells #[.int .i64 kind, .string key, .string val] 183 (0, 0)) := by rw [hV, hX]; exact heap_alloc_new w _
 have bel : Below w.heap.size w V := by rw [hV]; exact (Below.refl _ _).alloc (Nat.le_refl _) _
 have hsz := bel.size
 have haV := ha.below bel
 have HV := hide hV
 have HX := hide hX
 have HN := hide hn
 clear hV hn hX
 obtain ⟨c0, c1, c2⟩ := three_cells F
 obtain ⟨f, hf⟩ : ∃ f, f = find s key := ⟨_, rfl⟩
 have HF := hide hf
 rw [← hf]
 clear hf
 go_enter Tryz.func161, Tryz.ntmps161
 go_wp2_with fail
 rw [← HV.out, ← HX.out]
 refine (nget_any s key ao n c V haV HN.out hc).mono ?_
 rintro e w1 ⟨rfl, hb1⟩
 rw [← HF.out]
 have F1 := below_block hb1 F
 have bel1 : Below w.heap.size w w1 := bel.trans (hb1.mono hsz)
 clear hb1 c0 c1 c2 haV F HV HX
 obtain ⟨c0, c1, c2⟩ := three_cells F1
 clear F1
 by_cases g1 : kind = 1
 ·subst g1
  cases f with
  | none =>
   go_wp2
   go_ret
   exact ⟨rfl, bel1⟩
  | some u =>
   have hW := word_eq u val
   have hW' : (u == val) = decide (u = val) := by rw [Go.beq_toListBytes]; exact hW
   have HS : Hid (sayM (some u) ⟨1, key, val⟩ = decide (u = val)) := by show _ = _; simp [sayM]
   generalize decide (u = val) = D at hW hW' HS
   go_wp2
   go_ret
   exact ⟨ret_bool HS.out.symm, bel1⟩
 ·have b1 : (kind == 1) = false := by simpa using g1
  by_cases g2 : kind = 2
  ·subst g2
   cases f with
   | none =>
    go_wp2
    go_ret
    exact ⟨rfl, bel1⟩
   | some u =>
    have hW := word_eq u val
    have hW' : (u == val) = decide (u = val) := by rw [Go.beq_toListBytes]; exact hW
    have HS : Hid (sayM (some u) ⟨2, key, val⟩ = !decide (u = val)) := by show _ = _; simp [sayM]
    generalize decide (u = val) = D at hW hW' HS
    go_wp2
    go_ret
    exact ⟨ret_bool HS.out.symm, bel1⟩
  ·have b2 : (kind == 2) = false := by simpa using g2
   by_cases g3 : kind = 3
   ·subst g3
    have HS : Hid (sayM f ⟨3, key, val⟩ = f.isSome) := by show _ = _; simp [sayM]
    generalize f.isSome = D at HS
    go_wp2
    go_ret
    exact ⟨ret_bool HS.out.symm, bel1⟩
   ·have b3 : (kind == 3) = false := by simpa using g3
    by_cases g4 : kind = 4
    ·subst g4
     have HS : Hid (sayM f ⟨4, key, val⟩ = !f.isSome) := by show _ = _; simp [sayM]
     generalize f.isSome = D at HS
     go_wp2
     go_ret
     exact ⟨ret_bool HS.out.symm, bel1⟩
    ·have b4 : (kind == 4) = false := by simpa using g4
     have HS : Hid (sayM f ⟨kind, key, val⟩ = false) := by show _ = _; simp [sayM, g1, g2, g3, g4]
     clear g1 g2 g3 g4
     go_wp2
     go_ret
     exact ⟨ret_bool HS.out.symm, bel1⟩
set_option maxHeartbeats 1000000 in
theorem nmat1_any (s : List (ByteArray × ByteArray)) (kind : Int) (key val : ByteArray) (B : Nat) (ao : Option Addr) (n c : Nat) (w : World) (ha : Seg w ao (lcells s)) (hB : w.cell? ⟨B, 0, none⟩ = some (.slice ao n c)) (hn : n = s.length) (hc : n ≤ 9223372036854775807) :
  Calls Tryz.prog 160 #[.agg #[.int .i64 kind, .string key, .string val], .pointer (some ⟨B, 0, none⟩)] w fun e w' => e = .returned (.bool (!sayM (find s key) ⟨kind, key, val⟩)) ∧ Below w.heap.size w w' := by
 have hl : B < w.heap.size := World.block_lt_of_cell? w _ hB
 have bel : Below w.heap.size w (w.alloc (.cells #[.int .i64 kind, .string key, .string val] 183)) := (Below.refl _ _).alloc (Nat.le_refl _) _
 have hsz := bel.size
 have haV := ha.below bel
 have HN := hide hn
 clear hn
 obtain ⟨D, hD⟩ : ∃ D, D = sayM (find s key) ⟨kind, key, val⟩ := ⟨_, rfl⟩
 rw [← hD]
 have HD := hide hD
 clear hD
 go_enter Tryz.func160, Tryz.ntmps160
 go_wp2_with fail
 refine (nisso_any s kind key val ao n c _ haV HN.out hc).mono ?_
 rintro e w1 ⟨rfl, hb1⟩
 rw [← HD.out]
 have bel1 : Below w.heap.size w w1 := bel.trans (hb1.mono hsz)
 clear hb1
 go_wp2
 go_ret
 exact ⟨rfl, bel1⟩
set_option maxHeartbeats 1000000 in
theorem nidxm_any (s : List (ByteArray × ByteArray)) (l : List Mt) (B : Nat) (ao bo : Option Addr) (n c m c' : Nat) (w : World) (ha : Seg w ao (lcells s)) (hb : Seg w bo (mcells l)) (hB : w.cell? ⟨B, 0, none⟩ = some (.slice ao n c)) (hn : n = s.length) (hm : m = l.length) (hc : n ≤ 9223372036854775807) (hc' : m ≤ 9223372036854775807) :
  Calls Tryz.prog 199 #[.slice bo m c', .func (.func 160) #[] #[.pointer (some ⟨B, 0, none⟩)]] w fun e w' => (∃ i : Int, e = .returned (.int .i64 i) ∧ decide (0 ≤ i) = !says s l) ∧ Below w.heap.size w w' := by
 have hl : B < w.heap.size := World.block_lt_of_cell? w _ hB
 have HN := hide hn
 have HM := hide hm
 clear hn hm
 go_enter Tryz.func199, Tryz.ntmps199
 go_wp2
 go_loopw [8] (fun i wr => ∃ k : Nat, k ≤ m ∧ i = .int .i64 k ∧ Hid (says s (l.take k) = true) ∧ Below w.heap.size w wr) (fun i _ => m - (intOf i).toNat)
 case atStart => exact ⟨0, Nat.zero_le _, rfl, by show says s (l.take 0) = true; simp [says], Below.refl _ _⟩
 case round =>
  obtain ⟨k, hk, rfl, HW, bel⟩ := hrel
  have hsz := bel.size
  by_cases hlt : k < m
  ·have hka : k < l.length := by rw [← HM.out]; exact hlt
   obtain ⟨p, off, rfl, hbl, hcell⟩ := seg_match hb hka
   obtain ⟨kind, hkd⟩ : ∃ x, x = (mt l k).kind := ⟨_, rfl⟩
   obtain ⟨key, hky⟩ : ∃ x, x = (mt l k).key := ⟨_, rfl⟩
   obtain ⟨val, hvl⟩ : ∃ x, x = (mt l k).val := ⟨_, rfl⟩
   have c0 : wr.cell? ⟨p, off + k * 3, none⟩ = some (.int .i64 kind) := by rw [hkd]; exact (bel.cell (by exact hbl)).trans (hcell k hka).1
   have c1 : wr.cell? ⟨p, off + k * 3 + 1, none⟩ = some (.string key) := by rw [hky]; exact (bel.cell (by exact hbl)).trans (hcell k hka).2.1
   have c2 : wr.cell? ⟨p, off + k * 3 + 2, none⟩ = some (.string val) := by rw [hvl]; exact (bel.cell (by exact hbl)).trans (hcell k hka).2.2
   have cB : wr.cell? ⟨B, 0, none⟩ = some (.slice ao n c) := (bel.cell (by exact hl)).trans hB
   have haw := ha.below bel
   obtain ⟨D, hD⟩ : ∃ D, D = sayM (find s key) ⟨kind, key, val⟩ := ⟨_, rfl⟩
   have hmt : (⟨kind, key, val⟩ : Mt) = mt l k := by rw [hkd, hky, hvl]
   have YES : Hid (D = true → says s (l.take (k + 1)) = true) := by
    intro h
    rw [says_take hka, HW.out, ← hmt, ← hD, h]; rfl
   have NO : Hid (D = false → says s l = false) := by
    intro h
    refine says_no hka ?_
    rw [← hmt, ← hD, h]
   have HD := hide hD
   clear hkd hky hvl hcell hka HW hD hmt
   go_wp2_with fail
   refine (nmat1_any s kind key val B ao n c wr haw cB HN.out hc).mono ?_
   rintro e w1 ⟨rfl, hb1⟩
   rw [← HD.out]
   have bel1 : Below w.heap.size w w1 := bel.trans (hb1.mono hsz)
   clear hb1 bel c0 c1 c2 cB haw HD
   cases D with
   | false =>
    have hw := hide (NO.out rfl)
    clear YES NO
    go_wp2
    go_ret
    exact ⟨⟨_, rfl, by rw [hw.out]; simp⟩, bel1⟩
   | true =>
    have hw := hide (YES.out rfl)
    clear YES NO
    go_wp2
    go_roundw
    case rel => exact ⟨k + 1, by omega, by go_num, hw, bel1⟩
    case measure => simp [intOf]; omega
  ·have he : k = m := by omega
   subst he
   have hw : Hid (says s l = true) := by
    show _ = _
    have := HW.out
    rwa [List.take_of_length_le (by rw [← HM.out]; omega)] at this
   clear HW
   go_wp2
   go_ret
   exact ⟨⟨_, rfl, by rw [hw.out]; decide⟩, bel⟩
set_option maxHeartbeats 1000000 in
theorem nhasf_any (s : List (ByteArray × ByteArray)) (l : List Mt) (B : Nat) (ao bo : Option Addr) (n c m c' : Nat) (w : World) (ha : Seg w ao (lcells s)) (hb : Seg w bo (mcells l)) (hB : w.cell? ⟨B, 0, none⟩ = some (.slice ao n c)) (hn : n = s.length) (hm : m = l.length) (hc : n ≤ 9223372036854775807) (hc' : m ≤ 9223372036854775807) :
  Calls Tryz.prog 159 #[.slice bo m c', .func (.func 160) #[] #[.pointer (some ⟨B, 0, none⟩)]] w fun e w' => e = .returned (.bool (!says s l)) ∧ Below w.heap.size w w' := by
 have HN := hide hn
 have HM := hide hm
 clear hn hm
 obtain ⟨D, hD⟩ : ∃ D, D = !says s l := ⟨_, rfl⟩
 rw [← hD]
 have HD := hide hD
 clear hD
 go_enter Tryz.func159, Tryz.ntmps159
 go_wp2_with fail
 refine (nidxm_any s l B ao bo n c m c' w ha hb hB HN.out HM.out hc hc').mono ?_
 rintro e w1 ⟨⟨i, rfl, hi⟩, hb1⟩
 rw [← HD.out] at hi
 go_wp2
 go_ret
 exact ⟨rfl, hb1⟩
set_option maxHeartbeats 1000000 in
theorem nmatches_any (s : List (ByteArray × ByteArray)) (l : List Mt) (ao bo : Option Addr) (n c m c' : Nat) (w : World) (ha : Seg w ao (lcells s)) (hb : Seg w bo (mcells l)) (hn : n = s.length) (hm : m = l.length) (hc : n ≤ 9223372036854775807) (hc' : m ≤ 9223372036854775807) :
  Calls Tryz.prog 112 #[.slice ao n c, .slice bo m c'] w fun e w' => e = .returned (.bool (says s l)) ∧ Below w.heap.size w w' := by
 obtain ⟨V, hV⟩ : ∃ V, V = w.alloc (.cells #[.slice ao n c] 32) := ⟨_, rfl⟩
 have bel : Below w.heap.size w V := by rw [hV]; exact (Below.refl _ _).alloc (Nat.le_refl _) _
 have cB : V.cell? ⟨w.heap.size, 0, none⟩ = some (.slice ao n c) := by rw [hV]; simp
 have hsz := bel.size
 have HV := hide hV
 have HN := hide hn
 have HM := hide hm
 clear hV hn hm
 have haV := ha.below bel
 have hbV := hb.below bel
 obtain ⟨D, hD⟩ : ∃ D, D = says s l := ⟨_, rfl⟩
 rw [← hD]
 have HD := hide hD
 clear hD
 go_enter Tryz.func112, Tryz.ntmps112
 go_wp2_with fail
 rw [← HV.out]
 refine (nhasf_any s l w.heap.size ao bo n c m c' V haV hbV cB HN.out HM.out hc hc').mono ?_
 rintro e w1 ⟨rfl, hb1⟩
 rw [← HD.out]
 have bel1 : Below w.heap.size w w1 := bel.trans (hb1.mono hsz)
 clear hb1
 go_wp2
 go_ret
 exact ⟨ret_bool (by simp), bel1⟩
end Go.Proofs.YtoldmigappbjcaaGreatDoor
