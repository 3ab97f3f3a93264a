import Derived.Test.YtoldmigappbjcaaGreatDoorL22
import Derived.Test.YtoldmigappbjcaaGreatDoorL35
namespace Go.GrainU
open Go.RowKit
theorem list_ne {x : ByteArray} {l : List UInt8} (h : ¬ x = lit l) : (x.toList == l) = false := by
 have := (word_ne h).2
 rw [show (lit l).toList = l from ByteArray.toList_mk l] at this
 exact this
end Go.GrainU
namespace Go.Proofs.YtoldmigappbjcaaGreatDoor
open Go.RowKit Go.GrainU
set_option maxHeartbeats 1000000 in
theorem mvalue_avg (s : Grain.Sm) (w : World) (h : 1 ≤ s.c) (h0 : -9223372036854775808 ≤ s.t) (h1 : s.t ≤ 9223372036854775807) :
  Calls Tryz.prog 30 #[.string ⟨#[97, 118, 103]⟩, .agg #[.int .i64 s.c, .int .i64 s.t, .int .i64 s.mn, .int .i64 s.mx, .int .i64 s.f, .int .i64 s.l, .int .i64 s.r]] w fun e w' => e = .returned (.tuple #[.int .i64 (s.t.tdiv s.c), .bool true]) ∧ Below w.heap.size w w' := by
 have hq := wrap_i64_tdiv s.t s.c h0 h1 h
 have hz : (s.c == 0) = false := by simp; omega
 go_enter Tryz.func30, Tryz.ntmps30
 go_wp2
 exact bodyPost_ret (v := .tuple #[.int .i64 (s.t.tdiv s.c), .bool true]) (by simp [results, Tryz.results30, go_sem]) rfl ⟨rfl, by go_grown⟩
set_option maxHeartbeats 1000000 in
theorem mvalue_count (s : Grain.Sm) (w : World) (h : 1 ≤ s.c) :
  Calls Tryz.prog 30 #[.string ⟨#[99, 111, 117, 110, 116]⟩, .agg #[.int .i64 s.c, .int .i64 s.t, .int .i64 s.mn, .int .i64 s.mx, .int .i64 s.f, .int .i64 s.l, .int .i64 s.r]] w fun e w' => e = .returned (.tuple #[.int .i64 (s.c), .bool true]) ∧ Below w.heap.size w w' := by
 go_enter Tryz.func30, Tryz.ntmps30
 go_wp2
 exact bodyPost_ret (v := .tuple #[.int .i64 (s.c), .bool true]) (by simp [results, Tryz.results30, go_sem]) rfl ⟨rfl, by go_grown⟩
set_option maxHeartbeats 1000000 in
theorem mvalue_first (s : Grain.Sm) (w : World) (h : 1 ≤ s.c) :
  Calls Tryz.prog 30 #[.string ⟨#[102, 105, 114, 115, 116]⟩, .agg #[.int .i64 s.c, .int .i64 s.t, .int .i64 s.mn, .int .i64 s.mx, .int .i64 s.f, .int .i64 s.l, .int .i64 s.r]] w fun e w' => e = .returned (.tuple #[.int .i64 (s.f), .bool true]) ∧ Below w.heap.size w w' := by
 go_enter Tryz.func30, Tryz.ntmps30
 go_wp2
 exact bodyPost_ret (v := .tuple #[.int .i64 (s.f), .bool true]) (by simp [results, Tryz.results30, go_sem]) rfl ⟨rfl, by go_grown⟩
set_option maxHeartbeats 1000000 in
theorem mvalue_last (s : Grain.Sm) (w : World) (h : 1 ≤ s.c) :
  Calls Tryz.prog 30 #[.string ⟨#[108, 97, 115, 116]⟩, .agg #[.int .i64 s.c, .int .i64 s.t, .int .i64 s.mn, .int .i64 s.mx, .int .i64 s.f, .int .i64 s.l, .int .i64 s.r]] w fun e w' => e = .returned (.tuple #[.int .i64 (s.l), .bool true]) ∧ Below w.heap.size w w' := by
 go_enter Tryz.func30, Tryz.ntmps30
 go_wp2
 exact bodyPost_ret (v := .tuple #[.int .i64 (s.l), .bool true]) (by simp [results, Tryz.results30, go_sem]) rfl ⟨rfl, by go_grown⟩
set_option maxHeartbeats 1000000 in
theorem mvalue_max (s : Grain.Sm) (w : World) (h : 1 ≤ s.c) :
  Calls Tryz.prog 30 #[.string ⟨#[109, 97, 120]⟩, .agg #[.int .i64 s.c, .int .i64 s.t, .int .i64 s.mn, .int .i64 s.mx, .int .i64 s.f, .int .i64 s.l, .int .i64 s.r]] w fun e w' => e = .returned (.tuple #[.int .i64 (s.mx), .bool true]) ∧ Below w.heap.size w w' := by
 go_enter Tryz.func30, Tryz.ntmps30
 go_wp2
 exact bodyPost_ret (v := .tuple #[.int .i64 (s.mx), .bool true]) (by simp [results, Tryz.results30, go_sem]) rfl ⟨rfl, by go_grown⟩
set_option maxHeartbeats 1000000 in
theorem mvalue_min (s : Grain.Sm) (w : World) (h : 1 ≤ s.c) :
  Calls Tryz.prog 30 #[.string ⟨#[109, 105, 110]⟩, .agg #[.int .i64 s.c, .int .i64 s.t, .int .i64 s.mn, .int .i64 s.mx, .int .i64 s.f, .int .i64 s.l, .int .i64 s.r]] w fun e w' => e = .returned (.tuple #[.int .i64 (s.mn), .bool true]) ∧ Below w.heap.size w w' := by
 go_enter Tryz.func30, Tryz.ntmps30
 go_wp2
 exact bodyPost_ret (v := .tuple #[.int .i64 (s.mn), .bool true]) (by simp [results, Tryz.results30, go_sem]) rfl ⟨rfl, by go_grown⟩
set_option maxHeartbeats 1000000 in
theorem mvalue_rise (s : Grain.Sm) (w : World) (h : 1 ≤ s.c) :
  Calls Tryz.prog 30 #[.string ⟨#[114, 105, 115, 101]⟩, .agg #[.int .i64 s.c, .int .i64 s.t, .int .i64 s.mn, .int .i64 s.mx, .int .i64 s.f, .int .i64 s.l, .int .i64 s.r]] w fun e w' => e = .returned (.tuple #[.int .i64 (s.r), .bool true]) ∧ Below w.heap.size w w' := by
 go_enter Tryz.func30, Tryz.ntmps30
 go_wp2
 exact bodyPost_ret (v := .tuple #[.int .i64 (s.r), .bool true]) (by simp [results, Tryz.results30, go_sem]) rfl ⟨rfl, by go_grown⟩
set_option maxHeartbeats 1000000 in
theorem mvalue_sum (s : Grain.Sm) (w : World) (h : 1 ≤ s.c) :
  Calls Tryz.prog 30 #[.string ⟨#[115, 117, 109]⟩, .agg #[.int .i64 s.c, .int .i64 s.t, .int .i64 s.mn, .int .i64 s.mx, .int .i64 s.f, .int .i64 s.l, .int .i64 s.r]] w fun e w' => e = .returned (.tuple #[.int .i64 (s.t), .bool true]) ∧ Below w.heap.size w w' := by
 go_enter Tryz.func30, Tryz.ntmps30
 go_wp2
 exact bodyPost_ret (v := .tuple #[.int .i64 (s.t), .bool true]) (by simp [results, Tryz.results30, go_sem]) rfl ⟨rfl, by go_grown⟩
set_option maxHeartbeats 1000000 in
theorem mvalue_below (s : Grain.Sm) (x : ByteArray) (w : World) (h : s.c < 1) :
  Calls Tryz.prog 30 #[.string x, .agg #[.int .i64 s.c, .int .i64 s.t, .int .i64 s.mn, .int .i64 s.mx, .int .i64 s.f, .int .i64 s.l, .int .i64 s.r]] w fun e w' => e = .returned (.tuple #[.int .i64 0, .bool false]) ∧ Below w.heap.size w w' := by
 go_enter Tryz.func30, Tryz.ntmps30
 go_wp2
 exact bodyPost_ret (v := .tuple #[.int .i64 0, .bool false]) (by simp [results, Tryz.results30, go_sem]) rfl ⟨rfl, by go_grown⟩
set_option maxHeartbeats 1000000 in
theorem mvalue_other (s : Grain.Sm) (x : ByteArray) (w : World) (h : 1 ≤ s.c) (h0 : (x.toList == [97, 118, 103]) = false) (h1 : (x.toList == [99, 111, 117, 110, 116]) = false) (h2 : (x.toList == [102, 105, 114, 115, 116]) = false) (h3 : (x.toList == [108, 97, 115, 116]) = false) (h4 : (x.toList == [109, 97, 120]) = false) (h5 : (x.toList == [109, 105, 110]) = false) (h6 : (x.toList == [114, 105, 115, 101]) = false) (h7 : (x.toList == [115, 117, 109]) = false) :
  Calls Tryz.prog 30 #[.string x, .agg #[.int .i64 s.c, .int .i64 s.t, .int .i64 s.mn, .int .i64 s.mx, .int .i64 s.f, .int .i64 s.l, .int .i64 s.r]] w fun e w' => e = .returned (.tuple #[.int .i64 0, .bool false]) ∧ Below w.heap.size w w' := by
 go_enter Tryz.func30, Tryz.ntmps30
 go_wp2
 exact bodyPost_ret (v := .tuple #[.int .i64 0, .bool false]) (by simp [results, Tryz.results30, go_sem]) rfl ⟨rfl, by go_grown⟩
theorem mvalue_any (s : Grain.Sm) (x : ByteArray) (w : World) (t0 : -9223372036854775808 ≤ s.t) (t1 : s.t ≤ 9223372036854775807) :
  Calls Tryz.prog 30 #[.string x, .agg #[.int .i64 s.c, .int .i64 s.t, .int .i64 s.mn, .int .i64 s.mx, .int .i64 s.f, .int .i64 s.l, .int .i64 s.r]] w fun e w' => e = .returned (.tuple #[.int .i64 (valP x s).1, .bool (valP x s).2]) ∧ Below w.heap.size w w' := by
 by_cases hc : s.c < 1
 ·have e : valP x s = (0, false) := by simp [valP, hc]
  rw [e]
  exact mvalue_below s x w hc
 have h : 1 ≤ s.c := by omega
 by_cases h0 : x = lit [97, 118, 103]
 ·have e : valP x s = (s.t.tdiv s.c, true) := by rw [valP, if_neg hc, if_pos h0]
  rw [e, h0]
  exact mvalue_avg s w h t0 t1
 by_cases h1 : x = lit [99, 111, 117, 110, 116]
 ·have e : valP x s = (s.c, true) := by rw [valP, if_neg hc, if_neg h0, if_pos h1]
  rw [e, h1]
  exact mvalue_count s w h
 by_cases h2 : x = lit [102, 105, 114, 115, 116]
 ·have e : valP x s = (s.f, true) := by rw [valP, if_neg hc, if_neg h0, if_neg h1, if_pos h2]
  rw [e, h2]
  exact mvalue_first s w h
 by_cases h3 : x = lit [108, 97, 115, 116]
 ·have e : valP x s = (s.l, true) := by rw [valP, if_neg hc, if_neg h0, if_neg h1, if_neg h2, if_pos h3]
  rw [e, h3]
  exact mvalue_last s w h
 by_cases h4 : x = lit [109, 97, 120]
 ·have e : valP x s = (s.mx, true) := by rw [valP, if_neg hc, if_neg h0, if_neg h1, if_neg h2, if_neg h3, if_pos h4]
  rw [e, h4]
  exact mvalue_max s w h
 by_cases h5 : x = lit [109, 105, 110]
 ·have e : valP x s = (s.mn, true) := by rw [valP, if_neg hc, if_neg h0, if_neg h1, if_neg h2, if_neg h3, if_neg h4, if_pos h5]
  rw [e, h5]
  exact mvalue_min s w h
 by_cases h6 : x = lit [114, 105, 115, 101]
 ·have e : valP x s = (s.r, true) := by rw [valP, if_neg hc, if_neg h0, if_neg h1, if_neg h2, if_neg h3, if_neg h4, if_neg h5, if_pos h6]
  rw [e, h6]
  exact mvalue_rise s w h
 by_cases h7 : x = lit [115, 117, 109]
 ·have e : valP x s = (s.t, true) := by rw [valP, if_neg hc, if_neg h0, if_neg h1, if_neg h2, if_neg h3, if_neg h4, if_neg h5, if_neg h6, if_pos h7]
  rw [e, h7]
  exact mvalue_sum s w h
 ·have e : valP x s = (0, false) := by rw [valP, if_neg hc, if_neg h0, if_neg h1, if_neg h2, if_neg h3, if_neg h4, if_neg h5, if_neg h6, if_neg h7]
  rw [e]
  exact mvalue_other s x w h (list_ne h0) (list_ne h1) (list_ne h2) (list_ne h3) (list_ne h4) (list_ne h5) (list_ne h6) (list_ne h7)
end Go.Proofs.YtoldmigappbjcaaGreatDoor
