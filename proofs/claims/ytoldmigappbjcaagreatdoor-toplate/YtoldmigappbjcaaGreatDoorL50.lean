/-
  For every input, TopLate returns true: a sample of a time that was rolled is too late; one from then on is not, if it is the newest. The listed variables of the library (internal/strconv.uint64pow10, math/bits.deBruijn32tab, math/bits.deBruijn64tab, strconv.ErrRange, strconv.ErrSyntax) start as the program's text lays them: the card ties them. No other condition
-/
import Derived.ChangeMaps5
import Derived.LaidHandle
import Derived.LaidMore
import Derived.Lib.LaidTab
import Derived.MakeChecks
import Derived.SevenTiedAt
import Derived.Stop.Joined
import Derived.Stop.LaidErr
import Derived.Test.YtoldmigappbjcaaGreatDoorCards
import Derived.Test.YtoldmigappbjcaaGreatDoorL02
import Derived.Test.YtoldmigappbjcaaGreatDoorL14
import Derived.Test.YtoldmigappbjcaaGreatDoorL49
import Derived.Test.YtoldmigappbjcaaGreatDoorTie
namespace Go.Proofs.YtoldmigappbjcaaGreatDoor
open Go.RowKit Go.GrainU
def aB : ByteArray := ⟨#[97]⟩
def bB : ByteArray := ⟨#[98]⟩
theorem late_a {a t b : Int} (ha : 0 ≤ a ∧ a ≤ 1000) (ht : 0 ≤ t ∧ t ≤ 1000) (hb : 0 ≤ b ∧ b ≤ 1000) : (lastA [dAdd aB a 1, dRoll t, dAdd aB b 2]).err = if b < t - t % 10 ∨ b ≤ a then 9 else 0 := by
 unfold lastA
 rw [lastA3]
 have h1 : (doB b0 (dAdd aB a 1)).1 = (takeB b0 [(hostB, aB)] a 1).1 := rfl
 rw [h1]
 have h2 : ∀ x, (doB x (dRoll t)).1 = (rollB x t).1 := fun x => rfl
 rw [h2]
 exact late_same (s := [(hostB, aB)]) (a := a) (t := t) (b := b) (v := 1) (u := 2) (by kernel_rfl) (by simp [Grain.inR]; omega) ht.1 (by omega) (by simp [Grain.inR]; omega)
theorem late_b {a t b : Int} (ha : 0 ≤ a ∧ a ≤ 1000) (ht : 0 ≤ t ∧ t ≤ 1000) (hb : 0 ≤ b ∧ b ≤ 1000) : (lastA [dAdd aB a 1, dRoll t, dAdd bB b 2]).err = if b < t - t % 10 then 9 else 0 := by
 unfold lastA
 rw [lastA3]
 have h1 : (doB b0 (dAdd aB a 1)).1 = (takeB b0 [(hostB, aB)] a 1).1 := rfl
 rw [h1]
 have h2 : ∀ x, (doB x (dRoll t)).1 = (rollB x t).1 := fun x => rfl
 rw [h2]
 exact late_other (s := [(hostB, aB)]) (s' := [(hostB, bB)]) (a := a) (t := t) (b := b) (v := 1) (u := 2) (by kernel_rfl) (by kernel_rfl) (by decide +kernel) (by simp [Grain.inR]; omega) ht.1 (by omega) (by simp [Grain.inR]; omega)
theorem tthree_any (h1 h2 : ByteArray) (a t b : Int) (w : World) (S1 S2 : Nat) (hv : ErrV w) (d1 : DIn w ⟨dAdd h1 a 1, some ⟨S1, 0, none⟩, 1⟩) (d2 : DIn w ⟨dAdd h2 b 2, some ⟨S2, 0, none⟩, 1⟩) :
  Calls Tryz.prog 28 #[.slice (some ⟨w.heap.size, 0, none⟩) 3 3] (w.alloc (.cells #[.int .i64 1, .int .i64 0, .int .i64 0, .slice (some ⟨S1, 0, none⟩) 1 1, .int .i64 a, .int .i64 1, .string ⟨#[]⟩, .int .i64 2, .int .i64 0, .int .i64 t, .slice none 0 0, .int .i64 0, .int .i64 0, .string ⟨#[]⟩, .int .i64 1, .int .i64 0, .int .i64 0, .slice (some ⟨S2, 0, none⟩) 1 1, .int .i64 b, .int .i64 2, .string ⟨#[]⟩] 36)) fun e w' => ∃ (y1 y3 : Int) (co : Option Addr) (M d : Nat), e = .returned (.agg #[.int .i64 (lastA [dAdd h1 a 1, dRoll t, dAdd h2 b 2]).err, .int .i64 y1, .slice co M d, .int .i64 y3]) ∧ Below w.heap.size w w' := by
 refine (last3 ⟨dAdd h1 a 1, some ⟨S1, 0, none⟩, 1⟩ ⟨dRoll t, none, 0⟩ ⟨dAdd h2 b 2, some ⟨S2, 0, none⟩, 1⟩ w _ rfl d1 (din_none _ _ rfl (by show (ByteArray.mk #[]).size ≤ _; decide)) d2 hv).mono ?_
 rintro e w' ⟨y, rfl, hy, _, hb⟩
 exact ⟨_, _, _, _, _, by rw [← hy], hb⟩
set_option maxRecDepth 20000 in
set_option maxHeartbeats 4000000 in
theorem tlate_any (a t b : Int) (w : World) (hv : ErrV w) : Calls Tryz.prog 11 #[.int .i64 a, .int .i64 t, .int .i64 b] w fun e w' => e = .returned (.bool true) ∧ Below w.heap.size w w' := by
 have P0 := hide (talive_any w hv)
 have HV := hide hv
 clear hv
 by_cases hin : (0 ≤ a ∧ a ≤ 1000) ∧ (0 ≤ t ∧ t ≤ 1000) ∧ (0 ≤ b ∧ b ≤ 1000)
 ·obtain ⟨ha, ht, hb⟩ := hin
  have LA := hide (late_a ha ht hb)
  have LB := hide (late_b ha ht hb)
  have a1 : ¬ a < 0 := by omega
  have a2 : ¬ 1000 < a := by omega
  have t1 : ¬ t < 0 := by omega
  have t2 : ¬ 1000 < t := by omega
  have b1 : ¬ b < 0 := by omega
  have b2 : ¬ 1000 < b := by omega
  go_enter Tryz.func11, Tryz.ntmps11
  go_wp2_with fail
  refine P0.out.mono ?_
  rintro e w1 ⟨rfl, b1'⟩
  have v1 := HV.out.below b1'
  have HB1 := hide b1'
  clear P0 b1' HV
  have A1 := hide (tadd_any aB a 1 w1 (by decide))
  unfold aB at A1
  go_wp2_with fail
  refine A1.out.mono ?_
  rintro e w2 ⟨S1, rfl, d1, b2'⟩
  have bel2 := below_step b2' HB1.out
  have v2 := v1.below b2'
  clear A1 HB1 v1 b2'
  go_wp2_with fail
  refine (troll_any t w2).mono ?_
  rintro e w3 ⟨rfl, b3'⟩
  have bel3 := below_step b3' bel2
  have v3 := v2.below b3'
  have d1' := d1.below b3'
  clear d1 bel2 v2 b3'
  have A2 := hide (tadd_any aB b 2 w3 (by decide))
  unfold aB at A2
  go_wp2_with fail
  refine A2.out.mono ?_
  rintro e w4 ⟨S2, rfl, d2, b4'⟩
  have bel4 := below_step b4' bel3
  have v4 := v3.below b4'
  have PL := hide (tthree_any aB aB a t b w4 S1 S2 v4 (d1'.below b4') d2)
  rw [LA.out] at PL
  clear A2 d1' d2 bel3 v3 b4' LA
  obtain ⟨E1, hE1⟩ : ∃ E, E = (if b < t - t % 10 ∨ b ≤ a then (9 : Int) else 0) := ⟨_, rfl⟩
  rw [← hE1] at PL
  have HE1 := hide hE1
  clear hE1
  go_wp2_with fail
  refine PL.out.mono ?_
  rintro e w5 ⟨y1, y3, co, M, d, rfl, b5'⟩
  have bel5 := below_step b5' bel4
  have v5 := v4.below b5'
  clear PL v4 bel4 b5'
  obtain ⟨W5, hW5⟩ : ∃ W5, W5 = w5.alloc (.cells #[.int .i64 E1, .int .i64 y1, .slice co M d, .int .i64 y3] 48) := ⟨_, rfl⟩
  have b5 : Below w5.heap.size w5 W5 := by rw [hW5]; exact (Below.refl _ _).alloc (Nat.le_refl _) _
  have X5 : W5.heap[w5.heap.size]? = some (.cells #[.int .i64 E1, .int .i64 y1, .slice co M d, .int .i64 y3] 48 (0, 0)) := by rw [hW5]; exact heap_alloc_new w5 _
  have bel6 := below_step b5 bel5
  have v6 := v5.below b5
  have HW5 := hide hW5
  clear hW5 bel5 v5 b5
  have A3 := hide (tadd_any aB a 1 W5 (by decide))
  unfold aB at A3
  go_wp2_with fail
  rw [← HW5.out]
  refine A3.out.mono ?_
  rintro e w7 ⟨S3, rfl, d3, b7'⟩
  have bel7 := below_step b7' bel6
  have v7 := v6.below b7'
  have X7 := below_block b7' X5
  clear A3 bel6 v6 b7' X5
  go_wp2_with fail
  refine (troll_any t w7).mono ?_
  rintro e w8 ⟨rfl, b8'⟩
  have bel8 := below_step b8' bel7
  have v8 := v7.below b8'
  have X8 := below_block b8' X7
  have d3' := d3.below b8'
  clear d3 bel7 v7 b8' X7
  have A4 := hide (tadd_any bB b 2 w8 (by decide))
  unfold bB at A4
  go_wp2_with fail
  refine A4.out.mono ?_
  rintro e w9 ⟨S4, rfl, d4, b9'⟩
  have bel9 := below_step b9' bel8
  have v9 := v8.below b9'
  have X9 := below_block b9' X8
  have PL2 := hide (tthree_any aB bB a t b w9 S3 S4 v9 (d3'.below b9') d4)
  rw [LB.out] at PL2
  clear A4 d3' d4 bel8 v8 b9' LB X8
  obtain ⟨E2, hE2⟩ : ∃ E, E = (if b < t - t % 10 then (9 : Int) else 0) := ⟨_, rfl⟩
  rw [← hE2] at PL2
  have HE2 := hide hE2
  clear hE2
  go_wp2_with fail
  refine PL2.out.mono ?_
  rintro e w10 ⟨z1, z3, co2, M2, d2, rfl, b10'⟩
  have bel10 := below_step b10' bel9
  have X10 := below_block b10' X9
  have hs10 : w5.heap.size < w10.heap.size := lt_of_block X10
  have c10 : w10.cell? ⟨w5.heap.size, 0, none⟩ = some (.int .i64 E1) := by simp [World.cell?, X10]
  have HB10 : Hid (∀ o, Below w.heap.size w (w10.alloc o)) := fun o => bel10.alloc bel10.size _
  clear PL2 v9 bel9 b10' X9 X10 bel10
  by_cases h1 : b < t - t % 10
  ·have e1 : E1 = 9 := by rw [HE1.out, if_pos (.inl h1)]
   have e2 : E2 = 9 := by rw [HE2.out, if_pos h1]
   subst e1
   subst e2
   clear HE1 HE2
   go_wp2
   go_ret
   exact ⟨rfl, HB10.out _⟩
  ·have e2 : E2 = 0 := by rw [HE2.out, if_neg h1]
   have hd : decide (b < t - t % 10) = false := by simpa using h1
   subst e2
   by_cases h2 : b ≤ a
   ·have e1 : E1 = 9 := by rw [HE1.out, if_pos (.inr h2)]
    subst e1
    clear HE1 HE2
    go_wp2
    exact bodyPost_ret (v := .bool true) (by simp [results, Tryz.results11, go_sem]) rfl ⟨rfl, HB10.out _⟩
   ·have e1 : E1 = 0 := by rw [HE1.out, if_neg (fun h => h.elim h1 h2)]
    subst e1
    clear HE1 HE2
    go_wp2
    exact bodyPost_ret (v := .bool true) (by simp [results, Tryz.results11, go_sem]; omega) rfl ⟨rfl, HB10.out _⟩
 ·have hno : a < 0 ∨ t < 0 ∨ b < 0 ∨ 1000 < a ∨ 1000 < t ∨ 1000 < b := by omega
  clear HV
  go_enter Tryz.func11, Tryz.ntmps11
  go_wp2_with fail
  refine P0.out.mono ?_
  rintro e w1 ⟨rfl, b1'⟩
  clear P0
  by_cases c1 : a < 0
  ·clear hin hno; go_wp2; go_ret; exact ⟨rfl, b1'⟩
  by_cases c2 : t < 0
  ·clear hin hno; go_wp2; go_ret; exact ⟨rfl, b1'⟩
  by_cases c3 : b < 0
  ·clear hin hno; go_wp2; go_ret; exact ⟨rfl, b1'⟩
  by_cases c4 : 1000 < a
  ·clear hin hno; go_wp2; go_ret; exact ⟨rfl, b1'⟩
  by_cases c5 : 1000 < t
  ·clear hin hno; go_wp2; go_ret; exact ⟨rfl, b1'⟩
  by_cases c6 : 1000 < b
  ·clear hin hno; go_wp2; go_ret; exact ⟨rfl, b1'⟩
  ·omega
open Go.ChangeShapes Go.WideShapes Go.ChangeAt Go.RowKit Go.GrainU
theorem tab_of_laid {W : World} (h : laidMetH Tryz.prog Rows.topLateRow.laid W) : Tab W ∧ ErrV W := by
 rw [MakeChecks.laidMetH_plain _ _ _ (by kernel_rfl)] at h
 refine ⟨Lib.tabIs_of_head Tryz.gTab Tryz.gTabType Tryz.underlying275 Tryz.underlying256 (by kernel_rfl) (by kernel_rfl) h.tail.tail, ?_⟩
 obtain ⟨a, s, hv, _⟩ := laid_sentinel h.tail.tail.tail Tryz.gErr Tryz.gErrType Tryz.underlying224 Tryz.rowErr Tryz.underlying305 Tryz.underlying307 rfl rfl Tryz.underlying9 (by kernel_rfl) (by kernel_rfl)
 exact ⟨_, _, hv⟩
theorem door_met (os : Os) (args : Array Value) : laidMetH Tryz.prog Rows.topLateRow.laid ((World.doorLaid Tryz.prog 400 os).forCall (fun _ _ => 0) ⟨#[], args, []⟩).memory :=
 laidMetH_of_parts3 (fuel := 8) (laidMet_of_run' 8 (by kernel_rfl) (by kernel_rfl)) (by kernel_rfl) (by kernel_rfl)
set_option maxRecDepth 100000 in
theorem tlate_lifted (os : Os) (started : os.Started) (H : Type) (enc : TypeId × Value → H) :
  ReturnsInHanded {} Tryz.checked os 11 .any (fun w args => (Rows.topLateSpec.pre enc Tryz.prog Tryz.f11 [] false w args ∧ laidMetH Tryz.prog Rows.topLateRow.laid w) ∧ sizedMet enc Tryz.prog Tryz.f11 (OpenSpec.ofChange Rows.topLateSpec) false w args)
   (Rows.topLateSpec.post enc Tryz.prog Tryz.f11 false true false false) := by
 refine returnsInHanded_of_change_and (C := Tryz.checked) (X := fun w _ => laidMetH Tryz.prog Rows.topLateRow.laid w) (fun _ _ _ hh h => h.of_heap hh) Tryz.own started (by kernel_rfl) Tryz.func11
  (ChangeSpec.witness_shaped (enc := enc) (C := Tryz.checked) (os := os) (X := fun w _ => laidMetH Tryz.prog Rows.topLateRow.laid w) false (World.doorLaid Tryz.prog 400 os) #[.int .i64 0, .int .i64 0, .int .i64 0] 8 rfl (World.shaped_of_RefB (by kernel_rfl) (by kernel_rfl)) (by kernel_rfl) (by kernel_rfl) (by kernel_rfl) (door_met os _)) ?_
 intro W base args ds gs before hval0 hW _ hsz0 hL _
 have hval : ∀ (j : Nat) t v, Tryz.f11.params[j]? = some t → args[j]? = some v → Value.okWide Tryz.prog W .any base t v := hval0
 have hW' := hW
 obtain ⟨p, q, hA0, hV, rfl, hfz, hnd⟩ := hW
 have hA : DataW.TrodAll enc Tryz.prog W 0 (fun _ => true) true Tryz.f11.params.toList args.toList ds p := hA0
 rw [Tryz.params11] at hA hval
 obtain ⟨v0, v1, v2, d0, d1, d2, p0, p1, p2, rfl, rfl, rfl, h0, h1, h2⟩ := tfrodAll_three hA
 obtain ⟨rfl, rfl⟩ := trodVars_none hV
 obtain ⟨z0, rfl, rfl, rfl, w0⟩ := open_int Tryz.underlying3 (hval 0 3 v0 rfl rfl) h0
 obtain ⟨z1, rfl, rfl, rfl, w1⟩ := open_int Tryz.underlying3 (hval 1 3 v1 rfl rfl) h1
 obtain ⟨z2, rfl, rfl, rfl, w2⟩ := open_int Tryz.underlying3 (hval 2 3 v2 rfl rfl) h2
 obtain ⟨hT, hE⟩ := tab_of_laid hL
 clear hA0 hval0 hsz0
 refine (tlate_any z0 z1 z2 W hE).mono fun e W' ⟨he, bel⟩ => ?_
 subst he
 exact ⟨_, rfl, _, _, _, [], _, [], hW', trodAll_mk1 (shut_bool Tryz.underlying4 _), (trodAll_cons_mk (shut_int Tryz.underlying3 w0) (trodAll_cons_mk (shut_int Tryz.underlying3 w1) (trodAll_cons_mk (shut_int Tryz.underlying3 w2) trodAll_mk0))), rfl, bel.frame _, fun h => by cases h⟩
theorem tlate_row : Rows.TopLateSaid :=
 OpenClaim.holds_of_wide 11 Tryz.f11 rfl rfl rfl rfl rfl rfl rfl ⟨rfl, rfl, rfl, rfl, rfl⟩ rfl rfl rfl rfl rfl (by kernel_rfl) Tryz.func11 (by kernel_rfl)
  (of_decide_eq_true (by kernel_rfl)) (by unfold Func.isWrapper; first | (rw [if_pos (by decide +kernel)]; kernel_rfl) | (rw [if_neg (by decide +kernel)]; exact ⟨rfl, rfl⟩))
  (fun os started H enc _ => tlate_lifted os started H enc)
theorem tlate_card : Rows.TopLateCardSaid :=
 Claim7.holds_tied_plain_at .later [] [.data, .data, .data, .sentinel, .sentinel] true (true, "594a611b119b19b80c041663e70585f50a9e731ffbf37100dc59137145e933b2") true
  tlate_row (fun _ h => by cases h) (by kernel_rfl) (fun _ h => by cases h) topLate_row_tie rfl ⟨rfl, rfl⟩ (by kernel_rfl) rfl
  (fun f fn hf hfn => by
   obtain rfl : f = 11 := Option.some.inj ((show Tryz.prog.funcNamed "grainstore/graintop.TopLate" = some 11 by kernel_rfl).symm.trans hf) |>.symm
   obtain rfl : fn = Tryz.f11 := (Option.some.inj (Tryz.func11.symm.trans hfn)).symm
   exact ⟨by kernel_rfl, fun j t ht => by
    rw [Tryz.params11] at ht
    have h3 : t = 3 := by
     rcases j with _ | _ | _ | j
     ·simpa using ht.symm
     ·simpa using ht.symm
     ·simpa using ht.symm
     ·simp at ht
    subst h3
    exact (show Tryz.prog.wantsStandIn 3 = false by kernel_rfl)⟩)
  (by kernel_rfl)
end Go.Proofs.YtoldmigappbjcaaGreatDoor
