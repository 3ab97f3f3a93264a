/-
  The walk of LangPrints.
-/
import Derived.Test.YtppaknkhmmcanacDoorExK
namespace Go.Proofs.YtppaknkhmmcanacDoor
open Go.RowKit Go.GrainU

set_option maxHeartbeats 4000000 in
theorem lprints_any (t : ET) (w : World) (hin : t.In w) (hT : Tab w) :
    Calls Tryd.prog 4 #[eval t] w fun e w' => e = .returned (.bool true) ∧ Below w.heap.size w w' := by
  have HIN := hide hin
  have P1 := hide (pprint_any t)
  have P2 := hide (rprint_any t)
  have P3 := hide (pwrong_any t)
  have P4 := hide (rwrong_any t)
  have P5 := hide (pvector_any t)
  have P6 := hide (rvector_any t)
  have P7 := hide (ptyped_any t)
  have P8 := hide (rtyped_any t)
  generalize hX : (prt t.ex).1 = X at P1 P2
  generalize hY : (prt t.ex).2 = Y at P1 P2
  generalize hE : (wr t.ex 1 0).1 = E at P3 P4
  generalize hV : vec t.ex = V at P5 P6
  generalize hU : typ t.ex = U at P7 P8
  clear hX hY hE hV hU hin
  unfold eval at P1 P2 P3 P4 P5 P6 P7 P8 ⊢
  generalize t.hd.ms.length = ml at *
  generalize t.hd.bs.length = bl at *
  generalize t.kids.length = kl at *
  obtain ⟨v1, v2⟩ := word_self X
  obtain ⟨W, hW⟩ : ∃ W, W = w.alloc (.cells #[.int .i64 t.hd.kind, .int .i64 t.hd.n, .int .i64 t.hd.range, .string t.hd.word, .slice t.sp.ma ml t.sp.mc, .slice t.sp.ba bl t.sp.bc, .slice t.sp.ka kl t.sp.kc] 26) := ⟨_, rfl⟩
  have bel0 : Below w.heap.size w W := by rw [hW]; exact (Below.refl _ _).alloc (Nat.le_refl _) _
  have F0 : W.heap[w.heap.size]? = some (.cells #[.int .i64 t.hd.kind, .int .i64 t.hd.n, .int .i64 t.hd.range, .string t.hd.word, .slice t.sp.ma ml t.sp.mc, .slice t.sp.ba bl t.sp.bc, .slice t.sp.ka kl t.sp.kc] 26 (0, 0)) := by rw [hW]; exact heap_alloc_new w _
  have HB := hide bel0
  have HINW := hide (ET.In.below bel0 t HIN.out)
  have HTW := hide (hT.below bel0)
  have HF := hide F0
  have HS : Hid (∀ w', Below W.heap.size W w' → w'.cell? ⟨w.heap.size, 0, none⟩ = some (.int .i64 t.hd.kind) ∧ w'.cell? ⟨w.heap.size, 1, none⟩ = some (.int .i64 t.hd.n) ∧ w'.cell? ⟨w.heap.size, 2, none⟩ = some (.int .i64 t.hd.range) ∧ w'.cell? ⟨w.heap.size, 3, none⟩ = some (.string t.hd.word) ∧ w'.cell? ⟨w.heap.size, 4, none⟩ = some (.slice t.sp.ma ml t.sp.mc) ∧ w'.cell? ⟨w.heap.size, 5, none⟩ = some (.slice t.sp.ba bl t.sp.bc) ∧ w'.cell? ⟨w.heap.size, 6, none⟩ = some (.slice t.sp.ka kl t.sp.kc)) := fun w' hb => seven_cells (below_block hb F0)
  have HW := hide hW
  clear hW F0 bel0 hT
  go_enter Tryd.func4, Tryd.ntmps4
  go_wp2_with fail
  rw [← HW.out]
  refine (P1.out W HINW.out HTW.out).mono ?_
  rintro e w1 ⟨rfl, b1⟩
  obtain ⟨p0, p1, p2, p3, p4, p5, p6⟩ := HS.out w1 b1
  go_wp2_with fail
  refine (P2.out w1 (ET.In.below b1 t HINW.out) (HTW.out.below b1)).mono ?_
  rintro e w2 ⟨rfl, b2⟩
  have R2 : Below W.heap.size W w2 := b1.trans (b2.mono b1.size)
  have R3 : Below W.heap.size W w2.drew := below_drewN R2 1
  clear p0 p1 p2 p3 p4 p5 p6 b2
  go_wp2_with fail
  go_region_held3 (fun w' => w'.cell? ⟨w.heap.size, 0, none⟩ = some (.int .i64 t.hd.kind) ∧ w'.cell? ⟨w.heap.size, 1, none⟩ = some (.int .i64 t.hd.n) ∧ w'.cell? ⟨w.heap.size, 2, none⟩ = some (.int .i64 t.hd.range) ∧ w'.cell? ⟨w.heap.size, 3, none⟩ = some (.string t.hd.word) ∧ w'.cell? ⟨w.heap.size, 4, none⟩ = some (.slice t.sp.ma ml t.sp.mc) ∧ w'.cell? ⟨w.heap.size, 5, none⟩ = some (.slice t.sp.ba bl t.sp.bc) ∧ w'.cell? ⟨w.heap.size, 6, none⟩ = some (.slice t.sp.ka kl t.sp.kc)) (exact HS.out _ (by assumption))
    (first
      | (go_at_call 12; refine (P3.out _ (ET.In.below (by assumption) t HINW.out)).mono ?_; rintro e w3 ⟨rfl, b3⟩; have R4 := below_step7 b3 (by assumption))
      | (go_at_call 13; refine (P4.out _ (ET.In.below (by assumption) t HINW.out)).mono ?_; rintro e w3 ⟨rfl, b3⟩; have R4 := below_step7 b3 (by assumption))
      | (go_at_call 14; refine (P5.out _ (ET.In.below (by assumption) t HINW.out)).mono ?_; rintro e w3 ⟨rfl, b3⟩; have R4 := below_step7 b3 (by assumption))
      | (go_at_call 15; refine (P6.out _ (ET.In.below (by assumption) t HINW.out)).mono ?_; rintro e w3 ⟨rfl, b3⟩; have R4 := below_step7 b3 (by assumption))
      | (go_at_call 16; refine (P7.out _ (ET.In.below (by assumption) t HINW.out)).mono ?_; rintro e w3 ⟨rfl, b3⟩; have R4 := below_step7 b3 (by assumption))
      | (go_at_call 17; refine (P8.out _ (ET.In.below (by assumption) t HINW.out)).mono ?_; rintro e w3 ⟨rfl, b3⟩; have R4 := below_step7 b3 (by assumption)))
  all_goals
    go_wp2_with fail
    go_ret
    exact ⟨rfl, HB.out.trans (R4.mono HB.out.size)⟩

end Go.Proofs.YtppaknkhmmcanacDoor
