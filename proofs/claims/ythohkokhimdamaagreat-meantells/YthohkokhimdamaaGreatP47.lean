/-
  The walk of MeanTells.
-/
import Derived.Test.YthohkokhimdamaaGreatP46
import Derived.Deep.RegionHeld3
import Derived.Laws.StructEq
namespace Go.GrainU
open Go.RowKit

/-- what is asked has few cells, of few labels -/
theorem ask_few (l : List LT) (e : Ex) (time : Int) : (∀ c ∈ (GrainU.ask (lns l) e time).1, c.1.length ≤ 4) ∧ (GrainU.ask (lns l) e time).1.length ≤ 8 := by
  unfold GrainU.ask
  by_cases h1 : (wrLn (lns l)).1 = 0
  · rw [if_pos h1]
    by_cases h2 : chk e time = 0
    · rw [if_pos h2]
      cases hev : ev (lns l) time e with
      | none => exact ⟨fun c hc => (by cases hc), by simp⟩
      | some m =>
        have r1 := right_lines h1
        have g := ev_gd (l := lns l) (fun x hx => by
          obtain ⟨y, hy, rfl⟩ := List.mem_map.1 hx
          exact ⟨(r1.2 y hy).ser, (r1.2 y hy).smp⟩) (by rw [lns_len]; exact r1.1) time e (chk_zero h2).1 m hev
        exact ⟨fun c hc => (g.fine c hc).2.2, g.len⟩
    · rw [if_neg h2]; exact ⟨fun c hc => (by cases hc), by simp⟩
  · rw [if_neg h1]; exact ⟨fun c hc => (by cases hc), by simp⟩

end Go.GrainU
namespace Go.Proofs.YthohkokhimdamaaGreat
open Go.RowKit Go.GrainU

set_option maxRecDepth 100000 in
set_option maxHeartbeats 8000000 in
theorem mtells_any (l : List LT) (t : ET) (time : Int) (ao : Option Addr) (n cap : Nat) (w : World) (hs : Seg w ao (tcells l)) (hl : LnsIn w l) (hin : t.In w) (hn : n = l.length) :
    Calls Tryz.prog 3 #[.slice ao n cap, eval t, .int .i64 time] w fun e w' => e = .returned (.bool true) ∧ Below w.heap.size w w' := by
  have HFew := hide (ask_few l t.ex time)
  obtain ⟨R, hR⟩ : ∃ R, R = GrainU.ask (lns l) t.ex time := ⟨_, rfl⟩
  obtain ⟨E, hE⟩ : ∃ E, E = R.2 := ⟨_, rfl⟩
  obtain ⟨A, hA⟩ : ∃ A, A = (wrLn (lns l)).1 := ⟨_, rfl⟩
  obtain ⟨B, hB⟩ : ∃ B, B = (wrLn (lns l)).2 := ⟨_, rfl⟩
  obtain ⟨C, hC⟩ : ∃ C, C = chk t.ex time := ⟨_, rfl⟩
  have P1 := hide (fun w' (hb : Below w.heap.size w w') => mask_any l t time ao n cap w' (hs.below hb) (hl.below hb) (ET.In.below hb t hin) hn)
  have P2 := hide (fun w' (hb : Below w.heap.size w w') => rask_any l t time ao n cap w' (hs.below hb) (hl.below hb) (ET.In.below hb t hin) hn)
  have P3 := hide (fun w' (hb : Below w.heap.size w w') => mwrong_any l ao n cap w' (hs.below hb) (hl.below hb) hn)
  have P4 := hide (fun w' (hb : Below w.heap.size w w') => rlines_any l ao n cap w' (hs.below hb) (hl.below hb) hn)
  have P5 := hide (fun w' (hb : Below w.heap.size w w') => mcheck_any t time w' (ET.In.below hb t hin))
  have P6 := hide (fun w' (hb : Below w.heap.size w w') => rcheck_any t time w' (ET.In.below hb t hin))
  rw [← hR] at P1 P2 HFew
  rw [← hE] at P1 P2
  rw [← hA, ← hB] at P3 P4
  rw [← hC] at P5 P6
  clear hR hE hA hB hC hs hl hin hn
  unfold eval at P1 P2 P5 P6 ⊢
  generalize t.hd.ms.length = ml at P1 P2 P5 P6 ⊢
  generalize t.hd.bs.length = bl at P1 P2 P5 P6 ⊢
  generalize t.kids.length = kl at P1 P2 P5 P6 ⊢
  obtain ⟨W, hW⟩ : ∃ W, W = w.alloc (.cells #[.int .i64 t.hd.kind, .int .i64 t.hd.n, .int .i64 t.hd.range, .string t.hd.word, .slice t.sp.ma ml t.sp.mc, .slice t.sp.ba bl t.sp.bc, .slice t.sp.ka kl t.sp.kc] 27) := ⟨_, rfl⟩
  obtain ⟨E0, hE0⟩ : ∃ E, E = w.heap.size := ⟨_, rfl⟩
  have bel0 : Below w.heap.size w W := by rw [hW]; exact (Below.refl _ _).alloc (Nat.le_refl _) _
  have F0 : W.heap[E0]? = some (.cells #[.int .i64 t.hd.kind, .int .i64 t.hd.n, .int .i64 t.hd.range, .string t.hd.word, .slice t.sp.ma ml t.sp.mc, .slice t.sp.ba bl t.sp.bc, .slice t.sp.ka kl t.sp.kc] 27 (0, 0)) := by rw [hW, hE0]; exact heap_alloc_new w _
  have HW := hide hW
  have HE0 := hide hE0
  clear hW
  go_enter Tryz.func3, Tryz.ntmps3
  go_wp2_with fail
  rw [← HW.out]
  refine (P1.out W bel0).mono ?_
  rintro e w1 ⟨ca, co, N, d, rfl, hca, hN, hCa, b1⟩
  rw [← HE0.out]
  have F1 := below_block b1 F0
  have bw1 := below_step b1 bel0
  obtain ⟨e0, e1, e2, e3, e4, e5, e6⟩ := seven_cells F1
  have lE : E0 < w1.heap.size := lt_of_block F1
  have HCa := hide hca
  have HN := hide hN
  clear hca hN P1 HW HE0 hE0 F0 b1
  go_wp2_with fail
  refine (P2.out w1 bw1).mono ?_
  rintro e U ⟨cb, co2, M, d2, rfl, hcb, hM, hCb, b2⟩
  have FU := below_block b2 F1
  have bU := below_step b2 bw1
  have hCa2 := hCa.r.below b2
  have HCb := hide hcb
  have HM := hide hM
  clear hcb hM P2 F1 hCa e0 e1 e2 e3 e4 e5 e6 lE
  have lE : E0 < U.heap.size := lt_of_block FU
  have hfew : (∀ x ∈ ca, x.ser.length ≤ 9223372036854775807) ∧ N ≤ 9223372036854775806 := by
    have g := HFew.out
    rw [← HCa.out] at g
    refine ⟨fun z hz => ?_, ?_⟩
    · have h2 : z.ser.length ≤ 4 := g.1 z.cl (List.mem_map_of_mem hz)
      omega
    · have := g.2; rw [cls_len, ← HN.out] at this; omega
  have PS := hide (fun w' (hb : Below U.heap.size U w') => rsamer_any ca cb co co2 N M d d2 w' (hCa2.below hb) (hCb.below hb) HN.out HM.out (by rw [HCa.out, HCb.out]) hfew.1 hfew.2)
  have HS : Hid (∀ w', Below U.heap.size U w' → w'.cell? ⟨E0, 0, none⟩ = some (.int .i64 t.hd.kind) ∧ w'.cell? ⟨E0, 1, none⟩ = some (.int .i64 t.hd.n) ∧ w'.cell? ⟨E0, 2, none⟩ = some (.int .i64 t.hd.range) ∧ w'.cell? ⟨E0, 3, none⟩ = some (.string t.hd.word) ∧ w'.cell? ⟨E0, 4, none⟩ = some (.slice t.sp.ma ml t.sp.mc) ∧ w'.cell? ⟨E0, 5, none⟩ = some (.slice t.sp.ba bl t.sp.bc) ∧ w'.cell? ⟨E0, 6, none⟩ = some (.slice t.sp.ka kl t.sp.kc)) := fun w' hb => seven_cells (below_block hb FU)
  have Q3 := hide (fun w' (hb : Below U.heap.size U w') => P3.out w' (below_step hb bU))
  have Q4 := hide (fun w' (hb : Below U.heap.size U w') => P4.out w' (below_step hb bU))
  have Q5 := hide (fun w' (hb : Below U.heap.size U w') => P5.out w' (below_step hb bU))
  have Q6 := hide (fun w' (hb : Below U.heap.size U w') => P6.out w' (below_step hb bU))
  have R0 : Below U.heap.size U U.drew := below_drewN (Below.refl _ _) 1
  have x0 : (E == E) = true := by simp
  have x1 : (C == C) = true := by simp
  have x2 : (A == A) = true := by simp
  have x3 : (B == B) = true := by simp
  clear P3 P4 P5 P6 HFew hfew hCa2 hCb HCa HCb HN HM
  go_wp2_with fail
  go_region_held3 (fun w' => w'.cell? ⟨E0, 0, none⟩ = some (.int .i64 t.hd.kind) ∧ w'.cell? ⟨E0, 1, none⟩ = some (.int .i64 t.hd.n) ∧ w'.cell? ⟨E0, 2, none⟩ = some (.int .i64 t.hd.range) ∧ w'.cell? ⟨E0, 3, none⟩ = some (.string t.hd.word) ∧ w'.cell? ⟨E0, 4, none⟩ = some (.slice t.sp.ma ml t.sp.mc) ∧ w'.cell? ⟨E0, 5, none⟩ = some (.slice t.sp.ba bl t.sp.bc) ∧ w'.cell? ⟨E0, 6, none⟩ = some (.slice t.sp.ka kl t.sp.kc)) (exact HS.out _ (by with_reducible assumption))
    (first
      | (go_at_call 6; refine (PS.out _ (by with_reducible assumption)).mono ?_; rintro e v1 ⟨rfl, c1⟩; have r1 := below_step c1 (by with_reducible assumption))
      | (go_at_call 7; refine (Q3.out _ (by with_reducible assumption)).mono ?_; rintro e v2 ⟨rfl, c2⟩; have r2 := below_step c2 (by with_reducible assumption))
      | (go_at_call 8; refine (Q4.out _ (by with_reducible assumption)).mono ?_; rintro e v3 ⟨rfl, c3⟩; have r3 := below_step c3 (by with_reducible assumption))
      | (go_at_call 9; refine (Q5.out _ (by with_reducible assumption)).mono ?_; rintro e v4 ⟨rfl, c4⟩; have r4 := below_step c4 (by with_reducible assumption))
      | (go_at_call 10; refine (Q6.out _ (by with_reducible assumption)).mono ?_; rintro e v5 ⟨rfl, c5⟩; have r5 := below_step c5 (by with_reducible assumption)))
  all_goals
    go_wp2
    go_ret
    exact ⟨rfl, below_step (by with_reducible assumption) bU⟩

end Go.Proofs.YthohkokhimdamaaGreat
