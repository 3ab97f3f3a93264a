/-
  The walk of windowOf.
-/
import Derived.Test.YtjgdjbphelkdoadMeE
import Derived.Deep.CutRange
namespace Go.GrainU
open Go.RowKit

theorem below_dr {W V : World} (h : Below W.heap.size W V) : Below W.heap.size W V.drew := below_drewN h 1

theorem below_al {W V : World} (h : Below W.heap.size W V) (o : Obj) : Below W.heap.size W (V.alloc o) := h.alloc h.size _

/-- lines that are right -/
structure LnRt (x : LT) : Prop where
  ser : x.ser.length ≤ 4
  smp : Grain.Right x.smp

/-- an own row of cells, and their series elsewhere -/
structure OwnC (w : World) (base T : Nat) (v : Value) (N : Nat) (l : List CT) : Prop where
  own : w.ownsRow base T 2 v N (ccells l)
  ser : ∀ c ∈ l, SegN w v.ownBlock c.sa (lcells c.ser)

theorem OwnC.nil (w : World) (base T : Nat) : OwnC w base T (.slice none 0 0) 0 [] := ⟨World.ownsRow_nil _ _ _ _, fun c hc => by cases hc⟩

theorem OwnC.len {w : World} {base T N : Nat} {v : Value} {l : List CT} (h : OwnC w base T v N l) : N = l.length := by
  have := h.own.1; rw [ccells_length] at this; omega

theorem OwnC.below {w w' : World} {base T N : Nat} {v : Value} {l : List CT} (h : OwnC w base T v N l) (hb : Below w.heap.size w w') : OwnC w' base T v N l := ⟨own_below h.own hb, fun c hc => (h.ser c hc).below hb⟩

theorem OwnC.csIn {w : World} {base T N d : Nat} {co : Option Addr} {l : List CT} (h : OwnC w base T (.slice co N d) N l) : CsIn w co l := by
  obtain ⟨ao', c, hv, hs, _⟩ := own_open h.own
  simp only [Value.slice.injEq] at hv
  obtain ⟨rfl, -, rfl⟩ := hv
  exact ⟨hs, fun c hc => (h.ser c hc).seg⟩

/-- an append of one cell -/
theorem OwnC.push {w w' : World} {base T N d g' cp' : Nat} {co : Option Addr} {l : List CT} (h : OwnC w base T (.slice co N d) N l) (c : CT) (hc : SegN w (Value.slice co N d).ownBlock c.sa (lcells c.ser))
    (own : w'.ownsRow base T 2 (.slice (some ⟨g', 0, none⟩) (N + 1) cp') (N + 1) (ccells l ++ [.slice c.sa c.ser.length c.sc, .int .i64 c.v])) (gr : w.grownBy w' (Value.slice co N d).ownBlock) (hat : (Value.slice co N d).ownBlock = some g' ∨ w.heap.size ≤ g') :
    OwnC w' base T (.slice (some ⟨g', 0, none⟩) (N + 1) cp') (N + 1) (l ++ [c]) := by
  have hr : ∀ g, (Value.slice (some ⟨g', 0, none⟩) (N + 1) cp').ownBlock = some g → (Value.slice co N d).ownBlock = some g ∨ w.heap.size ≤ g := fun g hg => by
    simp [Value.ownBlock] at hg
    subst hg
    exact hat
  refine ⟨by rw [ccells_append]; exact own, fun x hx => ?_⟩
  rcases List.mem_append.1 hx with e | e
  · exact (h.ser x e).grown gr hr
  · simp at e
    subst e
    exact hc.grown gr hr

end Go.GrainU
namespace Go.Proofs.Ytjgdjbphelkdoad
open Go.RowKit Go.GrainU

theorem sum_new (w : World) (J : Grain.Sm) : SumAt (w.alloc (.cells #[.int .i64 J.c, .int .i64 J.t, .int .i64 J.mn, .int .i64 J.mx, .int .i64 J.f, .int .i64 J.l, .int .i64 J.r] 66)) w.heap.size J := heap_alloc_new _ _
theorem sum_zero {w : World} {B : Nat} (h : w.heap[B]? = some (Obj.cells #[.int .i64 0, .int .i64 0, .int .i64 0, .int .i64 0, .int .i64 0, .int .i64 0, .int .i64 0] 66 (0, 0))) : SumAt w B Grain.zero := h

set_option maxRecDepth 100000 in
set_option maxHeartbeats 8000000 in
theorem mwin_any (l : List LT) (t : ET) (time : Int) (ao : Option Addr) (n cap : Nat) (w : World) (hs : Seg w ao (tcells l)) (hl : LnsIn w l) (hR : ∀ x ∈ l, LnRt x) (hin : t.In w) (hn : n = l.length) (hn8 : n ≤ 8) (hr0 : 1 ≤ t.hd.range) (hr1 : t.hd.range ≤ 100000) (ht0 : 0 ≤ time) (ht1 : time ≤ 1000000) :
    Calls Try.prog 21 #[.slice ao n cap, eval t, .int .i64 time] w fun e w' => ∃ cts co N d, e = .returned (.slice co N d) ∧ N = cts.length ∧ CsIn w' co cts ∧ cls cts = winC (lns l) t.hd time ∧ Below w.heap.size w w' := by
  obtain ⟨i0, hi, hz0, hz1, hz2⟩ := info_parts Try.infoCell
  have HN := hide hn
  have HL := hide hl
  have HR := hide hR
  clear hn hl hR
  obtain ⟨ms, hms⟩ : ∃ ms, ms = t.hd.ms := ⟨_, rfl⟩
  obtain ⟨rg, hrg⟩ : ∃ rg, rg = t.hd.range := ⟨_, rfl⟩
  obtain ⟨wd, hwd⟩ : ∃ wd, wd = t.hd.word := ⟨_, rfl⟩
  obtain ⟨ml, hml⟩ : ∃ ml, ml = ms.length := ⟨_, rfl⟩
  obtain ⟨kd, hkd⟩ : ∃ kd, kd = t.hd.kind := ⟨_, rfl⟩
  obtain ⟨en, hen⟩ : ∃ en, en = t.hd.n := ⟨_, rfl⟩
  have hinp : Seg w t.sp.ma (mcells ms) ∧ ms.length ≤ 9223372036854775806 := by
    rw [hms]
    cases t with
    | node h s kids => simp only [ET.In] at hin; exact ⟨hin.1.1, hin.2.1.1⟩
  obtain ⟨smM, lM⟩ := hinp
  have HWV : Hid (∀ x : Ln, winX x t.hd time = if says x.1 ms = true then (if (valP wd (Grain.of (Grain.win x.2 (time - rg) time))).2 = true then [(x.1, (valP wd (Grain.of (Grain.win x.2 (time - rg) time))).1)] else []) else []) := by
    intro x; rw [hms, hrg, hwd]; rfl
  obtain ⟨hd, hhd⟩ : ∃ hd, hd = t.hd := ⟨_, rfl⟩
  rw [← hrg] at hr0 hr1
  have hml2 : t.hd.ms.length = ml := by rw [hml, hms]
  unfold eval
  generalize t.hd.bs.length = bl
  generalize t.kids.length = kl
  rw [hml2, ← hkd, ← hrg, ← hwd, ← hen, ← hhd]
  rw [← hhd] at HWV
  clear hml2 hkd hrg hwd hen hms hin
  have HML := hide hml
  clear hml hhd
  have lM' : ml ≤ 9223372036854775807 := by rw [HML.out]; omega
  obtain ⟨W, hW⟩ : ∃ W, W = w.alloc (.cells #[.int .i64 kd, .int .i64 en, .int .i64 rg, .string wd, .slice t.sp.ma ml t.sp.mc, .slice t.sp.ba bl t.sp.bc, .slice t.sp.ka kl t.sp.kc] 27) := ⟨_, rfl⟩
  have bel0 : Below w.heap.size w W := by rw [hW]; exact (Below.refl _ _).alloc (Nat.le_refl _) _
  have F0 : W.heap[w.heap.size]? = some (.cells #[.int .i64 kd, .int .i64 en, .int .i64 rg, .string wd, .slice t.sp.ma ml t.sp.mc, .slice t.sp.ba bl t.sp.bc, .slice t.sp.ka kl t.sp.kc] 27 (0, 0)) := by rw [hW]; exact heap_alloc_new w _
  have hW1 : w.heap.size < W.heap.size := lt_of_block F0
  have hsW := hs.below bel0
  have smW := smM.below bel0
  have HLW := hide (HL.out.below bel0)
  have HW := hide hW
  have HW1 := hide hW1
  have tw : IntKind.i64.wrap (time - rg) = time - rg := by rw [IntKind.wrap_i64]; omega
  clear hW HL smM hs
  go_enter Try.func21, Try.ntmps21
  go_wp2
  rw [← HW.out]
  go_loopw [7, 15] (fun out i wr => ∃ (k N d : Nat) (co : Option Addr) (cts : List CT), k ≤ n ∧ i = .int .i64 k ∧ out = .slice co N d ∧ N ≤ k ∧ OwnC wr W.heap.size 44 (.slice co N d) N cts ∧ Hid (cls cts = winC (lns (l.take k)) hd time) ∧ Below W.heap.size W wr) (fun _ i _ => n - (intOf i).toNat)
  case atStart => exact ⟨0, 0, 0, none, [], Nat.zero_le _, rfl, rfl, Nat.le_refl _, OwnC.nil _ _ _, rfl, Below.refl _ _⟩
  case round =>
    obtain ⟨k, N, d, co, cts, hk, rfl, rfl, hNk, own, HC, bel⟩ := hrel
    have hsz := bel.size
    by_cases hlt : k < n
    · have hkl : k < l.length := by rw [← HN.out]; exact hlt
      obtain ⟨b, off, rfl, hb, hcell⟩ := seg_line hsW hkl
      obtain ⟨x, hx⟩ : ∃ x, x = lt l k := ⟨_, rfl⟩
      obtain ⟨sn, hsn⟩ : ∃ sn, sn = x.ser.length := ⟨_, rfl⟩
      obtain ⟨pn, hpn⟩ : ∃ pn, pn = x.smp.length := ⟨_, rfl⟩
      have okx : LnOk W x := by rw [hx]; exact HLW.out _ (lt_mem hkl)
      have rtx : LnRt x := by rw [hx]; exact HR.out _ (lt_mem hkl)
      have c0 : wr.cell? ⟨b, off + k * 2, none⟩ = some (.slice x.sa sn x.sc) := by rw [hsn, hx]; exact (bel.cell (by exact hb)).trans (hcell k hkl).1
      have c1 : wr.cell? ⟨b, off + k * 2 + 1, none⟩ = some (.slice x.pa pn x.pc) := by rw [hpn, hx]; exact (bel.cell (by exact hb)).trans (hcell k hkl).2
      have HT : Hid (winC (lns (l.take (k + 1))) hd time = winC (lns (l.take k)) hd time ++ winX x.ln hd time) := by
        show _ = _
        rw [lns_take hkl, winC_append, ← hx]
        simp [winC]
      have HX2 : Hid (winX x.ln hd time = if says x.ser ms = true then (if (valP wd (Grain.of (Grain.win x.smp (time - rg) time))).2 = true then [(x.ser, (valP wd (Grain.of (Grain.win x.smp (time - rg) time))).1)] else []) else []) := HWV.out x.ln
      obtain ⟨V, hV⟩ : ∃ V, V = wr.alloc (.cells #[.slice x.sa sn x.sc, .slice x.pa pn x.pc] 49) := ⟨_, rfl⟩
      obtain ⟨X, hX⟩ : ∃ X, X = wr.heap.size := ⟨_, rfl⟩
      have F1 : V.heap[X]? = some (.cells #[.slice x.sa sn x.sc, .slice x.pa pn x.pc] 49 (0, 0)) := by rw [hV, hX]; exact heap_alloc_new wr _
      have belw : Below wr.heap.size wr V := by rw [hV]; exact (Below.refl _ _).alloc (Nat.le_refl _) _
      have bel1 : Below W.heap.size W V := bel.trans (belw.mono hsz)
      have own1 := own.below belw
      have HV := hide hV
      have HX := hide hX
      have HSN := hide hsn
      have HPN := hide hpn
      obtain ⟨p0, p1, p2, p3, p4, p5, p6⟩ := seven_cells (below_block bel F0)
      have hw0 : w.heap.size < wr.heap.size := lt_of_block (below_block bel F0)
      obtain ⟨S, hS⟩ : ∃ S, S = says x.ser ms := ⟨_, rfl⟩
      rw [← hS] at HX2
      have HSS := hide hS
      have sn4 : sn ≤ 4 := by rw [hsn]; exact rtx.ser
      have sn63 : sn ≤ 9223372036854775807 := by omega
      clear hV hsn hpn hx hkl hcell own bel belw hS
      go_wp2_with fail
      rw [← HV.out]
      refine (nmatches_any x.ser ms x.sa t.sp.ma sn x.sc ml t.sp.mc V (okx.ser.below bel1) (smW.below bel1) HSN.out HML.out sn63 lM').mono ?_
      rintro e w1 ⟨rfl, b1⟩
      rw [← HSS.out, ← HX.out]
      have bel2 : Below W.heap.size W w1 := below_step b1 bel1
      have own2 := own1.below b1
      have F2 := below_block b1 F1
      clear b1 own1 F1 p0 p1 p2 p3 p4 p5 p6 c0 c1 HV HX hX bel1 hw0
      cases S with
      | false =>
        have HC2 : Hid (cls cts = winC (lns (l.take (k + 1))) hd time) := by
          show _ = _
          rw [HT.out, HX2.out, HC.out]; simp
        clear HC HT HX2
        go_wp2
        go_roundw
        case rel => exact ⟨k + 1, N, d, co, cts, by omega, by go_num, rfl, by omega, own2, HC2, bel2⟩
        case measure => simp [intOf]; omega
      | true =>
        obtain ⟨q1, hq1, bd1⟩ := bdry rtx.smp (time - rg)
        obtain ⟨q2, hq2, bd2⟩ := bdry rtx.smp time
        obtain ⟨h12, hcut⟩ := win_cut (show time - rg ≤ time by omega) hq1 hq2 bd1 bd2
        have hp5 : pn ≤ 500 := by rw [HPN.out]; exact rtx.smp.few
        have hpc := okx.cap
        rw [← HPN.out] at hq1 hq2 bd1 bd2
        obtain ⟨so, hso⟩ : ∃ so, so = cutA x.pa x.pc q1 := ⟨_, rfl⟩
        obtain ⟨sl, hsl⟩ : ∃ sl, sl = q2 - q1 := ⟨_, rfl⟩
        obtain ⟨sd, hsd⟩ : ∃ sd, sd = x.pc - q1 := ⟨_, rfl⟩
        have hq2c : q2 ≤ x.pc := by have := hpc.1; rw [← HPN.out] at this; omega
        have segC : Seg W so (scells (Grain.win x.smp (time - rg) time)) := by
          rw [hso, ← hcut]
          exact seg_cut okx.smp hpc.1 h12 (by rw [← HPN.out]; exact hq2)
        have hlen : sl = (Grain.win x.smp (time - rg) time).length := by
          rw [hsl, ← hcut, List.length_drop, List.length_take, ← HPN.out]; omega
        have hsl1 : ∀ w, Sem.run Try.prog (Instr.slice 47 (.slice x.pa pn x.pc) (some (.int .i64 q1)) (some (.int .i64 q2)) none) w = .ok (.slice so sl sd) w := by
          intro w
          rw [run_slice_lh (P := Try.prog) (t := 47) (ht := by kernel_rfl) (a := x.pa) (len := pn) (cap := x.pc) (kl := .i64) (kh := .i64) (l := (q1 : Int)) (h := (q2 : Int)) (h0 := by omega) (h1 := by omega) (h2 := by omega)]
          rw [hso, hsl, hsd]
          simp [sliced, cutA, go_sem]
        have hsl2 : ∀ w, Sem.run Try.prog (Instr.sliceAt 47 (.slice x.pa pn x.pc) (some (.int .i64 q1)) (some (.int .i64 q2)) none) w = .ok (.slice so sl sd) w := by
          intro w
          rw [run_sliceAt_slice (P := Try.prog) (t := 47) (h := by kernel_rfl)]
          exact hsl1 w
        have HSL := hide hlen
        have sl5 : sl ≤ 1152921504606846975 := by omega
        have HBD1 := hide bd1
        have HBD2 := hide bd2
        obtain ⟨x0, x1, _, _⟩ := two_cells F2
        obtain ⟨p0, p1, p2, p3, p4, p5, p6⟩ := seven_cells (below_block bel2 F0)
        have Xl : X < w1.heap.size := lt_of_block F2
        have Wl : w.heap.size < w1.heap.size := lt_of_block (below_block bel2 F0)
        have HS : Hid (∀ w', Below w1.heap.size w1 w' → w'.cell? ⟨X, 1, none⟩ = some (.slice x.pa pn x.pc) ∧ w'.cell? ⟨w.heap.size, 2, none⟩ = some (.int .i64 rg)) := fun w' hb' => ⟨(hb'.cell (by exact Xl)).trans x1, (hb'.cell (by exact Wl)).trans p2⟩
        have R00 : Below w1.heap.size w1 w1 := Below.refl _ _
        have R0 : Below w1.heap.size w1 w1.drew := below_drewN (Below.refl _ _) 1
        have hp6 : pn ≤ 1000000 := by omega
        obtain ⟨T1, hT1⟩ : ∃ T1, T1 = time - rg := ⟨_, rfl⟩
        have tw1 : IntKind.i64.wrap (time - rg) = T1 := by rw [hT1]; exact tw
        rw [← hT1] at HBD1 HX2 segC HSL
        have HPa : Hid (∀ w', Below w1.heap.size w1 w' → Calls Try.prog 42 #[.slice x.pa pn x.pc, .int .i64 T1] w' fun e w'' => e = .returned (.int .i64 q1) ∧ Below w'.heap.size w' w'') := fun w' hb' => mahead_any x.smp T1 x.pa pn x.pc q1 w' (okx.smp.below (below_step hb' bel2)) HPN.out hp6 hq1 HBD1.out
        have HPb : Hid (∀ w', Below w1.heap.size w1 w' → Calls Try.prog 42 #[.slice x.pa pn x.pc, .int .i64 time] w' fun e w'' => e = .returned (.int .i64 q2) ∧ Below w'.heap.size w' w'') := fun w' hb' => mahead_any x.smp time x.pa pn x.pc q2 w' (okx.smp.below (below_step hb' bel2)) HPN.out hp6 hq2 HBD2.out
        have HPc : Hid (∀ w', Below w1.heap.size w1 w' → Calls Try.prog 41 #[.slice so sl sd] w' fun e w'' => ∃ J : Grain.Sm, Hid (J = Grain.of (Grain.win x.smp T1 time)) ∧ e = .returned (.agg #[.int .i64 J.c, .int .i64 J.t, .int .i64 J.mn, .int .i64 J.mx, .int .i64 J.f, .int .i64 J.l, .int .i64 J.r]) ∧ Below w'.heap.size w' w'') := fun w' hb' => of_len _ so sl sd w' (segC.below (below_step hb' bel2)) HSL.out sl5
        have HT1 := hide hT1
        clear tw hsl hsd hso hlen bd1 bd2 hT1 hq1 hq2 h12 hcut hpc hq2c hp5 x0 x1 p0 p1 p2 p3 p4 p5 p6
        go_upto_region 6 with fail
        go_cut [10] from 25 to 39 (fun v wx => ∃ (B : Nat) (J : Grain.Sm), v = .pointer (some ⟨B, 0, none⟩) ∧ SumAt wx B J ∧ Hid (J = Grain.of (Grain.win x.smp T1 time)) ∧ Below w1.heap.size w1 wx)
        case first =>
          go_region_held3 (fun w' => w'.cell? ⟨X, 1, none⟩ = some (.slice x.pa pn x.pc) ∧ w'.cell? ⟨w.heap.size, 2, none⟩ = some (.int .i64 rg)) (exact HS.out _ (by with_reducible (first | (apply below_al; assumption) | assumption | (apply below_dr; apply below_al; assumption) | (refine below_set7 ?_ ?_ _ _ _ _ _ _ _ <;> first | assumption | exact Nat.le_refl _ | exact Below.size (by assumption)))))
            (first
              | (go_at_call_of 42 (Value.int .i64 T1); refine (HPa.out _ (by with_reducible (first | (apply below_al; assumption) | assumption | (apply below_dr; apply below_al; assumption) | (refine below_set7 ?_ ?_ _ _ _ _ _ _ _ <;> first | assumption | exact Nat.le_refl _ | exact Below.size (by assumption))))).mono ?_; rintro e w3 ⟨rfl, b3⟩; have R4 := below_step b3 (by with_reducible (first | (apply below_al; assumption) | assumption | (apply below_dr; apply below_al; assumption) | (refine below_set7 ?_ ?_ _ _ _ _ _ _ _ <;> first | assumption | exact Nat.le_refl _ | exact Below.size (by assumption)))); (first | with_reducible (have Z := below_block b3 (heap_alloc_new _ _)) | with_reducible (have Z := below_block b3 (show _ = some (Obj.cells #[.int .i64 0, .int .i64 0, .int .i64 0, .int .i64 0, .int .i64 0, .int .i64 0, .int .i64 0] 66 (0, 0)) by assumption)) | skip))
              | (go_at_call_of 42 (Value.int .i64 time); refine (HPb.out _ (by with_reducible (first | (apply below_al; assumption) | assumption | (apply below_dr; apply below_al; assumption) | (refine below_set7 ?_ ?_ _ _ _ _ _ _ _ <;> first | assumption | exact Nat.le_refl _ | exact Below.size (by assumption))))).mono ?_; rintro e w4 ⟨rfl, b4⟩; have R5 := below_step b4 (by with_reducible (first | (apply below_al; assumption) | assumption | (apply below_dr; apply below_al; assumption) | (refine below_set7 ?_ ?_ _ _ _ _ _ _ _ <;> first | assumption | exact Nat.le_refl _ | exact Below.size (by assumption)))); (first | with_reducible (have Z := below_block b4 (heap_alloc_new _ _)) | with_reducible (have Z := below_block b4 (show _ = some (Obj.cells #[.int .i64 0, .int .i64 0, .int .i64 0, .int .i64 0, .int .i64 0, .int .i64 0, .int .i64 0] 66 (0, 0)) by assumption)) | skip))
              | (go_at_call 41; refine (HPc.out _ (by with_reducible (first | (apply below_al; assumption) | assumption | (apply below_dr; apply below_al; assumption) | (refine below_set7 ?_ ?_ _ _ _ _ _ _ _ <;> first | assumption | exact Nat.le_refl _ | exact Below.size (by assumption))))).mono ?_; rintro e w5 ⟨J, HJ, rfl, b5⟩; have R6 := below_step b5 (by with_reducible (first | (apply below_al; assumption) | assumption | (apply below_dr; apply below_al; assumption) | (refine below_set7 ?_ ?_ _ _ _ _ _ _ _ <;> first | assumption | exact Nat.le_refl _ | exact Below.size (by assumption)))); (first | (with_reducible (have Z := below_block b5 (heap_alloc_new _ _)); have Zs := sum_zero Z; obtain ⟨z0, z1, z2, z3, z4, z5, z6⟩ := seven_cells Z; obtain ⟨y0, y1, y2, y3, y4, y5, y6⟩ := seven_thaw Z) | (with_reducible (have Z := below_block b5 (show _ = some (Obj.cells #[.int .i64 0, .int .i64 0, .int .i64 0, .int .i64 0, .int .i64 0, .int .i64 0, .int .i64 0] 66 (0, 0)) by assumption)); have Zs := sum_zero Z; obtain ⟨z0, z1, z2, z3, z4, z5, z6⟩ := seven_cells Z; obtain ⟨y0, y1, y2, y3, y4, y5, y6⟩ := seven_thaw Z) | skip)))
          all_goals
            go_wp2_with fail
            go_meet
            refine ⟨_, J, rfl, ?_, HJ, ?_⟩
            · with_reducible (first | exact sum_new _ _ | exact SumAt.set Zs J)
            · with_reducible (first | (apply below_al; assumption) | assumption | (apply below_dr; apply below_al; assumption) | (refine below_set7 ?_ ?_ _ _ _ _ _ _ _ <;> first | assumption | exact Nat.le_refl _ | exact Below.size (by assumption)))
        case rest =>
          obtain ⟨B, J, rfl, FJ, HJ, R7⟩ := hcut
          have bel7 := below_step R7 bel2
          have own7 := own2.below R7
          have F7 := below_block R7 F2
          have HJ2 : Hid (SmOk J (Grain.win x.smp T1 time).length) := by
            show SmOk _ _
            rw [HJ.out]
            refine of_ok (fun y hy => ?_) (Nat.le_trans (Grain.win_len _ _ _) rtx.smp.few)
            have hy' := (List.mem_filter.1 hy).1
            obtain ⟨q, hq, rfl⟩ := List.mem_iff_getElem.1 hy'
            have := rtx.smp.rng q hq
            simp [Grain.vl, List.getD, List.getElem?_eq_getElem hq] at this
            omega
          have tb : -9223372036854775808 ≤ J.t ∧ J.t ≤ 9223372036854775807 := by
            have h1 := HJ2.out.t
            have h2 : (Grain.win x.smp T1 time).length ≤ 500 := Nat.le_trans (Grain.win_len _ _ _) rtx.smp.few
            omega
          obtain ⟨v, hv⟩ : ∃ v, v = (valP wd J).1 := ⟨_, rfl⟩
          obtain ⟨ok, hok⟩ : ∃ ok, ok = (valP wd J).2 := ⟨_, rfl⟩
          have HXV : Hid (winX x.ln hd time = if ok = true then [(x.ser, v)] else []) := by
            show _ = _
            rw [HX2.out, ← HJ.out, ← hv, ← hok]; simp
          have PV : Hid (∀ w', Calls Try.prog 43 #[.string wd, .agg #[.int .i64 J.c, .int .i64 J.t, .int .i64 J.mn, .int .i64 J.mx, .int .i64 J.f, .int .i64 J.l, .int .i64 J.r]] w' fun e w'' => e = .returned (.tuple #[.int .i64 v, .bool ok]) ∧ Below w'.heap.size w' w'') := fun w' => by
            rw [hv, hok]; exact mvalue_any J wd w' tb.1 tb.2
          clear hv hok HJ2 HS R0 R00 R7 HPa HPb HPc own2 F2 bel2 hsl1 hsl2 tb HX2 HBD1 HBD2 segC HSL HT1 tw1
          obtain ⟨j0, j1, j2, j3, j4, j5, j6⟩ := FJ.cells
          obtain ⟨p0, p1, p2, p3, p4, p5, p6⟩ := seven_cells (below_block bel7 F0)
          go_wp2_with fail
          refine (PV.out _).mono ?_
          rintro e w8 ⟨rfl, b8⟩
          have bel8 := below_step b8 bel7
          have own8 := own7.below b8
          obtain ⟨x0, x1, _, _⟩ := two_cells (below_block b8 F7)
          clear b8 own7 F7 bel7 FJ j0 j1 j2 j3 j4 j5 j6 p0 p1 p2 p3 p4 p5 p6 PV
          cases ok with
          | false =>
            have HC2 : Hid (cls cts = winC (lns (l.take (k + 1))) hd time) := by
              show _ = _
              rw [HT.out, HXV.out, HC.out]; simp
            clear HC HT HXV
            go_wp2
            go_roundw
            case rel => exact ⟨k + 1, N, d, co, cts, by omega, by go_num, rfl, by omega, own8, HC2, bel8⟩
            case measure => simp [intOf]; omega
          | true =>
            have HNIL : Hid (x.sa = none → sn = 0 ∧ x.sc = 0) := fun h => by rw [HSN.out]; exact okx.nil h
            go_wp2_with fail
            refine (mclone_any x.ser x.sa sn x.sc w8 (okx.ser.below bel8) HSN.out (by omega) HNIL.out).mono ?_
            rintro e w9 ⟨no, N9, d9, rfl, own9, hN9, b9⟩
            have bel9 := below_step b9 bel8
            have hs9 := bel9.size
            have ownN := own8.below b9
            have hlt8 : ∀ g, (Value.slice co N d).ownBlock = some g → g < w8.heap.size := fun g hg => (own_base own8.own g hg).2
            have segN9 : SegN w9 (Value.slice co N d).ownBlock no (lcells x.ser) := segN_own own9 hlt8
            have HN9 : Hid (N9 = x.ser.length) := by show _ = _; rw [hN9]; exact HSN.out
            clear x0 x1 own8 b9 own9 bel8 hN9
            have belA : Below w9.heap.size w9 (w9.alloc (.cells #[.slice no N9 d9, .int .i64 v] 44)) := (Below.refl _ _).alloc (Nat.le_refl _) _
            have ownA := ownN.below belA
            have segA := segN9.below belA
            go_wp2_with (at_builtin; refine wpList_append_lies _ rfl _ _ 28 rfl W.heap.size 44 i0 (.agg #[.slice none 0 0, .int .i64 0]) 2 32 Try.underlying28 hi hz0 hz1 hz2 rfl (by decide) _ _ _ rfl ownA.own ⟨w9.heap.size, 0, none⟩ 1 1 [.slice no N9 d9, .int .i64 v] rfl rfl (news_two rfl _ _ _) (by simp [Value.oneCell']) (by decide) (by unfold maxLen; omega) (by omega) (by simp; omega) (w9.heap.size + 1) (by simp) ?_)
            intro g' cp' wz ownZ grZ hatZ hltZ
            have ownP := OwnC.push ownA ⟨x.ser, v, no, d9⟩ segA (by rw [← HN9.out]; exact ownZ) grZ (by
              rcases hatZ with h | h
              · exact .inl h
              · right; simp; omega)
            have belZ : Below W.heap.size W wz := (bel9.alloc hs9 _).grown grZ (by simp; omega) (fun j hj => (own_base ownA.own j hj).1)
            have HC2 : Hid (cls (cts ++ [⟨x.ser, v, no, d9⟩]) = winC (lns (l.take (k + 1))) hd time) := by
              show _ = _
              rw [HT.out, HXV.out, cls_append, HC.out]; simp [cls, CT.cl]
            clear HC HT HXV ownA segA ownZ grZ hatZ hltZ ownN segN9 belA bel9
            go_wp2
            go_roundw
            case rel => exact ⟨k + 1, N + 1, cp', _, _, by omega, by go_num, rfl, by omega, ownP, HC2, belZ⟩
            case measure => simp [intOf]; omega
    · have he : k = n := by omega
      subst he
      have HT := hide (List.take_of_length_le (i := k) (l := l) (by rw [← HN.out]; omega))
      have HC2 : Hid (cls cts = winC (lns l) hd time) := by show _ = _; rw [HC.out, HT.out]
      have hlen := own.len
      have cin := own.csIn
      have HLN := hide hlen
      clear HT HN HC hlen
      have belF := bel0.trans (bel.mono bel0.size)
      go_wp2
      go_ret
      exact ⟨cts, co, N, d, rfl, HLN.out, cin, HC2.out, belF⟩

end Go.Proofs.Ytjgdjbphelkdoad
