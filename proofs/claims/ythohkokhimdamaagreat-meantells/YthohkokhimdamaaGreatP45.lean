/-
  The document's Eval: totals.
-/
import Derived.Test.YthohkokhimdamaaGreatP44
import Derived.Test.YthohkokhimdamaaGreatP43
import Derived.Deep.RegionHeld3
/-
  The document's Eval: numbers and windows.
-/
namespace Go.GrainU
open Go.RowKit

/-- what an expression comes to, the document's way -/
def EPost (O : Option Mn) (e : Ending) (w' : World) : Prop :=
  (O = none ∧ e = .returned (.tuple #[.slice none 0 0, .bool false, .int .i64 3])) ∨
  ∃ nb cts co N d, e = .returned (.tuple #[.slice co N d, .bool (!nb), .int .i64 0]) ∧ O = some ⟨nb, cls cts⟩ ∧ N = cts.length ∧ CsR w' co cts

/-- the lines that look looks at -/
structure LkOk (w : World) (l : List LT) (ao : Option Addr) (n cap C1 : Nat) : Prop where
  cell : w.cell? ⟨C1, 0, none⟩ = some (.slice ao n cap)
  seg : Seg w ao (tcells l)
  lns : LnsIn w l

theorem LkOk.below {w w' : World} {l : List LT} {ao : Option Addr} {n cap C1 : Nat} (h : LkOk w l ao n cap C1) (hb : Below w.heap.size w w') : LkOk w' l ao n cap C1 :=
  ⟨(hb.cell (p := ⟨C1, 0, none⟩) (World.block_lt_of_cell? w _ h.cell)).trans h.cell, h.seg.below hb, h.lns.below hb⟩

theorem lookR_bd {l : List LT} (hR : ∀ x ∈ l, LnRt x) {ms : List Mt} {a b : Int} : ∀ y ∈ lookR (lns l) ms a b, -9223372036854775808 ≤ y.2.t ∧ y.2.t ≤ 9223372036854775807 := by
  intro y hy
  unfold lookR at hy
  obtain ⟨x, hx, rfl⟩ := List.mem_map.1 hy
  have hx2 := (List.mem_filter.1 hx).1
  obtain ⟨z, hz, rfl⟩ := List.mem_map.1 hx2
  have hr := (hR z hz).smp
  have hl5 : (Grain.win z.smp a b).length ≤ 500 := Nat.le_trans (Grain.win_len _ _ _) hr.few
  have h1 := (of_ok (Grain_win_val hr a b) hl5).t
  show -9223372036854775808 ≤ (Grain.of (Grain.win z.smp a b)).t ∧ (Grain.of (Grain.win z.smp a b)).t ≤ 9223372036854775807
  omega

theorem vals_take {qs : List QT} {w : ByteArray} {k : Nat} (h : k < qs.length) : valsR w ((qs.take (k + 1)).map QT.lk) = valsR w ((qs.take k).map QT.lk) ++ (if (valP w (qt qs k).sm).2 = true then [((qt qs k).ser, (valP w (qt qs k).sm).1)] else []) := by
  rw [take_qt h, List.map_append]
  unfold valsR
  rw [List.flatMap_append]
  simp [QT.lk]

/-- an own row of cells whose series lie in an older world -/
structure RowR (U wr : World) (co : Option Addr) (N d : Nat) (cts : List CT) : Prop where
  own : wr.ownsRow U.heap.size 57 2 (.slice co N d) N (ccells cts)
  ser : ∀ c ∈ cts, Seg U c.sa (lcells c.ser)
  bel : Below U.heap.size U wr

theorem RowR.start (U : World) : RowR U U none 0 0 [] := ⟨World.ownsRow_nil _ _ _ _, fun c hc => (by cases hc), Below.refl _ _⟩
theorem RowR.call {U wr w' : World} {co : Option Addr} {N d : Nat} {cts : List CT} (I : RowR U wr co N d cts) (hb : Below wr.heap.size wr w') : RowR U w' co N d cts := ⟨own_below I.own hb, I.ser, below_step hb I.bel⟩
theorem RowR.len {U wr : World} {co : Option Addr} {N d : Nat} {cts : List CT} (I : RowR U wr co N d cts) : N = cts.length := by
  have := I.own.1; rw [ccells_length] at this; omega
theorem RowR.csR {U wr : World} {co : Option Addr} {N d : Nat} {cts : List CT} (I : RowR U wr co N d cts) : CsR wr co cts := ⟨own_seg' I.own, fun c hc => (I.ser c hc).below I.bel⟩

theorem RowR.push {U wr w' : World} {co : Option Addr} {N d : Nat} {cts : List CT} (I : RowR U wr co N d cts) (c : CT) (hc : Seg U c.sa (lcells c.ser)) {v' : Value} (own : w'.ownsRow U.heap.size 57 2 v' (N + 1) (ccells cts ++ [.slice c.sa c.ser.length c.sc, .int .i64 c.v])) (gr : wr.grownBy w' (Value.slice co N d).ownBlock) :
    ∃ co' d', v' = .slice co' (N + 1) d' ∧ RowR U w' co' (N + 1) d' (cts ++ [c]) := by
  obtain ⟨co', d', rfl, -, -⟩ := own_open own
  refine ⟨co', d', rfl, by rw [ccells_append]; exact own, fun x hx => ?_, I.bel.grown gr I.bel.size (fun g hg => (own_base I.own g hg).1)⟩
  rcases List.mem_append.1 hx with e | e
  · exact I.ser x e
  · simp at e
    rw [e]; exact hc

theorem cell_one {x y : Value} (hx : x.oneCell' = true) (hy : y.oneCell' = true) : ∀ u ∈ [x, y], u.oneCell' = true := by
  intro u hu
  simp only [List.mem_cons, List.not_mem_nil, or_false] at hu
  rcases hu with e | e <;> (subst e; assumption)

end Go.GrainU
namespace Go.Proofs.YthohkokhimdamaaGreat
open Go.RowKit Go.GrainU

/-- what a word says of a sum, by the document -/
theorem rword_any (s : Grain.Sm) (x : ByteArray) (q : Int) (z : Bool) (h : valP x s = (q, z)) (w : World) (t0 : -9223372036854775808 ≤ s.t) (t1 : s.t ≤ 9223372036854775807) :
    Calls Tryz.prog 39 #[.string x, .agg #[.int .i64 s.c, .int .i64 s.t, .int .i64 s.mn, .int .i64 s.mx, .int .i64 s.f, .int .i64 s.l, .int .i64 s.r]] w fun e w' => e = .returned (.tuple #[.int .i64 q, .bool z]) ∧ Below w.heap.size w w' := word_q s x q z (by rw [resa_val]; exact h) w t0 t1

set_option maxRecDepth 100000 in
set_option maxHeartbeats 1000000 in
theorem rev_num (en rg time : Int) (wd : ByteArray) (ma ba ka : Option Addr) (ml mc bl bc kl kc : Nat) (look : Value) (w : World) :
    Calls Tryz.prog 15 #[.agg #[.int .i64 1, .int .i64 en, .int .i64 rg, .string wd, .slice ma ml mc, .slice ba bl bc, .slice ka kl kc], .int .i64 time, look] w fun e w' => EPost (some ⟨true, [([], en)]⟩) e w' ∧ Below w.heap.size w w' := by
  obtain ⟨W, hW⟩ : ∃ W, W = w.alloc (.cells #[.int .i64 1, .int .i64 en, .int .i64 rg, .string wd, .slice ma ml mc, .slice ba bl bc, .slice ka kl kc] 27) := ⟨_, rfl⟩
  have bel0 : Below w.heap.size w W := by rw [hW]; exact (Below.refl _ _).alloc (Nat.le_refl _) _
  have sg := seg_new W #[.slice none 0 0, .int .i64 en] 57
  have hC : Hid (CsR (W.alloc (.cells #[.slice none 0 0, .int .i64 en] 57)) (some ⟨W.heap.size, 0, none⟩) [⟨[], en, none, 0⟩]) := ⟨sg, fun c hc => by simp at hc; rw [hc]; exact .inl rfl⟩
  have HW := hide hW
  clear hW sg
  go_enter Tryz.func15, Tryz.ntmps15
  go_wp2
  rw [← HW.out]
  exact bodyPost_ret (v := .tuple #[.slice (some ⟨W.heap.size, 0, none⟩) 1 1, .bool false, .int .i64 0]) (by rw [HW.out]; simp [results, Tryz.results15, go_sem]) rfl ⟨.inr ⟨true, _, _, 1, 1, rfl, rfl, rfl, hC.out⟩, below_al bel0 _⟩

set_option maxRecDepth 100000 in
set_option maxHeartbeats 8000000 in
theorem rev_win (l : List LT) (ms : List Mt) (en rg time : Int) (wd : ByteArray) (ao ma ba ka : Option Addr) (n cap C1 ml mc bl bc kl kc : Nat) (w : World) (hk : LkOk w l ao n cap C1) (hR : ∀ x ∈ l, LnRt x) (hn : n = l.length) (h8 : n ≤ 8) (hms : Seg w ma (mcells ms)) (hm : ml = ms.length) (hM : ml ≤ 9223372036854775806) (ht0 : 0 ≤ time) (ht1 : time ≤ 1000000) (hr0 : 1 ≤ rg) (hr1 : rg ≤ 100000) :
    Calls Tryz.prog 15 #[.agg #[.int .i64 2, .int .i64 en, .int .i64 rg, .string wd, .slice ma ml mc, .slice ba bl bc, .slice ka kl kc], .int .i64 time, .func (.func 16) #[] #[.pointer (some ⟨C1, 0, none⟩)]] w fun e w' => EPost (some ⟨false, valsR wd (lookR (lns l) ms (max 0 (time - rg)) time)⟩) e w' ∧ Below w.heap.size w w' := by
  obtain ⟨i0, hi, hz0, hz1, hz2⟩ := info_parts Tryz.infoCell
  obtain ⟨A, hA⟩ : ∃ A, A = max 0 (time - rg) := ⟨_, rfl⟩
  rw [← hA]
  obtain ⟨W, hW⟩ : ∃ W, W = w.alloc (.cells #[.int .i64 2, .int .i64 en, .int .i64 rg, .string wd, .slice ma ml mc, .slice ba bl bc, .slice ka kl kc] 27) := ⟨_, rfl⟩
  obtain ⟨E0, hE0⟩ : ∃ E, E = w.heap.size := ⟨_, rfl⟩
  have bel0 : Below w.heap.size w W := by rw [hW]; exact (Below.refl _ _).alloc (Nat.le_refl _) _
  have F0 : W.heap[E0]? = some (.cells #[.int .i64 2, .int .i64 en, .int .i64 rg, .string wd, .slice ma ml mc, .slice ba bl bc, .slice ka kl kc] 27 (0, 0)) := by rw [hW, hE0]; exact heap_alloc_new w _
  have hkW := hk.below bel0
  have PL := hide (rlook_any l ms ao ma n cap C1 ml mc A time W hkW.cell hkW.seg hkW.lns hR hn h8 (hms.below bel0) hm hM)
  have HBd := hide (lookR_bd hR (ms := ms) (a := A) (b := time))
  have hwr : IntKind.i64.wrap (time - rg) = time - rg := by rw [IntKind.wrap_i64]; omega
  have HA := hide hA
  have HW := hide hW
  have HE0 := hide hE0
  obtain ⟨e0, e1, e2, e3, e4, e5, e6⟩ := seven_cells F0
  clear hW hA hk hkW hms hm hn hR
  go_enter Tryz.func15, Tryz.ntmps15
  go_upto_if 50 with fail
  rw [← HW.out, ← HE0.out]
  clear hE0 HE0 HW
  go_cut [9] from 50 to 50 (fun v9 wx => v9 = .int .i64 A ∧ wx = W)
  case first =>
    by_cases hneg : time - rg < 0
    · have hA0 : A = 0 := by rw [HA.out]; omega
      subst hA0
      clear HA
      go_wp2_with fail
      go_meet
      exact ⟨rfl, rfl⟩
    · have hA0 : A = time - rg := by rw [HA.out]; omega
      clear HA
      go_wp2_with fail
      go_meet
      exact ⟨by rw [hA0], rfl⟩
  case rest =>
  obtain ⟨rfl, hwc⟩ := hcut
  rw [hwc]
  clear hwc HA hwr
  go_wp2_with fail
  refine PL.out.mono ?_
  rintro e U ⟨qs, co, so, K, d, d', rfl, hq, hK, hK8, hC, hS, bU⟩
  have FU := below_block bU F0
  have HQ := hide hq
  have HK := hide hK
  have belU := below_step bU bel0
  have HBs : Hid (∀ q ∈ qs, -9223372036854775808 ≤ q.sm.t ∧ q.sm.t ≤ 9223372036854775807) := fun q hq2 => HBd.out q.lk (by rw [← HQ.out]; exact List.mem_map_of_mem hq2)
  clear e0 e1 e2 e3 e4 e5 e6 hq hK PL bU F0 bel0 HBd
  go_wp2
  go_loopw [13, 66] (fun out i wr => ∃ (k N e : Nat) (oo : Option Addr) (cts : List CT), k ≤ K ∧ i = .int .i64 k ∧ out = .slice oo N e ∧ N ≤ k ∧ RowR U wr oo N e cts ∧ Hid (cls cts = valsR wd ((qs.take k).map QT.lk))) (fun _ i _ => K - (intOf i).toNat)
  case atStart => exact ⟨0, 0, 0, none, [], Nat.zero_le _, rfl, rfl, Nat.le_refl _, RowR.start U, rfl⟩
  case round =>
    obtain ⟨k, N, e, oo, cts, hk, rfl, rfl, hNk, I, HC⟩ := hrel
    by_cases hlt : k < K
    · have hkl : k < qs.length := by rw [← HK.out]; exact hlt
      have hkc : k < (qs.map QT.ct).length := by simpa using hkl
      obtain ⟨b, off, hco, hb, hcell⟩ := seg_cell hC.seg hkc
      obtain ⟨b2, off2, hso, hb2, hcell2⟩ := seg_sum hS hkl
      obtain ⟨x, hx⟩ : ∃ x, x = qt qs k := ⟨_, rfl⟩
      obtain ⟨sn, hsn⟩ : ∃ sn, sn = x.ser.length := ⟨_, rfl⟩
      obtain ⟨J, hJ⟩ : ∃ J, J = x.sm := ⟨_, rfl⟩
      have ect : ct (qs.map QT.ct) k = x.ct := by rw [hx]; exact ct_qt hkl
      have c0 : wr.cell? ⟨b, off + k * 2, none⟩ = some (.slice x.sa sn x.sc) := by
        have := (I.bel.cell (p := ⟨b, off + k * 2, none⟩) (by exact hb)).trans (hcell k hkc).1
        rw [ect] at this
        rw [hsn]; exact this
      have c1 : wr.cell? ⟨b, off + k * 2 + 1, none⟩ = some (.int .i64 0) := by
        have := (I.bel.cell (p := ⟨b, off + k * 2 + 1, none⟩) (by exact hb)).trans (hcell k hkc).2
        rw [ect] at this
        exact this
      have serx : Seg U x.sa (lcells x.ser) := by
        have := hC.ser (ct (qs.map QT.ct) k) (ct_mem hkc)
        rw [ect] at this
        exact this
      have tb := HBs.out x (by rw [hx]; exact qt_mem hkl)
      rw [← hx, ← hJ] at hcell2
      rw [← hJ] at tb
      have HV : Hid (valsR wd ((qs.take (k + 1)).map QT.lk) = valsR wd ((qs.take k).map QT.lk) ++ (if (valP wd J).2 = true then [(x.ser, (valP wd J).1)] else [])) := by
        show _ = _
        rw [vals_take hkl, hJ, hx]
      obtain ⟨V, hV⟩ : ∃ V, V = wr.alloc (.cells #[.slice x.sa sn x.sc, .int .i64 0] 57) := ⟨_, rfl⟩
      obtain ⟨X, hX⟩ : ∃ X, X = wr.heap.size := ⟨_, rfl⟩
      have F1 : V.heap[X]? = some (.cells #[.slice x.sa sn x.sc, .int .i64 0] 57 (0, 0)) := by rw [hV, hX]; exact heap_alloc_new wr _
      have bV : Below wr.heap.size wr V := by rw [hV]; exact (Below.refl _ _).alloc (Nat.le_refl _) _
      have IV := I.call bV
      have FV := below_block IV.bel FU
      have C7 : Cells7u V b2 (off2 + k * 7) J := hcell2.below IV.bel hb2
      obtain ⟨v, hv⟩ : ∃ v, v = (valP wd J).1 := ⟨_, rfl⟩
      obtain ⟨ok, hok⟩ : ∃ ok, ok = (valP wd J).2 := ⟨_, rfl⟩
      rw [← hv, ← hok] at HV
      have PW : Hid (∀ w', Calls Tryz.prog 39 #[.string wd, .agg #[.int .i64 J.c, .int .i64 J.t, .int .i64 J.mn, .int .i64 J.mx, .int .i64 J.f, .int .i64 J.l, .int .i64 J.r]] w' fun e w'' => e = .returned (.tuple #[.int .i64 v, .bool ok]) ∧ Below w'.heap.size w' w'') := fun w' => rword_any J wd v ok (by rw [hv, hok]) w' tb.1 tb.2
      have lE : E0 < V.heap.size := lt_of_block FV
      have lb2 : b2 < V.heap.size := Nat.lt_of_lt_of_le hb2 IV.bel.size
      obtain ⟨_, _, _, e3, _, _, _⟩ := seven_cells FV
      have HS : Hid (∀ w', Below V.heap.size V w' → w'.cell? ⟨E0, 3, none⟩ = some (.string wd) ∧ w'.cell? ⟨b2, off2 + k * 7, none⟩ = some (.int .i64 J.c) ∧ w'.cell? ⟨b2, off2 + k * 7 + 1, none⟩ = some (.int .i64 J.t) ∧ w'.cell? ⟨b2, off2 + k * 7 + 2, none⟩ = some (.int .i64 J.mn) ∧ w'.cell? ⟨b2, off2 + k * 7 + 3, none⟩ = some (.int .i64 J.mx) ∧ w'.cell? ⟨b2, off2 + k * 7 + 4, none⟩ = some (.int .i64 J.f) ∧ w'.cell? ⟨b2, off2 + k * 7 + 5, none⟩ = some (.int .i64 J.l) ∧ w'.cell? ⟨b2, off2 + k * 7 + 6, none⟩ = some (.int .i64 J.r)) := fun w' hb' => ⟨(hb'.cell (p := ⟨E0, 3, none⟩) lE).trans e3, C7.below hb' lb2⟩
      have HSN := hide hsn
      have HV' := hide hV
      have HX := hide hX
      have k2 : (k : Int) < (K : Int) := by omega
      clear hV hX hx hsn hJ ect hcell hcell2 hkl hkc hv hok tb C7 I bV e3
      subst hco hso
      go_upto_region 15 with fail
      rw [← HV'.out, ← HX.out]
      clear HV' HX c0 c1
      have R0 : Below V.heap.size V V.drew := below_drewN (Below.refl _ _) 1
      have i7 : k < K := hlt
      go_cut [16, 17] from 71 to 80 (fun v16 v17 wx => v16 = .int .i64 v ∧ v17 = .bool ok ∧ Below V.heap.size V wx)
      case first =>
        go_region_held3 (fun w' => w'.cell? ⟨E0, 3, none⟩ = some (.string wd) ∧ w'.cell? ⟨b2, off2 + k * 7, none⟩ = some (.int .i64 J.c) ∧ w'.cell? ⟨b2, off2 + k * 7 + 1, none⟩ = some (.int .i64 J.t) ∧ w'.cell? ⟨b2, off2 + k * 7 + 2, none⟩ = some (.int .i64 J.mn) ∧ w'.cell? ⟨b2, off2 + k * 7 + 3, none⟩ = some (.int .i64 J.mx) ∧ w'.cell? ⟨b2, off2 + k * 7 + 4, none⟩ = some (.int .i64 J.f) ∧ w'.cell? ⟨b2, off2 + k * 7 + 5, none⟩ = some (.int .i64 J.l) ∧ w'.cell? ⟨b2, off2 + k * 7 + 6, none⟩ = some (.int .i64 J.r)) (exact HS.out _ (by with_reducible assumption))
          (first | (go_at_call 39; refine (PW.out _).mono ?_; rintro e w3 ⟨rfl, b3⟩; have R4 := below_step b3 (by with_reducible assumption)))
        all_goals
          go_wp2_with fail
          go_meet
          exact ⟨rfl, rfl, R4⟩
      case rest =>
      obtain ⟨rfl, rfl, bx⟩ := hcut
      have I3 := IV.call bx
      have F3 := below_block bx F1
      obtain ⟨p0, p1, _, _⟩ := two_cells F3
      have lX : X < wc.heap.size := lt_of_block F3
      clear IV F1 HS PW R0 FV lE lb2
      cases ok with
      | false =>
        have HC2 : Hid (cls cts = valsR wd ((qs.take (k + 1)).map QT.lk)) := by show _ = _; rw [HV.out, HC.out]; simp
        clear HV HC
        go_wp2
        go_roundw
        case rel => exact ⟨k + 1, N, e, oo, cts, by omega, by go_num, rfl, by omega, I3, HC2⟩
        case measure => simp [intOf]; omega
      | true =>
        have HC2 : Hid (cls (cts ++ [⟨x.ser, v, x.sa, x.sc⟩]) = valsR wd ((qs.take (k + 1)).map QT.lk)) := by show _ = _; rw [HV.out, cls_append, HC.out]; simp [cls, CT.cl]
        have bA : Below wc.heap.size wc (wc.alloc (.cells #[.slice x.sa sn x.sc, .int .i64 v] 57)) := (Below.refl _ _).alloc (Nat.le_refl _) _
        have I4 := I3.call bA
        have hN8 : N ≤ 8 := by omega
        have hone : ∀ u ∈ [Value.slice x.sa sn x.sc, .int .i64 v], u.oneCell' = true := cell_one rfl rfl
        clear HV HC I3
        go_wp2_with (at_builtin; refine append_seg rfl _ _ 28 rfl U.heap.size 57 i0 (.agg #[.slice none 0 0, .int .i64 0]) 2 32 Tryz.underlying28 hi hz0 hz1 hz2 rfl (by decide) _ _ _ rfl I4.own (some ⟨wc.heap.size, 0, none⟩) 1 1 [.slice x.sa sn x.sc, .int .i64 v] rfl (fun h => by cases h) (seg_new wc _ _) rfl hone (by unfold maxLen; omega) (by omega) I4.bel.size ?_)
        intro v5 w5 own5 gr5
        obtain ⟨co5, d5, rfl, I5⟩ := I4.push ⟨x.ser, v, x.sa, x.sc⟩ serx (by rw [← HSN.out]; exact own5) gr5
        clear own5 gr5 I4 bA hone
        go_wp2
        go_roundw
        case rel => exact ⟨k + 1, N + 1, d5, co5, _, by omega, by go_num, rfl, by omega, I5, HC2⟩
        case measure => simp [intOf]; omega
    · have he : k = K := by omega
      subst he
      have hall : qs.take k = qs := List.take_of_length_le (by rw [← HK.out]; exact Nat.le_refl _)
      have HE : Hid (cls cts = valsR wd (lookR (lns l) ms A time)) := by show _ = _; rw [HC.out, hall, HQ.out]
      have hNl := hide I.len
      have csr := I.csR
      have bel := below_step I.bel belU
      clear I HC hall
      go_wp2
      exact bodyPost_ret (v := .tuple #[.slice oo N e, .bool true, .int .i64 0]) (by simp [results, Tryz.results15, go_sem]) rfl ⟨.inr ⟨false, cts, oo, N, e, rfl, by rw [HE.out], hNl.out, csr⟩, bel⟩

end Go.Proofs.YthohkokhimdamaaGreat

/-
  The document's Eval: totals.
-/
namespace Go.Proofs.YthohkokhimdamaaGreat
open Go.RowKit Go.GrainU

set_option maxRecDepth 100000 in
set_option maxHeartbeats 4000000 in
theorem rev_all (t : ET) (bs : List ByteArray) (O : Option Mn) (en rg time : Int) (wd : ByteArray) (ma ba : Option Addr) (b off ml mc bl bc kc : Nat) (look : Value) (w : World) (hc : Cells7 w b off t) (hb : b < w.heap.size) (hbs : Seg w ba (wcells bs)) (hbl : bl = bs.length) (hM : bl ≤ 9223372036854775806) (h4 : has totals4 wd = true) (hG : ∀ m, O = some m → Gd m)
    (PI : ∀ w', Below w.heap.size w w' → Calls Tryz.prog 15 #[eval t, .int .i64 time, look] w' fun e w'' => EPost O e w'' ∧ Below w'.heap.size w' w'') :
    Calls Tryz.prog 15 #[.agg #[.int .i64 3, .int .i64 en, .int .i64 rg, .string wd, .slice ma ml mc, .slice ba bl bc, .slice (some ⟨b, off, none⟩) 1 kc], .int .i64 time, look] w fun e w' => EPost (O.bind fun m => (allA wd bs [] m.cs).map fun c => ⟨false, c⟩) e w' ∧ Below w.heap.size w w' := by
  obtain ⟨W, hW⟩ : ∃ W, W = w.alloc (.cells #[.int .i64 3, .int .i64 en, .int .i64 rg, .string wd, .slice ma ml mc, .slice ba bl bc, .slice (some ⟨b, off, none⟩) 1 kc] 27) := ⟨_, rfl⟩
  obtain ⟨E0, hE0⟩ : ∃ E, E = w.heap.size := ⟨_, rfl⟩
  have bel0 : Below w.heap.size w W := by rw [hW]; exact (Below.refl _ _).alloc (Nat.le_refl _) _
  have F0 : W.heap[E0]? = some (.cells #[.int .i64 3, .int .i64 en, .int .i64 rg, .string wd, .slice ma ml mc, .slice ba bl bc, .slice (some ⟨b, off, none⟩) 1 kc] 27 (0, 0)) := by rw [hW, hE0]; exact heap_alloc_new w _
  have P1 := hide (PI W bel0)
  have HW := hide hW
  have HE0 := hide hE0
  have HG := hide hG
  have HBL := hide hbl
  have H4 := hide h4
  obtain ⟨RES, hRES⟩ : ∃ R : Option Mn, R = O.bind fun m => (allA wd bs [] m.cs).map fun c => (⟨false, c⟩ : Mn) := ⟨_, rfl⟩
  rw [← hRES]
  have HRES := hide hRES
  obtain ⟨c0, c1, c2, c3, c4, c5, c6⟩ := hc
  unfold eval at P1
  clear hW PI hG hbl h4 hRES
  go_enter Tryz.func15, Tryz.ntmps15
  go_wp2_with fail
  rw [← HW.out]
  refine P1.out.mono ?_
  rintro e w1 ⟨hp, b1⟩
  rw [← HE0.out]
  have F1 := below_block b1 F0
  have bw := below_step b1 bel0
  have HP := hide hp
  clear hp c0 c1 c2 c3 c4 c5 c6 P1 HW HE0 hE0
  obtain ⟨e0, e1, e2, e3, e4, e5, e6⟩ := seven_cells F1
  have lE : E0 < w1.heap.size := lt_of_block F1
  rcases HP.out with ⟨ho, rfl⟩ | ⟨nb, cts, co, N, d, rfl, ho, hN, hC⟩
  · have HE : Hid (RES = none) := by show _ = _; rw [HRES.out, ho]; rfl
    clear HP ho HRES
    go_wp2
    exact bodyPost_ret (v := .tuple #[.slice none 0 0, .bool false, .int .i64 3]) (by simp [results, Tryz.results15, go_sem]) rfl ⟨.inl ⟨HE.out, rfl⟩, bw⟩
  · have HE : Hid (RES = (allA wd bs [] (cls cts)).map fun c => (⟨false, c⟩ : Mn)) := by show _ = _; rw [HRES.out, ho]; rfl
    have gd := HG.out _ ho
    have PA := hide (rall_any cts bs wd 3 en rg co ma ba (some ⟨b, off, none⟩) N d ml mc bl bc 1 kc w1 hC (hbs.below bw) hN HBL.out hM gd.fine (by rw [hN, ← cls_len]; exact gd.len) H4.out)
    clear HP ho HRES gd hN hC hbs
    go_wp2_with fail
    refine PA.out.mono ?_
    rintro e w2 ⟨hp, b2⟩
    have bw2 := below_step b2 bw
    have HP := hide hp
    clear hp PA e0 e1 e2 e3 e4 e5 e6
    rcases HP.out with ⟨ho, rfl⟩ | ⟨cts2, co2, N2, d2, rfl, ho, hN, hC⟩
    · have HE2 : Hid (RES = none) := by show _ = _; rw [HE.out, ho]; rfl
      clear HP ho HE
      go_wp2
      exact bodyPost_ret (v := .tuple #[.slice none 0 0, .bool false, .int .i64 3]) (by simp [results, Tryz.results15, go_sem]) rfl ⟨.inl ⟨HE2.out, rfl⟩, bw2⟩
    · have HE2 : Hid (RES = some ⟨false, cls cts2⟩) := by show _ = _; rw [HE.out, ho]; rfl
      have HN2 := hide hN
      clear HP ho HE hN
      go_wp2
      exact bodyPost_ret (v := .tuple #[.slice co2 N2 d2, .bool true, .int .i64 0]) (by simp [results, Tryz.results15, go_sem]) rfl ⟨.inr ⟨false, cts2, co2, N2, d2, rfl, HE2.out, HN2.out, hC⟩, bw2⟩

end Go.Proofs.YthohkokhimdamaaGreat
