/-
  What comes to something is within its bounds.
-/
import Derived.Test.YthohkokhimdamaaGreatP28
/-
  The walk of allOf.
-/
namespace Go.GrainU
open Go.RowKit

theorem ccells_set : ∀ (l : List CT) (p : Nat) (v : Int), p < l.length → (ccells l).set (p * 2 + 1) (.int .i64 v) = ccells (l.set p (ctw (ct l p) v))
  | [], _, _, h => by simp at h
  | a :: r, 0, v, _ => rfl
  | a :: r, p + 1, v, h => by
    have ih := ccells_set r p v (by simpa using h)
    rw [show (p + 1) * 2 + 1 = (p * 2 + 1) + 1 + 1 from by omega]
    simp only [ccells, List.set_cons_succ, ih, ct_succ]

theorem cell_set {w : World} {base e size g n cap : Nat} {xs : List Value} (h : w.ownsRow base e size (.slice (some ⟨g, 0, none⟩) n cap) n xs) (j : Nat) (u : Value) (hj : j < xs.length) :
    (w.setCell ⟨g, j, none⟩ u).ownsRow base e size (.slice (some ⟨g, 0, none⟩) n cap) n (xs.set j u) := by
  obtain ⟨cur, hG, h1, h2, h3, h4⟩ : ∃ cur, w.heap[g]? = some (.cells cur e (0, 0)) ∧ base ≤ g ∧ n ≤ cap ∧ cap ≤ maxLen ∧ cur.size = cap * size := by
    rcases h.2 with ⟨h0, _⟩ | ⟨g', c, cur, h0, hb, hh, k1, k2, k3, _⟩
    · cases h0
    · injection h0 with e1 _ e3
      injection e1 with e1
      injection e1 with e1 _ _
      subst e1
      subst e3
      exact ⟨cur, hh, hb, k1, k2, k3⟩
  have hl := h.1
  obtain ⟨c1, k1, k2⟩ := setCells_block g [u] j w cur _ _ hG
  have hs : ∀ i, i < xs.length → w.cell? ⟨g, i, none⟩ = xs[i]? := fun i hi => h.cellAt i (by omega)
  refine own_of_cells (cur := c1) k1 h1 h2 h3 (by omega) (by simpa using hl) ?_
  intro i hi
  simp at hi
  by_cases e : i = j
  · subst e
    have := World.cell?_setCells_in g [u] i w (fun t ht => by
      simp at ht
      subst ht
      rw [Nat.add_zero, hs i hi, List.getElem?_eq_getElem hi]; rfl) 0 (by simp)
    rw [Nat.add_zero] at this
    show (w.setCells g i [u]).cell? _ = _
    rw [this]
    simp [hi]
  · have := World.cell?_setCells_out g [u] j w ⟨g, i, none⟩ (fun _ _ => by show i < j ∨ j + 1 ≤ i; omega)
    show (w.setCells g j [u]).cell? _ = _
    rw [this, hs i hi, List.getElem?_set_ne (fun h => e h.symm)]

/-- a cell's value written in place -/
theorem OwnC.put {w : World} {base T N d g p : Nat} {l : List CT} (h : OwnC w base T (.slice (some ⟨g, 0, none⟩) N d) N l) (hp : p < l.length) (v : Int) :
    OwnC (w.setCell ⟨g, p * 2 + 1, none⟩ (.int .i64 v)) base T (.slice (some ⟨g, 0, none⟩) N d) N (l.set p (ctw (ct l p) v)) := by
  have gr : w.grownBy (w.setCell ⟨g, p * 2 + 1, none⟩ (.int .i64 v)) (some g) := setCells_grown g [.int .i64 v] (p * 2 + 1) w
  refine ⟨?_, fun c hc => ?_⟩
  · rw [← ccells_set l p v hp]
    exact cell_set h.own _ _ (by rw [ccells_length]; omega)
  · have hk : ∃ c' ∈ l, c.sa = c'.sa ∧ c.ser = c'.ser := by
      rcases List.mem_or_eq_of_mem_set hc with e | e
      · exact ⟨c, e, rfl, rfl⟩
      · exact ⟨ct l p, ct_mem hp, by rw [e]; rfl, by rw [e]; rfl⟩
    obtain ⟨c', hc', e1, e2⟩ := hk
    rw [e1, e2]
    exact (h.ser c' hc').grown gr (fun k hk => .inl hk)

/-- labels lie in another block than a meaning -/
theorem seg_far {w : World} {ao : Option Addr} {s : Lb} {B t o : Nat} {f : Bool} {a : Option Addr} {n c : Nat} {fr : Nat × Nat} (h : Seg w ao (lcells s)) (hB : w.heap[B]? = some (.cells #[.bool f, .slice a n c] t fr)) (v : Value) : Seg (w.setCell ⟨B, o, none⟩ v) ao (lcells s) := by
  rcases h with h | ⟨b, off, rfl, h⟩
  · exact .inl h
  · cases s with
    | nil => exact .inl rfl
    | cons x r =>
      have h0 := h 0 (by simp [lcells])
      have hne : b ≠ B := by
        intro e
        subst e
        simp [World.cell?, hB, lcells] at h0
        match off, h0 with
        | 0, h0 => simp at h0
        | 1, h0 => simp at h0
        | q + 2, h0 => simp at h0
      refine .inr ⟨b, off, rfl, fun j hj => ?_⟩
      rw [cell_of_block (setCell_far hne)]
      exact h j hj

theorem allA_no {w : ByteArray} {ks : List ByteArray} {out : List Cl} {c : Cl} {r : List Cl} (h : putA w (only c.1 ks) (one1 w c.2) out = none) : allA w ks out (c :: r) = none := by simp [allA, h]
theorem allA_yes {w : ByteArray} {ks : List ByteArray} {out out' : List Cl} {c : Cl} {r : List Cl} (h : putA w (only c.1 ks) (one1 w c.2) out = some out') : allA w ks out (c :: r) = allA w ks out' r := by simp [allA, h]

end Go.GrainU
namespace Go.Proofs.YthohkokhimdamaaGreat
open Go.RowKit Go.GrainU

/-- what allOf's loop keeps -/
structure AI (W wr : World) (co : Option Addr) (N d k : Nat) (cts : List CT) : Prop where
  bel : Below W.heap.size W wr
  own : OwnC wr W.heap.size 57 (.slice co N d) N cts
  srt : Srt (cls cts)
  fin : ∀ c ∈ cls cts, Fine c
  len : N ≤ k

theorem AI.call {W wr w' : World} {co : Option Addr} {N d k : Nat} {cts : List CT} (I : AI W wr co N d k cts) (hb : Below wr.heap.size wr w') : AI W w' co N d k cts :=
  ⟨I.bel.trans (hb.mono I.bel.size), I.own.below hb, I.srt, I.fin, I.len⟩

set_option maxRecDepth 100000 in
set_option maxHeartbeats 8000000 in
theorem mall_any (l : List CT) (ks : List ByteArray) (x : ByteArray) (ao bo : Option Addr) (n d0 m bc : Nat) (w : World) (hl : CsIn w ao l) (hk : Seg w bo (wcells ks)) (hn : n = l.length) (hm : m = ks.length) (hM : m ≤ 9223372036854775807) (hf : ∀ c ∈ cls l, Fine c) (hn8 : n ≤ 8) :
    Calls Tryz.prog 53 #[.slice ao n d0, .string x, .slice bo m bc] w fun e w' => MPost ((allA x ks [] (cls l)).map fun c => ⟨false, c⟩) e w' ∧ Below w.heap.size w w' := by
  have HN := hide hn
  have HM := hide hm
  have HF := hide hf
  clear hn hm hf
  obtain ⟨W, hW⟩ : ∃ W, W = w.alloc (.cells #[.bool false, .slice none 0 0] 67) := ⟨_, rfl⟩
  have bel0 : Below w.heap.size w W := by rw [hW]; exact (Below.refl _ _).alloc (Nat.le_refl _) _
  have F0 : W.heap[w.heap.size]? = some (.cells #[.bool false, .slice none 0 0] 67 (0, 0)) := by rw [hW]; exact heap_alloc_new w _
  have hlW := hl.below bel0
  have hkW := hk.below bel0
  have HW := hide hW
  clear hW hl hk
  go_enter Tryz.func53, Tryz.ntmps53
  go_wp2
  rw [← HW.out]
  go_loopw [8, 18] (fun out i wr => ∃ (k N d : Nat) (co : Option Addr) (cts : List CT), k ≤ n ∧ i = .int .i64 k ∧ out = .slice co N d ∧ AI W wr co N d k cts ∧ Hid (allA x ks [] (cls l) = allA x ks (cls cts) (cls (l.drop k)))) (fun _ i _ => n - (intOf i).toNat)
  case atStart => exact ⟨0, 0, 0, none, [], Nat.zero_le _, rfl, rfl, ⟨Below.refl _ _, OwnC.nil _ _ _, by simp [Srt, cls], fun c hc => by simp [cls] at hc, Nat.le_refl _⟩, rfl⟩
  case round =>
    obtain ⟨k, N, d, co, cts, hk, rfl, rfl, I, HA⟩ := hrel
    by_cases hlt : k < n
    · have hkl : k < l.length := by rw [← HN.out]; exact hlt
      obtain ⟨b, off, rfl, hb, hcell⟩ := seg_cell hlW.seg hkl
      obtain ⟨c, hc⟩ : ∃ c, c = ct l k := ⟨_, rfl⟩
      obtain ⟨cn, hcn⟩ : ∃ cn, cn = c.ser.length := ⟨_, rfl⟩
      have segc : Seg W c.sa (lcells c.ser) := by rw [hc]; exact hlW.ser _ (ct_mem hkl)
      have c0 : wr.cell? ⟨b, off + k * 2, none⟩ = some (.slice c.sa cn c.sc) := by rw [hcn, hc]; exact (I.bel.cell (by exact hb)).trans (hcell k hkl).1
      have c1 : wr.cell? ⟨b, off + k * 2 + 1, none⟩ = some (.int .i64 c.v) := by rw [hc]; exact (I.bel.cell (by exact hb)).trans (hcell k hkl).2
      have fc : Fine c.cl := HF.out _ (by rw [hc]; exact List.mem_map_of_mem (ct_mem hkl))
      have HD : Hid (cls (l.drop k) = c.cl :: cls (l.drop (k + 1))) := by show _ = _; rw [cls_drop hkl, hc]
      obtain ⟨v, hv⟩ : ∃ v, v = one1 x c.v := ⟨_, rfl⟩
      have hv2 : -MC ≤ v ∧ v ≤ MC := by
        rw [hv]; unfold one1
        split
        · simp [MC]
        · exact ⟨fc.1, fc.2.1⟩
      obtain ⟨V, hV⟩ : ∃ V, V = wr.alloc (.cells #[.slice c.sa cn c.sc, .int .i64 v] 57) := ⟨_, rfl⟩
      obtain ⟨X, hX⟩ : ∃ X, X = wr.heap.size := ⟨_, rfl⟩
      have F1 : V.heap[X]? = some (.cells #[.slice c.sa cn c.sc, .int .i64 v] 57 (0, 0)) := by rw [hV, hX]; exact heap_alloc_new wr _
      have belA : Below wr.heap.size wr V := by rw [hV]; exact (Below.refl _ _).alloc (Nat.le_refl _) _
      have IV := I.call belA
      have cn4 : cn ≤ 4 := by rw [hcn]; exact fc.2.2
      have HV := hide hV
      have HX := hide hX
      have HCN := hide hcn
      have Hv := hide hv
      clear hV hcn hc hkl hcell I belA hv fc
      obtain ⟨Q, hQ⟩ : ∃ Q, Q = decide (x = lit [99, 111, 117, 110, 116]) := ⟨_, rfl⟩
      have HQ := hide hQ
      clear hQ
      go_upto_region 5 with fail
      go_cut [23] from 22 to 23 (fun v23 wx => v23 = .bool Q ∧ wx = wr.alloc (.cells #[.slice c.sa cn c.sc, .int .i64 c.v] 57))
      case first =>
        by_cases hq : x = lit [99, 111, 117, 110, 116]
        · have hd : Hid (Q = true) := by show _ = _; rw [HQ.out]; simpa using hq
          have hq2 : (x.toList == [99, 111, 117, 110, 116]) = true := by rw [hq, show (lit [99, 111, 117, 110, 116]).toList = [99, 111, 117, 110, 116] from ByteArray.toList_mk _]; decide
          clear hq
          go_wp2_with fail
          go_meet
          exact ⟨by rw [hd.out], rfl⟩
        · have hd : Hid (Q = false) := by show _ = _; rw [HQ.out]; simpa using hq
          have hq2 := list_ne2 hq
          clear hq
          go_wp2_with fail
          go_meet
          exact ⟨by rw [hd.out], rfl⟩
      case rest =>
      obtain ⟨rfl, rfl⟩ := hcut
      apply_assumption
      go_cut [23] from 24 to 24 (fun v23 wx => wx = V)
      case first =>
        cases Q with
        | true =>
          have hv1 : v = 1 := by
            have := of_decide_eq_true HQ.out.symm
            rw [Hv.out, one1, if_pos this]
          subst hv1
          go_wp2_with fail
          go_meet
          exact HV.out.symm
        | false =>
          have hv1 : v = c.v := by
            have := of_decide_eq_false HQ.out.symm
            rw [Hv.out, one1, if_neg this]
          subst hv1
          go_wp2_with fail
          go_meet
          exact HV.out.symm
      case rest =>
      rw [hcut, ← HX.out]
      clear hcut HV HX hX HQ c0 c1
      obtain ⟨x0, x1, _, _⟩ := two_cells F1
      obtain ⟨S, hS⟩ : ∃ S, S = only c.ser ks := ⟨_, rfl⟩
      have hS4 : S.length ≤ 4 := by rw [hS]; have := only_len c.ser ks; rw [← HCN.out] at this; omega
      have PO : Hid (∀ w', Below V.heap.size V w' → Calls Tryz.prog 70 #[.slice c.sa cn c.sc, .slice bo m bc] w' fun e w'' => ∃ co N d, e = .returned (.slice co N d) ∧ w''.ownsRow w'.heap.size 88 2 (.slice co N d) N (lcells S) ∧ N = S.length ∧ Below w'.heap.size w' w'') := fun w' hb' => by
        rw [hS]; exact nonly_own c.ser ks c.sa bo cn c.sc m bc w' ((segc.below IV.bel).below hb') HCN.out (by omega) ((hkW.below IV.bel).below hb') HM.out hM
      have HD2 : Hid (∀ r, putA x S v (cls cts) = r → allA x ks [] (cls l) = match r with | none => none | some o => allA x ks o (cls (l.drop (k + 1)))) := fun r hr => by
        have e1 : putA x (only c.cl.1 ks) (one1 x c.cl.2) (cls cts) = r := by rw [← hr, hS, Hv.out]; rfl
        rw [HA.out, HD.out]
        cases r with
        | none => exact allA_no e1
        | some o => exact allA_yes e1
      clear hS HA HD
      go_wp2_with fail
      refine (PO.out V (Below.refl _ _)).mono ?_
      rintro e w1 ⟨so, sn, sd, rfl, ownS, hsn, b1⟩
      have I1 := IV.call b1
      have F2 := below_block b1 F1
      have segS : SegN w1 (Value.slice co N d).ownBlock so (lcells S) := segN_own ownS (fun g hg => (own_base IV.own.own g hg).2)
      have hNl := I1.own.len
      have hN8 : N ≤ 8 := by have := I1.len; omega
      obtain ⟨p, hp, hbd, hcase⟩ := put_idx x S v cts I1.srt
      obtain ⟨FF, hFF⟩ : ∃ FF, FF = (decide (p < N) && decide (cmpS (ct cts p).ser S = 0)) := ⟨_, rfl⟩
      have hs8 : ∀ y ∈ cts, y.ser.length ≤ 9223372036854775807 := fun y hy => by
        have := (I1.fin y.cl (List.mem_map_of_mem hy)).2.2
        have e : y.cl.1.length = y.ser.length := rfl
        omega
      have HSN := hide hsn
      have HNL := hide hNl
      have PS : Calls Tryz.prog 71 #[.slice co N d, .slice so sn sd, .func (.func 72) #[] #[]] w1 fun e w' => e = .returned (.tuple #[.int .i64 p, .bool FF]) ∧ Below w1.heap.size w1 w' :=
        mbsc_any cts S co so N d sn sd p FF w1 I1.own.csIn segS.seg HNL.out HSN.out (by omega) hs8 (by omega) (fun q hq => hbd q (by omega)) hFF
      have HFF := hide hFF
      have HPS := hide PS
      have HPP := hide hp
      have HCS := hide hcase
      clear x0 x1 ownS b1 F1 IV hsn hNl hs8 PS hFF PO hbd hcase hp
      go_wp2_with fail
      refine HPS.out.mono ?_
      rintro e w2 ⟨rfl, b2⟩
      have I2 := I1.call b2
      have F3 := below_block b2 F2
      have segS2 := segS.below b2
      clear HPS I1 F2 segS b2
      rcases HCS.out with ⟨h1, h2, h3⟩ | ⟨h1, h2⟩
      · have hFt : Hid (FF = true) := by
          show _ = _
          rw [HFF.out, HNL.out]
          simp [h1, h2]
        have hpN : p < N := by rw [HNL.out]; exact h1
        have hg : ∃ g, co = some ⟨g, 0, none⟩ := by
          rcases I2.own.own.2 with ⟨_, h⟩ | ⟨g, cp, cur, h, _⟩
          · omega
          · injection h with h1 _ _
            exact ⟨g, h1⟩
        obtain ⟨g, rfl⟩ := hg
        obtain ⟨q, hq⟩ : ∃ q, q = (ct cts p).v := ⟨_, rfl⟩
        have cq : w2.cell? ⟨g, p * 2 + 1, none⟩ = some (.int .i64 q) := by
          rw [hq]
          exact (I2.own.own.cellAt (p * 2 + 1) (by omega)).trans (ccells_at cts p h1).2
        have fq : w2.frozen? ⟨g, p * 2 + 1, none⟩ = false := by
          rcases I2.own.own.2 with ⟨h, _⟩ | ⟨g', cp, cur, h, _, hh, _⟩
          · cases h
          · injection h with h1 _ _
            injection h1 with h1
            injection h1 with h1 _ _
            subst h1
            simp [World.frozen?, hh]
        have fp := I2.fin (ct cts p).cl (List.mem_map_of_mem (ct_mem h1))
        have bq : -MC ≤ q ∧ q ≤ MC := by rw [hq]; exact ⟨fp.1, fp.2.1⟩
        obtain ⟨T, hT⟩ : ∃ T, T = tog x q v := ⟨_, rfl⟩
        obtain ⟨R, hR⟩ : ∃ R, R = bnd T := ⟨_, rfl⟩
        have PT : Hid (∀ w', Calls Tryz.prog 75 #[.string x, .int .i64 q, .int .i64 v] w' fun e w'' => e = .returned (.int .i64 T) ∧ w'' = w') := fun w' => by rw [hT]; exact mtogether_any x q v w' bq hv2
        have PBd : Hid (∀ w', Calls Tryz.prog 74 #[.int .i64 T] w' fun e w'' => e = .returned (.tuple #[.int .i64 (ov R), .int .i64 (oe R)]) ∧ w'' = w') := fun w' => by rw [hR]; exact mbounded_any T w'
        have HP3 : Hid (putA x S v (cls cts) = R.map fun y => cls (cts.set p (ctw (ct cts p) y))) := by
          show _ = _
          rw [h3, ← hq, ← hT, hR]
          unfold bnd
          by_cases e : big T = true
          · rw [if_pos e, if_pos e]; rfl
          · rw [if_neg e, if_neg e]; rfl
        obtain ⟨x0, x1, _, _⟩ := two_cells F3
        have HH1 := hide h1
        have hFt2 := hFt.out
        subst hFt2
        have i2 : (p : Int) < (N : Int) := by omega
        clear h1 h2 h3 HFF hq hT hR fp bq
        go_wp2_with fail
        have hnn : decide (p < N) = true := by simp; omega
        go_quiet (first | (go_at_call 75; exact Calls.quiet_of_same (PT.out _)) | (go_at_call 74; exact Calls.quiet_of_same (PBd.out _)))
        have bel3 := I2.bel
        cases R with
        | none =>
          have HE : Hid (((allA x ks [] (cls l)).map fun c => (⟨false, c⟩ : Mn)) = none) := by
            show _ = _
            rw [HD2.out _ HP3.out]; rfl
          obtain ⟨r0, r1, r2, r3⟩ := two_cells (below_block bel3 F0)
          have belw : Below w.heap.size w w2 := bel0.trans (bel3.mono bel0.size)
          simp only [ov, oe]
          clear HD2 HP3 I2
          go_wp2
          exact bodyPost_ret (v := .tuple #[.agg #[.bool false, .slice none 0 0], .int .i64 3]) (by simp [results, Tryz.results53, go_sem, r0, r1]) rfl ⟨.inl ⟨HE.out, rfl⟩, ((below_drewN belw _).setCell (Nat.le_refl _) _).setCell (Nat.le_refl _) _⟩
        | some y =>
          have HP4 : Hid (putA x S v (cls cts) = some (cls (cts.set p (ctw (ct cts p) y)))) := HP3.out
          have HA2 : Hid (allA x ks [] (cls l) = allA x ks (cls (cts.set p (ctw (ct cts p) y))) (cls (l.drop (k + 1)))) := HD2.out _ HP4.out
          have pf := put_fine hS4 hv2 I2.fin HP4.out
          have ps := put_srt x S v (cls cts) I2.srt _ HP4.out
          have bd : Below w2.heap.size w2 (w2.drewN nq) := below_drewN (Below.refl _ _) nq
          have I3 : AI W ((w2.drewN nq).setCell ⟨g, p * 2 + 1, none⟩ (.int .i64 y)) (some ⟨g, 0, none⟩) N d (k + 1) (cts.set p (ctw (ct cts p) y)) :=
            ⟨(below_drewN bel3 nq).setCell (own_base I2.own.own g rfl).1 _, (I2.own.below bd).put HH1.out y, ps.1, pf.1, by have := I2.len; omega⟩
          simp only [ov, oe]
          clear HD2 HP3 HP4 I2 pf ps
          go_wp2
          go_roundw
          case rel => exact ⟨k + 1, N, d, _, _, by omega, by go_num, rfl, I3, HA2⟩
          case measure => simp [intOf]; omega
      · have hFf : Hid (FF = false) := by
          show _ = _
          rw [HFF.out, HNL.out]
          simp only [Bool.and_eq_false_iff, decide_eq_false_iff_not]
          by_cases e : p < cts.length
          · right; intro e2; exact h1 ⟨e, e2⟩
          · left; exact e
        obtain ⟨x0, x1, _, _⟩ := two_cells F3
        have HP2 := hide (h2 ⟨S, v, so, sd⟩ rfl)
        have hw2 := I2.bel.size
        have hlt2 : ∀ g, (Value.slice co N d).ownBlock = some g → g < w2.heap.size := fun g hg => (own_base I2.own.own g hg).2
        have belB : Below w2.heap.size w2 (w2.alloc (.cells #[.slice so sn sd, .int .i64 v] 57)) := (Below.refl _ _).alloc (Nat.le_refl _) _
        have IB := I2.call belB
        have FB : (w2.alloc (.cells #[.slice so sn sd, .int .i64 v] 57)).heap[w2.heap.size]? = some (.cells #[.slice so sn sd, .int .i64 v] 57 (0, 0)) := heap_alloc_new _ _
        have PI := hide (ins_any cts ⟨S, v, so, sd⟩ W.heap.size N d p w2.heap.size sn co _ IB.own (by rw [HNL.out]; exact HPP.out) hN8 IB.bel.size FB HSN.out (fun e => by have := hlt2 _ e; omega) (segS2.below belB))
        have hFf2 := hFf.out
        subst hFf2
        clear h1 h2 HFF
        go_wp2_with fail
        refine PI.out.mono ?_
        rintro e w3 ⟨co', d', rfl, own3, gr3⟩
        have belC : Below W.heap.size W w3 := IB.bel.grown gr3 IB.bel.size (fun j hj => (own_base IB.own.own j hj).1)
        have pf := put_fine hS4 hv2 IB.fin HP2.out
        have ps := put_srt x S v (cls cts) IB.srt _ HP2.out
        have I3 : AI W w3 co' (N + 1) d' (k + 1) (cts.take p ++ ⟨S, v, so, sd⟩ :: cts.drop p) := ⟨belC, own3, ps.1, pf.1, by have := IB.len; omega⟩
        have HA2 : Hid (allA x ks [] (cls l) = allA x ks (cls (cts.take p ++ ⟨S, v, so, sd⟩ :: cts.drop p)) (cls (l.drop (k + 1)))) := HD2.out _ HP2.out
        clear PI own3 gr3 belC pf ps IB I2 belB FB x0 x1 F3 HD2 HP2
        go_wp2
        go_roundw
        case rel => exact ⟨k + 1, N + 1, d', co', _, by omega, by go_num, rfl, I3, HA2⟩
        case measure => simp [intOf]; omega
    · have he : k = n := by omega
      subst he
      have hd : l.drop k = [] := List.drop_eq_nil_of_le (by rw [← HN.out]; exact Nat.le_refl _)
      have HE : Hid (((allA x ks [] (cls l)).map fun c => (⟨false, c⟩ : Mn)) = some ⟨false, cls cts⟩) := by
        show _ = _
        rw [HA.out, hd]; rfl
      have bel := I.bel
      have hlen := hide I.own.len
      have own := I.own
      obtain ⟨r0, r1, r2, r3⟩ := two_cells (below_block bel F0)
      clear HA hd I HN
      go_wp2
      refine bodyPost_ret (v := .tuple #[.agg #[.bool false, .slice co N d], .int .i64 0]) (by simp [results, Tryz.results53, go_sem, r0, r1]) rfl ?_
      have hw0 : w.heap.size < W.heap.size := lt_of_block F0
      have belw : Below w.heap.size w wr := bel0.trans (bel.mono bel0.size)
      have bel2 : Below w.heap.size w ((wr.setCell ⟨w.heap.size, 0, none⟩ (.bool false)).setCell ⟨w.heap.size, 1, none⟩ (.slice co N d)) := (belw.setCell (Nat.le_refl _) _).setCell (Nat.le_refl _) _
      have own2 := ownsRow_setCell_below (ownsRow_setCell_below own.own (a := ⟨w.heap.size, 0, none⟩) hw0 (.bool false)) (a := ⟨w.heap.size, 1, none⟩) hw0 (.slice co N d)
      obtain ⟨ao', c', hv, hseg, _⟩ := own_open own2
      simp only [Value.slice.injEq] at hv
      obtain ⟨rfl, -, rfl⟩ := hv
      have FB := below_block bel F0
      refine ⟨.inr ⟨false, cts, co, N, d, rfl, HE.out, hlen.out, ⟨hseg, fun c hc => ?_, own_typ own2, fun c hc => (own.ser c hc).typ.imp id fun h => (h.set _ _).set _ _⟩⟩, bel2⟩
      have h1 := seg_far (own.ser c hc).seg FB (o := 0) (.bool false)
      have FC : (wr.setCell ⟨w.heap.size, 0, none⟩ (.bool false)).heap[w.heap.size]? = some (.cells #[.bool false, .slice none 0 0] 67 (0, 0)) := by simp [World.setCell, Array.getElem?_modify, FB]
      exact seg_far h1 FC (.slice co N d)

end Go.Proofs.YthohkokhimdamaaGreat

/-
  What comes to something is within its bounds.
-/
namespace Go.GrainU
open Go.RowKit

/-- cells within their bounds; a number has one -/
structure Gd (m : Mn) : Prop where
  fine : ∀ c ∈ m.cs, Fine c
  len : m.cs.length ≤ 8
  num : m.num = true → 0 < m.cs.length

theorem winX_len (x : Ln) (h : Hd) (time : Int) : (winX x h time).length ≤ 1 := by
  unfold winX
  split
  · split <;> simp
  · simp

theorem winC_len : ∀ (l : List Ln) (h : Hd) (time : Int), (winC l h time).length ≤ l.length
  | [], _, _ => by simp [winC]
  | x :: r, h, time => by
    have h1 := winX_len x h time
    have h2 := winC_len r h time
    simp only [winC, List.length_append, List.length_cons]
    omega

theorem Grain_win_val {l : List (Int × Int)} (h : Grain.Right l) (a b : Int) : ∀ x ∈ Grain.win l a b, -1000000000 ≤ x.2 ∧ x.2 ≤ 1000000000 := by
  intro y hy
  have hy' := (List.mem_filter.1 hy).1
  obtain ⟨q, hq, rfl⟩ := List.mem_iff_getElem.1 hy'
  have := h.rng q hq
  simp [Grain.vl, List.getD, List.getElem?_eq_getElem hq] at this
  omega

theorem winV_bd {x : Ln} (h : Grain.Right x.2) (hd : Hd) (time : Int) : -W1 ≤ (winV x hd time).1 ∧ (winV x hd time).1 ≤ W1 := by
  have hl : (Grain.win x.2 (time - hd.range) time).length ≤ 500 := Nat.le_trans (Grain.win_len _ _ _) h.few
  exact valP_bd (of_ok (Grain_win_val h _ _) hl) (by omega) (by omega) _

theorem winC_fine : ∀ (l : List Ln), (∀ x ∈ l, x.1.length ≤ 4 ∧ Grain.Right x.2) → ∀ (h : Hd) (time : Int), ∀ c ∈ winC l h time, -W1 ≤ c.2 ∧ c.2 ≤ W1 ∧ c.1.length ≤ 4
  | [], _, _, _, c, hc => by simp [winC] at hc
  | x :: r, hl, h, time, c, hc => by
    simp only [winC, List.mem_append] at hc
    rcases hc with e | e
    · have hx := hl x (by simp)
      unfold winX at e
      split at e
      · split at e
        · simp at e
          rw [e]
          exact ⟨(winV_bd hx.2 h time).1, (winV_bd hx.2 h time).2, hx.1⟩
        · simp at e
      · simp at e
    · exact winC_fine r (fun y hy => hl y (by simp [hy])) h time c e

theorem W1_MC : W1 ≤ MC := by decide

theorem gd_win {l : List Ln} (hl : ∀ x ∈ l, x.1.length ≤ 4 ∧ Grain.Right x.2) (h8 : l.length ≤ 8) (h : Hd) (time : Int) : Gd ⟨false, winC l h time⟩ :=
  ⟨fun c hc => by
    have := winC_fine l hl h time c hc
    have := W1_MC
    exact ⟨by omega, by omega, by omega⟩, Nat.le_trans (winC_len l h time) h8, fun e => by cases e⟩

theorem allA_gd {w : ByteArray} {ks : List ByteArray} : ∀ (l out : List Cl), (∀ c ∈ l, Fine c) → (∀ c ∈ out, Fine c) → ∀ r, allA w ks out l = some r → (∀ c ∈ r, Fine c) ∧ r.length ≤ out.length + l.length
  | [], out, _, ho, r, h => by
    simp [allA] at h
    subst h
    exact ⟨ho, by simp⟩
  | c :: q, out, hl, ho, r, h => by
    have fc := hl c (by simp)
    have hv : -MC ≤ one1 w c.2 ∧ one1 w c.2 ≤ MC := by
      unfold one1
      split
      · simp [MC]
      · exact ⟨fc.1, fc.2.1⟩
    have hs : (only c.1 ks).length ≤ 4 := Nat.le_trans (only_len c.1 ks) fc.2.2
    rw [allA] at h
    cases hp : putA w (only c.1 ks) (one1 w c.2) out with
    | none => rw [hp] at h; cases h
    | some o =>
      rw [hp] at h
      obtain ⟨i1, i2⟩ := put_fine hs hv ho hp
      obtain ⟨j1, j2⟩ := allA_gd q o (fun x hx => hl x (by simp [hx])) i1 r h
      exact ⟨j1, by simp; omega⟩

theorem binA_gd {a b : Mn} {w : ByteArray} (fb : ∀ c ∈ b.cs, Fine c) : ∀ (l acc : List Cl), (∀ c ∈ l, Fine c) → (∀ c ∈ acc, Fine c) → ∀ r, binA a b w acc l = some r → (∀ c ∈ r, Fine c) ∧ r.length ≤ acc.length + l.length ∧ acc.length ≤ r.length
  | [], acc, _, ha, r, h => by
    simp [binA] at h
    subst h
    exact ⟨ha, by simp, Nat.le_refl _⟩
  | c :: q, acc, hl, ha, r, h => by
    have fc := hl c (by simp)
    have hq : ∀ x ∈ q, Fine x := fun x hx => hl x (by simp [hx])
    cases h1 : atM a c.1 with
    | none =>
      rw [binA_no (.inl h1)] at h
      obtain ⟨j1, j2, j3⟩ := binA_gd fb q acc hq ha r h
      exact ⟨j1, by simp; omega, j3⟩
    | some x =>
      cases h2 : atM b c.1 with
      | none =>
        rw [binA_no (.inr h2)] at h
        obtain ⟨j1, j2, j3⟩ := binA_gd fb q acc hq ha r h
        exact ⟨j1, by simp; omega, j3⟩
      | some y =>
        cases h3 : wkd w x y with
        | none => rw [binA_bad h1 h2 h3] at h; cases h
        | some v =>
          rw [binA_yes h1 h2 h3] at h
          have bv := wkd_bd (atM_fine fb h2) h3
          obtain ⟨j1, j2, j3⟩ := binA_gd fb q (acc ++ [(c.1, v)]) hq (fun z hz => by
            rcases List.mem_append.1 hz with e | e
            · exact ha z e
            · simp at e; rw [e]; exact ⟨bv.1, bv.2, fc.2.2⟩) r h
          exact ⟨j1, by simp at j2 ⊢; omega, by simp at j3; omega⟩

theorem gd_all {w : ByteArray} {ks : List ByteArray} {m r : Mn} (g : Gd m) (h : ((allA w ks [] m.cs).map fun c => (⟨false, c⟩ : Mn)) = some r) : Gd r := by
  cases hq : allA w ks [] m.cs with
  | none => rw [hq] at h; cases h
  | some q =>
    rw [hq] at h
    simp at h
    subst h
    obtain ⟨i1, i2⟩ := allA_gd m.cs [] g.fine (fun c hc => by cases hc) q hq
    exact ⟨i1, by have := g.len; simp at i2 ⊢; omega, fun e => by cases e⟩

theorem gd_bin {w : ByteArray} {a b r : Mn} (ga : Gd a) (gb : Gd b) (h : binM a b w = some r) : Gd r := by
  unfold binM at h
  cases hq : binA a b w [] (fromM a b).cs with
  | none => rw [hq] at h; cases h
  | some q =>
    rw [hq] at h
    simp at h
    subst h
    have gf : Gd (fromM a b) := by unfold fromM; split <;> assumption
    obtain ⟨i1, i2, _⟩ := binA_gd gb.fine (fromM a b).cs [] gf.fine (fun c hc => by cases hc) q hq
    refine ⟨i1, by have := gf.len; simp at i2 ⊢; omega, fun e => ?_⟩
    have hn := gf.num e
    have ha : a.num = true := by
      unfold fromM at e
      split at e
      · assumption
      · exact e
    have hb : b.num = true := by
      unfold fromM at e
      rw [if_pos ha] at e
      exact e
    cases hc : (fromM a b).cs with
    | nil => rw [hc] at hn; simp at hn
    | cons c s =>
      rw [hc] at hq
      have h1 : atM a c.1 = some (cl0 a.cs) := by simp [atM, ha]
      have h2 : atM b c.1 = some (cl0 b.cs) := by simp [atM, hb]
      cases h3 : wkd w (cl0 a.cs) (cl0 b.cs) with
      | none => rw [binA_bad h1 h2 h3] at hq; cases hq
      | some v =>
        rw [binA_yes h1 h2 h3] at hq
        have fc : Fine c := by
          have := (show Gd (fromM a b) from by unfold fromM; split <;> assumption).fine c (by rw [hc]; simp)
          exact this
        have bv := wkd_bd (atM_fine gb.fine h2) h3
        have fs : ∀ x ∈ s, Fine x := fun x hx => (show Gd (fromM a b) from by unfold fromM; split <;> assumption).fine x (by rw [hc]; simp [hx])
        obtain ⟨_, _, j3⟩ := binA_gd gb.fine s ([] ++ [(c.1, v)]) fs (fun z hz => by simp at hz; rw [hz]; exact ⟨bv.1, bv.2, fc.2.2⟩) q hq
        simp at j3
        exact j3

end Go.GrainU
