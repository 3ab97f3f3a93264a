/-
  The walk of the document's All.
-/
import Derived.Test.YthohkokhimdamaaGreatP35
import Derived.Test.YthohkokhimdamaaGreatP41
import Derived.Test.YthohkokhimdamaaGreatP42
import Derived.Deep.RegionLaw
import Derived.Deep.CutRange
/-
  Rows of cells that are cut, appended to, put together anew: what the document's All does. And where a cell goes.
-/
namespace Go.GrainU
open Go.RowKit

def cutP (pa : Option Addr) (pc p s : Nat) : Option Addr := if pc = p then pa else pa.map (·.add (p * s))

theorem seg_cutP {w : World} {pa : Option Addr} {xs : List Value} {n pc p1 p2 s : Nat} (h : Seg w pa xs) (hl : xs.length = n * s) (hc : n ≤ pc) (h12 : p1 ≤ p2) (h2 : p2 ≤ n) : Seg w (cutP pa pc p1 s) ((xs.take (p2 * s)).drop (p1 * s)) := by
  by_cases hp : p1 = p2
  · left
    subst hp
    rw [List.drop_eq_nil_of_le (by simp; omega)]
  · rcases h with h | ⟨b, off, rfl, h⟩
    · left; rw [h]; simp
    · have e : cutP (some ⟨b, off, none⟩) pc p1 s = some ⟨b, off + p1 * s, none⟩ := by
        unfold cutP
        rw [if_neg (by omega)]
        simp only [Option.map_some]
        rw [show (⟨b, off, none⟩ : Addr).add (p1 * s) = ⟨b, off + p1 * s, none⟩ from by unfold Addr.add; split <;> simp_all]
      rw [e]
      refine .inr ⟨b, off + p1 * s, rfl, fun j hj => ?_⟩
      simp at hj
      have := Nat.mul_le_mul_right s h2
      rw [Nat.add_assoc, h _ (by omega), List.getElem?_drop, List.getElem?_take, if_pos (by omega)]

theorem own_seg' {w : World} {base e size n c : Nat} {ao : Option Addr} {xs : List Value} (h : w.ownsRow base e size (.slice ao n c) n xs) : Seg w ao xs := by
  obtain ⟨ao', c', hv, hs, _⟩ := own_open h
  simp at hv
  obtain ⟨rfl, rfl⟩ := hv
  exact hs

theorem own_nil {w : World} {base e size n c : Nat} {ao : Option Addr} {xs : List Value} (h : w.ownsRow base e size (.slice ao n c) n xs) : ao = none → n = 0 ∧ c = 0 := by
  intro hn
  subst hn
  rcases h.2 with ⟨h2, _⟩ | ⟨g, cap, cur, hv, _⟩
  · simp at h2; exact h2
  · simp at hv

theorem cutP_none {oo : Option Addr} {d j s : Nat} (h : cutP oo d j s = none) : oo = none := by
  unfold cutP at h
  cases oo with
  | none => rfl
  | some a =>
    split at h
    · cases h
    · simp at h

theorem own_heap {w w' : World} {base e size n : Nat} {v : Value} {xs : List Value} (hh : w'.heap = w.heap) (h : w.ownsRow base e size v n xs) : w'.ownsRow base e size v n xs := by
  obtain ⟨h1, h2⟩ := h
  refine ⟨h1, ?_⟩
  rcases h2 with h2 | ⟨g, cap, cur, hv, hb, hg, rest⟩
  · exact Or.inl h2
  · exact Or.inr ⟨g, cap, cur, hv, hb, by rw [hh]; exact hg, rest⟩

theorem seg_grown3 {w w' : World} {r : Option Nat} {ao : Option Addr} {xs : List Value} (h : Seg w ao xs) (hg : w.grownBy w' r) (hne : ∀ b off, ao = some ⟨b, off, none⟩ → r ≠ some b) : Seg w' ao xs := by
  rcases h with h | ⟨b, off, rfl, hc⟩
  · exact .inl h
  · refine .inr ⟨b, off, rfl, fun j hj => ?_⟩
    have hl : b < w.heap.size := Seg.block_lt hc (fun e => by rw [e] at hj; simp at hj)
    have hb := hg.block b hl (fun e => hne b off rfl e.symm)
    rw [← hc j hj]
    simp [World.cell?, hb]

theorem own_some {w : World} {base e size n c : Nat} {ao : Option Addr} {xs : List Value} (h : w.ownsRow base e size (.slice ao n c) n xs) (hn : 0 < n) : ∃ g, ao = some ⟨g, 0, none⟩ := by
  rcases h.2 with ⟨hv, _⟩ | ⟨g, cap, cur, hv, _⟩
  · injection hv with h1 h2 h3
    omega
  · injection hv with h1 h2 h3
    exact ⟨g, h1⟩

theorem own_lower {w : World} {base base' e size n : Nat} {v : Value} {xs : List Value} (h : w.ownsRow base e size v n xs) (hl : base' ≤ base) : w.ownsRow base' e size v n xs :=
  ⟨h.1, h.2.imp id (fun ⟨g, cap, cur, hv, hb, rest⟩ => ⟨g, cap, cur, hv, Nat.le_trans hl hb, rest⟩)⟩

theorem ccells_td (l : List CT) (p1 p2 : Nat) : ((ccells l).take (p2 * 2)).drop (p1 * 2) = ccells ((l.take p2).drop p1) := by
  rw [ccells_drop, ccells_take]

/-- a series is at one place among cells that rise -/
theorem same_at {cts : List CT} {S : Lb} {p : Nat} (hs : Srt (cls cts)) (hbd : ∀ k, k < cts.length → (cmpS (ct cts k).ser S < 0 ↔ k < p)) {k : Nat} (hk : k < cts.length) : decide ((ct cts k).ser = S) = (decide (k = p) && decide (cmpS (ct cts p).ser S = 0)) := by
  rw [Bool.eq_iff_iff]
  simp only [decide_eq_true_eq, Bool.and_eq_true]
  constructor
  · intro h
    have h0 : cmpS (ct cts k).ser S = 0 := by rw [h]; exact cmpS_self S
    have h1 : ¬ k < p := fun h2 => by have := (hbd k hk).2 h2; omega
    have h2 : ¬ p < k := fun h3 => by
      have hp : p < cts.length := by omega
      have := List.pairwise_iff_getElem.1 hs p k (by rw [cls_len]; exact hp) (by rw [cls_len]; exact hk) h3
      have e1 : (cls cts)[p]'(by rw [cls_len]; exact hp) = (ct cts p).cl := by simp [cls, ct, List.getD, List.getElem?_eq_getElem hp]
      have e2 : (cls cts)[k]'(by rw [cls_len]; exact hk) = (ct cts k).cl := by simp [cls, ct, List.getD, List.getElem?_eq_getElem hk]
      rw [e1, e2] at this
      have h4 : cmpS (ct cts p).ser (ct cts k).ser = -1 := this
      rw [h] at h4
      have := (hbd p hp).1 (by omega)
      omega
    have e : k = p := by omega
    refine ⟨e, ?_⟩
    rw [← e]; exact h0
  · rintro ⟨rfl, h⟩
    exact (cmpS_zero _ _).1 h

theorem ctw_self (c : CT) : ctw c c.v = c := rfl
theorem set_self (l : List CT) (p : Nat) (h : p < l.length) : l.set p (ctw (ct l p) (ct l p).v) = l := by
  rw [ctw_self]
  apply List.ext_getElem?
  intro i
  by_cases e : i = p
  · subst e
    simp [ct, List.getD, List.getElem?_eq_getElem h]
  · rw [List.getElem?_set_ne (fun h => e h.symm)]

/-- labels that lie elsewhere than a row that was made since -/
theorem SegN.fresh {w w' : World} {r r' : Option Nat} {ao : Option Addr} {xs : List Value} (h : SegN w r ao xs) (hb : Below w.heap.size w w') (hg : ∀ g, r' = some g → w.heap.size ≤ g) : SegN w' r' ao xs := by
  rcases h with h | ⟨b, off, rfl, hne, ⟨arr, fr, hh⟩, hc⟩
  · exact .inl h
  · have hl := lt_of_block hh
    exact .inr ⟨b, off, rfl, fun e => by have := hg b e; omega, ⟨arr, fr, below_block hb hh⟩, fun j hj => (hb.cell (p := ⟨b, off + j, none⟩) hl).trans (hc j hj)⟩

theorem word_is {x : ByteArray} {L : List UInt8} (h : x = lit L) (L' : List UInt8) : (x.toList == L') = (L == L') := by
  rw [h, show (lit L).toList = L from ByteArray.toList_mk _]

theorem tog_max {x : ByteArray} (h : x = lit [109, 97, 120]) (a b : Int) : tog x a b = max a b := by rw [tog, if_pos h]
theorem tog_min {x : ByteArray} (h : x = lit [109, 105, 110]) (a b : Int) : tog x a b = min a b := by rw [tog, if_neg (by rw [h]; decide), if_pos h]
theorem tog_sum {x : ByteArray} (h : x = lit [115, 117, 109] ∨ x = lit [99, 111, 117, 110, 116]) (a b : Int) : tog x a b = a + b := by
  rcases h with h | h
  · rw [tog, if_neg (by rw [h]; decide), if_neg (by rw [h]; decide)]
  · rw [tog, if_neg (by rw [h]; decide), if_neg (by rw [h]; decide)]

theorem big_no {v : Int} (h : -MC ≤ v ∧ v ≤ MC) : big v = false := by
  unfold big
  simp
  omega

/-- the four words of totals -/
theorem four_words {x : ByteArray} (h : has totals4 x = true) : x = lit [99, 111, 117, 110, 116] ∨ x = lit [109, 97, 120] ∨ x = lit [109, 105, 110] ∨ x = lit [115, 117, 109] := by
  simp [has, totals4] at h
  rcases h with e | e | e | e
  · exact .inl e.symm
  · exact .inr (.inl e.symm)
  · exact .inr (.inr (.inl e.symm))
  · exact .inr (.inr (.inr e.symm))

end Go.GrainU
namespace Go.Proofs.YthohkokhimdamaaGreat
open Go.RowKit Go.GrainU

theorem slc_to {oo : Option Addr} {N d j : Nat} (hj : j ≤ N) (hN : N ≤ d) : ∀ w, Sem.run Tryz.prog (Instr.slice 28 (.slice oo N d) none (some (.int .i64 (j : Int))) none) w = .ok (.slice (cutP oo d 0 2) j d) w := by
  intro w
  rw [run_slice_h (P := Tryz.prog) (t := 28) (ht := by kernel_rfl) (a := oo) (len := N) (cap := d) (kh := .i64) (h := (j : Int)) (h0 := by omega) (h2 := by omega)]
  simp [sliced, cutP, go_sem]

theorem slc_from {oo : Option Addr} {N d j : Nat} (hj : j ≤ N) : ∀ w, Sem.run Tryz.prog (Instr.slice 28 (.slice oo N d) (some (.int .i64 (j : Int))) none none) w = .ok (.slice (cutP oo d j 2) (N - j) (d - j)) w := by
  intro w
  rw [run_slice_l (P := Tryz.prog) (t := 28) (ht := by kernel_rfl) (a := oo) (len := N) (cap := d) (kl := .i64) (l := (j : Int)) (h0 := by omega) (h1 := by omega)]
  simp [sliced, cutP, go_sem]

end Go.Proofs.YthohkokhimdamaaGreat

/-
  The walk of the document's All.
-/
namespace Go.GrainU
open Go.RowKit

/-- what totals come to, or that one is too great -/
def APost (O : Option (List Cl)) (e : Ending) (w' : World) : Prop :=
  (O = none ∧ e = .returned (.tuple #[.slice none 0 0, .bool false, .int .i64 3])) ∨
  ∃ cts co N d, e = .returned (.tuple #[.slice co N d, .bool true, .int .i64 0]) ∧ O = some (cls cts) ∧ N = cts.length ∧ CsR w' co cts

end Go.GrainU
namespace Go.Proofs.YthohkokhimdamaaGreat
open Go.RowKit Go.GrainU

set_option maxRecDepth 100000 in
set_option maxHeartbeats 16000000 in
theorem rall_any (l : List CT) (bs : List ByteArray) (x : ByteArray) (kd en rg : Int) (ao ma ba ka : Option Addr) (n d0 ml mc bl bc kl kc : Nat) (w : World) (hl : CsR w ao l) (hk : Seg w ba (wcells bs)) (hn : n = l.length) (hm : bl = bs.length) (hM : bl ≤ 9223372036854775806) (hf : ∀ c ∈ cls l, Fine c) (hn8 : n ≤ 8) (h4w : has totals4 x = true) :
    Calls Tryz.prog 40 #[.agg #[.int .i64 kd, .int .i64 en, .int .i64 rg, .string x, .slice ma ml mc, .slice ba bl bc, .slice ka kl kc], .slice ao n d0] w fun e w' => APost (allA x bs [] (cls l)) e w' ∧ Below w.heap.size w w' := by
  obtain ⟨i0, hi, hz0, hz1, hz2⟩ := info_parts Tryz.infoCell
  have HN := hide hn
  have HM := hide hm
  have HF := hide hf
  have H4W := hide h4w
  clear hn hm hf h4w
  obtain ⟨W, hW⟩ : ∃ W, W = w.alloc (.cells #[.int .i64 kd, .int .i64 en, .int .i64 rg, .string x, .slice ma ml mc, .slice ba bl bc, .slice ka kl kc] 27) := ⟨_, rfl⟩
  obtain ⟨E0, hE0⟩ : ∃ E, E = w.heap.size := ⟨_, rfl⟩
  have bel0 : Below w.heap.size w W := by rw [hW]; exact (Below.refl _ _).alloc (Nat.le_refl _) _
  have F0 : W.heap[E0]? = some (.cells #[.int .i64 kd, .int .i64 en, .int .i64 rg, .string x, .slice ma ml mc, .slice ba bl bc, .slice ka kl kc] 27 (0, 0)) := by rw [hW, hE0]; exact heap_alloc_new w _
  have hlW := hl.below bel0
  have hkW := hk.below bel0
  have HW := hide hW
  have HE0 := hide hE0
  clear hW hl hk
  go_enter Tryz.func40, Tryz.ntmps40
  go_wp2
  rw [← HW.out, ← HE0.out]
  clear hE0 HE0 HW
  go_loopw [7, 18] (fun out i wr => ∃ (k N d : Nat) (co : Option Addr) (cts : List CT), k ≤ n ∧ i = .int .i64 k ∧ out = .slice co N d ∧ AI W wr co N d k cts ∧ Hid (allA x bs [] (cls l) = allA x bs (cls cts) (cls (l.drop k)))) (fun _ i _ => n - (intOf i).toNat)
  case atStart => exact ⟨0, 0, 0, none, [], Nat.zero_le _, rfl, rfl, ⟨Below.refl _ _, OwnC.nil _ _ _, by simp [Srt, cls], fun c hc => by simp [cls] at hc, Nat.le_refl _⟩, rfl⟩
  case round =>
    obtain ⟨k, N, d, co, cts, hk, rfl, rfl, I, HA⟩ := hrel
    by_cases hlt : k < n
    · have hkl : k < l.length := by rw [← HN.out]; exact hlt
      obtain ⟨b, off, rfl, hb, hcell⟩ := seg_cell hlW.seg hkl
      obtain ⟨c, hc⟩ : ∃ c, c = ct l k := ⟨_, rfl⟩
      obtain ⟨cn, hcn⟩ : ∃ cn, cn = c.ser.length := ⟨_, rfl⟩
      have segc : Seg W c.sa (lcells c.ser) := by rw [hc]; exact hlW.ser _ (ct_mem hkl)
      have c0 : wr.cell? ⟨b, off + k * 2, none⟩ = some (.slice c.sa cn c.sc) := by rw [hcn, hc]; exact (I.bel.cell (by exact hb)).trans (hcell k hkl).1
      have c1 : wr.cell? ⟨b, off + k * 2 + 1, none⟩ = some (.int .i64 c.v) := by rw [hc]; exact (I.bel.cell (by exact hb)).trans (hcell k hkl).2
      have fc : Fine c.cl := HF.out _ (by rw [hc]; exact List.mem_map_of_mem (ct_mem hkl))
      have HD : Hid (cls (l.drop k) = c.cl :: cls (l.drop (k + 1))) := by show _ = _; rw [cls_drop hkl, hc]
      obtain ⟨v, hv⟩ : ∃ v, v = one1 x c.v := ⟨_, rfl⟩
      have hv2 : -MC ≤ v ∧ v ≤ MC := by
        rw [hv]; unfold one1
        split
        · simp [MC]
        · exact ⟨fc.1, fc.2.1⟩
      obtain ⟨V, hV⟩ : ∃ V, V = wr.alloc (.cells #[.slice c.sa cn c.sc, .int .i64 c.v] 57) := ⟨_, rfl⟩
      obtain ⟨X, hX⟩ : ∃ X, X = wr.heap.size := ⟨_, rfl⟩
      have F1 : V.heap[X]? = some (.cells #[.slice c.sa cn c.sc, .int .i64 c.v] 57 (0, 0)) := by rw [hV, hX]; exact heap_alloc_new wr _
      have belA : Below wr.heap.size wr V := by rw [hV]; exact (Below.refl _ _).alloc (Nat.le_refl _) _
      have IV := I.call belA
      have cn4 : cn ≤ 4 := by rw [hcn]; exact fc.2.2
      have FV := below_block IV.bel F0
      have FR := below_block I.bel F0
      obtain ⟨e0, e1, e2, e3, e4, e5, e6⟩ := seven_cells FR
      have HV := hide hV
      have HX := hide hX
      have HCN := hide hcn
      have Hv := hide hv
      obtain ⟨S, hS⟩ : ∃ S, S = only c.ser bs := ⟨_, rfl⟩
      have hS4 : S.length ≤ 4 := by rw [hS]; have := only_len c.ser bs; rw [← HCN.out] at this; omega
      have PO : Hid (Calls Tryz.prog 60 #[.slice c.sa cn c.sc, .slice ba bl bc] V fun e w'' => ∃ co N d, e = .returned (.slice co N d) ∧ w''.ownsRow V.heap.size 88 2 (.slice co N d) N (lcells S) ∧ Below V.heap.size V w'') := by
        rw [hS]; exact ronly_any c.ser bs c.sa ba cn c.sc bl bc V (segc.below IV.bel) HCN.out (by omega) (hkW.below IV.bel) HM.out hM
      have HD2 : Hid (∀ r, putA x S v (cls cts) = r → allA x bs [] (cls l) = match r with | none => none | some o => allA x bs o (cls (l.drop (k + 1)))) := fun r hr => by
        have e1 : putA x (only c.cl.1 bs) (one1 x c.cl.2) (cls cts) = r := by rw [← hr, hS, Hv.out]; rfl
        rw [HA.out, HD.out]
        cases r with
        | none => exact allA_no e1
        | some o => exact allA_yes e1
      have k2 : (k : Int) < (n : Int) := by omega
      have lE : E0 < wr.heap.size := lt_of_block FR
      clear hV hcn hc hkl hcell I belA hv fc hS HA HD
      go_wp2_with fail
      rw [← HV.out, ← HX.out]
      refine PO.out.mono ?_
      rintro e w1 ⟨so, sn, sd, rfl, ownS, b1⟩
      have hsn : sn = S.length := own_llen ownS
      have I1 := IV.call b1
      have F2 := below_block b1 F1
      have FW := below_block b1 FV
      have segS : SegN w1 (Value.slice co N d).ownBlock so (lcells S) := segN_own ownS (fun g hg => (own_base IV.own.own g hg).2)
      have hNl := I1.own.len
      have hN8 : N ≤ 8 := by have := I1.len; omega
      obtain ⟨p, hp, hbd, hcase⟩ := put_idx x S v cts I1.srt
      obtain ⟨FF, hFF⟩ : ∃ FF, FF = (decide (p < N) && decide (cmpS (ct cts p).ser S = 0)) := ⟨_, rfl⟩
      have HSame : Hid (∀ j, j < N → decide ((ct cts j).ser = S) = (decide (j = p) && FF)) := fun j hj => by
        rw [same_at I1.srt hbd (by rw [← hNl]; exact hj), hFF]
        by_cases e : j = p
        · subst e; simp [hj]
        · simp [e]
      have hs8 : ∀ y ∈ cts, y.ser.length ≤ 4 := fun y hy => (I1.fin y.cl (List.mem_map_of_mem hy)).2.2
      have HSN := hide hsn
      have HNL := hide hNl
      have HFF := hide hFF
      have HPP := hide hp
      have HCS := hide hcase
      have HBD := hide hbd
      have H8 := hide hs8
      have hsn4 : sn ≤ 4 := by omega
      clear e0 e1 e2 e3 e4 e5 e6 ownS b1 F1 FV FR IV hsn hNl hs8 hFF PO hbd hcase hp c0 c1 HV HX hX lE
      go_wp2
      go_loopw [11, 29] (fun at' j wq => ∃ (q : Nat) (A : Int), q ≤ N ∧ at' = .int .i64 A ∧ j = .int .i64 q ∧ Hid (A = if FF = true ∧ p < q then (p : Int) else -1) ∧ Below w1.heap.size w1 wq) (fun _ j _ => N - (intOf j).toNat)
      case atStart => exact ⟨0, -1, Nat.zero_le _, rfl, rfl, by show _ = _; simp, Below.refl _ _⟩
      case round =>
        obtain ⟨q, AT, hq, rfl, rfl, HAT, bq⟩ := hrel
        by_cases hqN : q < N
        · have hql : q < cts.length := by rw [← HNL.out]; exact hqN
          have Iq := I1.call bq
          obtain ⟨b2, off2, hco, hb2, hcell2⟩ := seg_cell Iq.own.csIn.seg hql
          obtain ⟨y, hy⟩ : ∃ y, y = ct cts q := ⟨_, rfl⟩
          obtain ⟨yn, hyn⟩ : ∃ yn, yn = y.ser.length := ⟨_, rfl⟩
          have d0 : wr.cell? ⟨b2, off2 + q * 2, none⟩ = some (.slice y.sa yn y.sc) := by rw [hyn, hy]; exact (hcell2 q hql).1
          have d1 : wr.cell? ⟨b2, off2 + q * 2 + 1, none⟩ = some (.int .i64 y.v) := by rw [hy]; exact (hcell2 q hql).2
          have sy : Seg wr y.sa (lcells y.ser) := by rw [hy]; exact Iq.own.csIn.ser _ (ct_mem hql)
          have hy4 : yn ≤ 4 := by rw [hyn, hy]; exact H8.out _ (ct_mem hql)
          have HEq : Hid (decide (y.ser = S) = (decide (q = p) && FF)) := by show _ = _; rw [hy]; exact HSame.out q hqN
          have PS := hide (sames_any y.ser S y.sa so yn sn y.sc sd wr sy (segS.below bq).seg hyn HSN.out (by omega))
          rw [HEq.out] at PS
          have q2 : (q : Int) < (N : Int) := by omega
          clear hy hyn hcell2 hql sy Iq
          subst hco
          go_wp2_with fail
          refine PS.out.mono ?_
          rintro e w3 ⟨rfl, b3⟩
          have bq3 := below_step b3 bq
          cases hff : (decide (q = p) && FF) with
          | true =>
            have h1 : q = p ∧ FF = true := by simpa using hff
            go_wp2
            go_roundw
            case rel => exact ⟨q + 1, p, by omega, rfl, by go_num, by show _ = _; rw [if_pos ⟨h1.2, by omega⟩], bq3⟩
            case measure => simp [intOf]; omega
          | false =>
            have h1 : ¬ (q = p ∧ FF = true) := by simpa using hff
            go_wp2
            go_roundw
            case rel =>
              refine ⟨q + 1, AT, by omega, rfl, by go_num, ?_, bq3⟩
              show _ = _
              rw [HAT.out]
              by_cases h2 : FF = true ∧ p < q
              · rw [if_pos h2, if_pos ⟨h2.1, by omega⟩]
              · rw [if_neg h2, if_neg (fun h3 => h2 ⟨h3.1, by
                  have : ¬ q = p := fun h4 => h1 ⟨h4, h3.1⟩
                  omega⟩)]
            case measure => simp [intOf]; omega
        · have he : q = N := by omega
          subst he
          have I2 := I1.call bq
          have F3 := below_block bq F2
          have FU := below_block bq FW
          have segS2 := segS.below bq
          obtain ⟨x0, x1, _, _⟩ := two_cells F3
          obtain ⟨e0, e1, e2, e3, e4, e5, e6⟩ := seven_cells FU
          have lX : X < wr.heap.size := lt_of_block F3
          have lE : E0 < wr.heap.size := lt_of_block FU
          obtain ⟨Q, hQ⟩ : ∃ Q, Q = decide (x = lit [99, 111, 117, 110, 116]) := ⟨_, rfl⟩
          have hq1 : (x.toList == [99, 111, 117, 110, 116]) = Q := by
            by_cases h : x = lit [99, 111, 117, 110, 116]
            · rw [hQ, h, show (lit [99, 111, 117, 110, 116]).toList = [99, 111, 117, 110, 116] from ByteArray.toList_mk _]; decide
            · rw [list_ne2 h, hQ]; simpa using h
          have HQ := hide hQ
          clear hQ I1 F2 FW segS bq
          go_upto_if 45 with fail
          go_cut [13] from 45 to 45 (fun v13 wx => v13 = .int .i64 v ∧ wx = wr)
          case first =>
            cases Q with
            | true =>
              have hv1 : v = 1 := by
                have := of_decide_eq_true HQ.out.symm
                rw [Hv.out, one1, if_pos this]
              subst hv1
              go_wp2_with fail
              go_meet
              exact ⟨rfl, rfl⟩
            | false =>
              have hv1 : v = c.v := by
                have := of_decide_eq_false HQ.out.symm
                rw [Hv.out, one1, if_neg this]
              subst hv1
              go_wp2_with fail
              go_meet
              exact ⟨rfl, rfl⟩
          case rest =>
          obtain ⟨rfl, hwc⟩ := hcut
          rw [hwc]
          clear hwc x0 x1 F3 lX hq1 HQ
          rcases HCS.out with ⟨h1, h2, h3⟩ | ⟨h1, h2⟩
          · have hFt : FF = true := by
              rw [HFF.out, HNL.out]
              simp [h1, h2]
            have hpN : p < q := by rw [HNL.out]; exact h1
            have hAp : AT = (p : Int) := by rw [HAT.out, if_pos ⟨hFt, hpN⟩]
            subst hAp
            have hg : ∃ g, co = some ⟨g, 0, none⟩ := by
              rcases I2.own.own.2 with ⟨_, h⟩ | ⟨g, cp, cur, h, _⟩
              · omega
              · injection h with h1 _ _
                exact ⟨g, h1⟩
            obtain ⟨g, rfl⟩ := hg
            obtain ⟨o, ho⟩ : ∃ o, o = (ct cts p).v := ⟨_, rfl⟩
            have cq : wr.cell? ⟨g, p * 2 + 1, none⟩ = some (.int .i64 o) := by
              rw [ho]
              exact (I2.own.own.cellAt (p * 2 + 1) (by omega)).trans (ccells_at cts p h1).2
            have fq : wr.frozen? ⟨g, p * 2 + 1, none⟩ = false := by
              rcases I2.own.own.2 with ⟨h, _⟩ | ⟨g', cp, cur, h, _, hh, _⟩
              · cases h
              · injection h with h1 _ _
                injection h1 with h1
                injection h1 with h1 _ _
                subst h1
                simp [World.frozen?, hh]
            have lg : g < wr.heap.size := World.block_lt_of_cell? wr _ cq
            have fp := I2.fin (ct cts p).cl (List.mem_map_of_mem (ct_mem h1))
            have bo : -MC ≤ o ∧ o ≤ MC := by rw [ho]; exact ⟨fp.1, fp.2.1⟩
            have HP3 : Hid (putA x S v (cls cts) = if big (tog x o v) = true then none else some (cls (cts.set p (ctw (ct cts p) (tog x o v))))) := by show _ = _; rw [h3, ← ho]
            have I3 : Hid (∀ y, putA x S v (cls cts) = some (cls (cts.set p (ctw (ct cts p) y))) → AI W (wr.setCell ⟨g, p * 2 + 1, none⟩ (.int .i64 y)) (some ⟨g, 0, none⟩) q d (k + 1) (cts.set p (ctw (ct cts p) y))) := fun y hy => by
              have pf := put_fine hS4 hv2 I2.fin hy
              have ps := put_srt x S v (cls cts) I2.srt _ hy
              exact ⟨I2.bel.setCell (own_base I2.own.own g rfl).1 _, I2.own.put h1 y, ps.1, pf.1, by have := I2.len; omega⟩
            have I4 : Hid (∀ y, y = o → putA x S v (cls cts) = some (cls (cts.set p (ctw (ct cts p) y))) → AI W wr (some ⟨g, 0, none⟩) q d (k + 1) cts ∧ putA x S v (cls cts) = some (cls cts)) := fun y hy hp => by
              have e : cts.set p (ctw (ct cts p) y) = cts := by rw [hy, ho]; exact set_self cts p h1
              rw [e] at hp
              exact ⟨⟨I2.bel, I2.own, I2.srt, I2.fin, by have := I2.len; omega⟩, hp⟩
            have bel3 : Below w.heap.size w wr := below_step I2.bel bel0
            have hgb : w.heap.size ≤ g := Nat.le_trans bel0.size (own_base I2.own.own g rfl).1
            have p2 : (p : Int) < (q : Int) := by omega
            have p0 : ¬ ((p : Int) < 0) := by omega
            have hp63 : p ≤ 8 := by omega
            unfold MC at bo hv2
            clear h1 h2 h3 HFF hFt fp I2 FU segS2 ho HCS HSame HBD HPP hpN HAT
            rcases four_words H4W.out with hx | hx | hx | hx
            · have hT : tog x o v = o + v := tog_sum (.inr hx) o v
              rw [hT] at HP3
              have m0 : (x.toList == [109, 97, 120]) = false := by rw [word_is hx]; decide
              have m1 : (x.toList == [109, 105, 110]) = false := by rw [word_is hx]; decide
              have m2 : (x.toList == [115, 117, 109]) = false := by rw [word_is hx]; decide
              have m3 : (x.toList == [99, 111, 117, 110, 116]) = true := by rw [word_is hx]; decide
              have hw : IntKind.i64.wrap (o + v) = o + v := by rw [IntKind.wrap_i64]; omega
              have cs : (wr.setCell ⟨g, p * 2 + 1, none⟩ (.int .i64 (o + v))).cell? ⟨g, p * 2 + 1, none⟩ = some (.int .i64 (o + v)) := by
                have := World.cell?_setCells_in g [.int .i64 (o + v)] (p * 2 + 1) wr (fun t ht => by
                  simp at ht
                  subst ht
                  rw [Nat.add_zero, cq]; rfl) 0 (by simp)
                simpa [World.setCells] using this
              have PB := hide (fun w' => rbig_any (o + v) w')
              obtain ⟨BG, hBG⟩ : ∃ B, B = big (o + v) := ⟨_, rfl⟩
              rw [← hBG] at PB HP3
              clear hT hx hBG I4
              obtain ⟨Z, hZ⟩ : ∃ Z, Z = wr.setCell ⟨g, p * 2 + 1, none⟩ (.int .i64 (o + v)) := ⟨_, rfl⟩
              have HZ := hide hZ
              rw [← hZ] at cs
              clear hZ
              go_wp2_with fail
              rw [← HZ.out]
              refine (PB.out Z).mono ?_
              rintro e w4 ⟨rfl, rfl⟩
              cases BG with
              | true =>
                have HE : Hid (allA x bs [] (cls l) = none) := by show _ = _; rw [HD2.out _ HP3.out]; rfl
                clear HP3 HD2 I3
                go_wp2
                exact bodyPost_ret (v := .tuple #[.slice none 0 0, .bool false, .int .i64 3]) (by simp [results, Tryz.results40, go_sem]) rfl ⟨.inl ⟨HE.out, rfl⟩, by rw [HZ.out]; exact bel3.setCell hgb _⟩
              | false =>
                have HP4 : Hid (putA x S v (cls cts) = some (cls (cts.set p (ctw (ct cts p) (o + v))))) := HP3.out
                have HA2 : Hid (allA x bs [] (cls l) = allA x bs (cls (cts.set p (ctw (ct cts p) (o + v)))) (cls (l.drop (k + 1)))) := HD2.out _ HP4.out
                have I5 := I3.out _ HP4.out
                rw [← HZ.out] at I5
                clear HP3 HP4 HD2 I3
                go_wp2
                go_roundw
                case rel => exact ⟨k + 1, q, d, _, _, by omega, by go_num, rfl, I5, HA2⟩
                case measure => simp [intOf]; omega
            · have hT : tog x o v = max o v := tog_max hx o v
              rw [hT] at HP3
              have m0 : (x.toList == [109, 97, 120]) = true := by rw [word_is hx]; decide
              have m1 : (x.toList == [109, 105, 110]) = false := by rw [word_is hx]; decide
              have m2 : (x.toList == [115, 117, 109]) = false := by rw [word_is hx]; decide
              have m3 : (x.toList == [99, 111, 117, 110, 116]) = false := by rw [word_is hx]; decide
              have HP4 : Hid (putA x S v (cls cts) = some (cls (cts.set p (ctw (ct cts p) (max o v))))) := by show _ = _; rw [HP3.out, big_no (by unfold MC; omega)]; rfl
              clear hT hx HP3
              by_cases hgt : o < v
              · have hm : max o v = v := by omega
                rw [hm] at HP4
                have HA2 : Hid (allA x bs [] (cls l) = allA x bs (cls (cts.set p (ctw (ct cts p) v))) (cls (l.drop (k + 1)))) := HD2.out _ HP4.out
                have I5 := I3.out _ HP4.out
                clear HP4 HD2 I3 I4 hm
                go_wp2
                go_roundw
                case rel => exact ⟨k + 1, q, d, _, _, by omega, by go_num, rfl, I5, HA2⟩
                case measure => simp [intOf]; omega
              · have hm : max o v = o := by omega
                obtain ⟨I5, hp5⟩ := I4.out _ hm HP4.out
                have HA2 : Hid (allA x bs [] (cls l) = allA x bs (cls cts) (cls (l.drop (k + 1)))) := HD2.out _ hp5
                clear HP4 HD2 I3 I4 hm hp5
                go_wp2
                go_roundw
                case rel => exact ⟨k + 1, q, d, _, _, by omega, by go_num, rfl, I5, HA2⟩
                case measure => simp [intOf]; omega
            · have hT : tog x o v = min o v := tog_min hx o v
              rw [hT] at HP3
              have m0 : (x.toList == [109, 97, 120]) = false := by rw [word_is hx]; decide
              have m1 : (x.toList == [109, 105, 110]) = true := by rw [word_is hx]; decide
              have m2 : (x.toList == [115, 117, 109]) = false := by rw [word_is hx]; decide
              have m3 : (x.toList == [99, 111, 117, 110, 116]) = false := by rw [word_is hx]; decide
              have HP4 : Hid (putA x S v (cls cts) = some (cls (cts.set p (ctw (ct cts p) (min o v))))) := by show _ = _; rw [HP3.out, big_no (by unfold MC; omega)]; rfl
              clear hT hx HP3
              by_cases hgt : v < o
              · have hm : min o v = v := by omega
                rw [hm] at HP4
                have HA2 : Hid (allA x bs [] (cls l) = allA x bs (cls (cts.set p (ctw (ct cts p) v))) (cls (l.drop (k + 1)))) := HD2.out _ HP4.out
                have I5 := I3.out _ HP4.out
                clear HP4 HD2 I3 I4 hm
                go_wp2
                go_roundw
                case rel => exact ⟨k + 1, q, d, _, _, by omega, by go_num, rfl, I5, HA2⟩
                case measure => simp [intOf]; omega
              · have hm : min o v = o := by omega
                obtain ⟨I5, hp5⟩ := I4.out _ hm HP4.out
                have HA2 : Hid (allA x bs [] (cls l) = allA x bs (cls cts) (cls (l.drop (k + 1)))) := HD2.out _ hp5
                clear HP4 HD2 I3 I4 hm hp5
                go_wp2
                go_roundw
                case rel => exact ⟨k + 1, q, d, _, _, by omega, by go_num, rfl, I5, HA2⟩
                case measure => simp [intOf]; omega
            · have hT : tog x o v = o + v := tog_sum (.inl hx) o v
              rw [hT] at HP3
              have m0 : (x.toList == [109, 97, 120]) = false := by rw [word_is hx]; decide
              have m1 : (x.toList == [109, 105, 110]) = false := by rw [word_is hx]; decide
              have m2 : (x.toList == [115, 117, 109]) = true := by rw [word_is hx]; decide
              have m3 : (x.toList == [99, 111, 117, 110, 116]) = false := by rw [word_is hx]; decide
              have hw : IntKind.i64.wrap (o + v) = o + v := by rw [IntKind.wrap_i64]; omega
              have cs : (wr.setCell ⟨g, p * 2 + 1, none⟩ (.int .i64 (o + v))).cell? ⟨g, p * 2 + 1, none⟩ = some (.int .i64 (o + v)) := by
                have := World.cell?_setCells_in g [.int .i64 (o + v)] (p * 2 + 1) wr (fun t ht => by
                  simp at ht
                  subst ht
                  rw [Nat.add_zero, cq]; rfl) 0 (by simp)
                simpa [World.setCells] using this
              have PB := hide (fun w' => rbig_any (o + v) w')
              obtain ⟨BG, hBG⟩ : ∃ B, B = big (o + v) := ⟨_, rfl⟩
              rw [← hBG] at PB HP3
              clear hT hx hBG I4
              obtain ⟨Z, hZ⟩ : ∃ Z, Z = wr.setCell ⟨g, p * 2 + 1, none⟩ (.int .i64 (o + v)) := ⟨_, rfl⟩
              have HZ := hide hZ
              rw [← hZ] at cs
              clear hZ
              go_wp2_with fail
              rw [← HZ.out]
              refine (PB.out Z).mono ?_
              rintro e w4 ⟨rfl, rfl⟩
              cases BG with
              | true =>
                have HE : Hid (allA x bs [] (cls l) = none) := by show _ = _; rw [HD2.out _ HP3.out]; rfl
                clear HP3 HD2 I3
                go_wp2
                exact bodyPost_ret (v := .tuple #[.slice none 0 0, .bool false, .int .i64 3]) (by simp [results, Tryz.results40, go_sem]) rfl ⟨.inl ⟨HE.out, rfl⟩, by rw [HZ.out]; exact bel3.setCell hgb _⟩
              | false =>
                have HP4 : Hid (putA x S v (cls cts) = some (cls (cts.set p (ctw (ct cts p) (o + v))))) := HP3.out
                have HA2 : Hid (allA x bs [] (cls l) = allA x bs (cls (cts.set p (ctw (ct cts p) (o + v)))) (cls (l.drop (k + 1)))) := HD2.out _ HP4.out
                have I5 := I3.out _ HP4.out
                rw [← HZ.out] at I5
                clear HP3 HP4 HD2 I3
                go_wp2
                go_roundw
                case rel => exact ⟨k + 1, q, d, _, _, by omega, by go_num, rfl, I5, HA2⟩
                case measure => simp [intOf]; omega
          · have hAp : AT = -1 := by
              rw [HAT.out, if_neg]
              rintro ⟨h3, h4⟩
              rw [HFF.out] at h3
              simp at h3
              exact h1 ⟨by rw [← HNL.out]; exact h3.1, h3.2⟩
            subst hAp
            have hp8 : p ≤ 8 := by have := HPP.out; have := HNL.out; omega
            have HP2 := hide (h2 ⟨S, v, so, sd⟩ rfl)
            have HA2 : Hid (allA x bs [] (cls l) = allA x bs (cls (cts.take p ++ ⟨S, v, so, sd⟩ :: cts.drop p)) (cls (l.drop (k + 1)))) := HD2.out _ HP2.out
            obtain ⟨w2, hw2⟩ : ∃ w2, w2 = wr := ⟨_, rfl⟩
            rw [← hw2] at I2 segS2 ⊢
            clear hw2 h1 h2 HFF HAT HCS HD2 HSame FU e0 e1 e2 e3 e4 e5 e6 lE
            go_wp2
            go_loopw [14] (fun j wq => ∃ jj : Nat, jj ≤ p ∧ j = .int .i64 jj ∧ Below w2.heap.size w2 wq) (fun j _ => p + 1 - (intOf j).toNat)
            case atStart => exact ⟨0, Nat.zero_le _, rfl, Below.refl _ _⟩
            case round =>
              obtain ⟨jj, hjp, rfl, bj⟩ := hrel
              have I3 := I2.call bj
              have segS3 := segS2.below bj
              go_upto_region 18 with fail
              go_cut [61] from 48 to 61 (fun c61 wx => c61 = .bool (decide (jj < p)) ∧ Below wr.heap.size wr wx)
              case first =>
                by_cases hjN : jj < q
                · have hjl : jj < cts.length := by rw [← HNL.out]; exact hjN
                  obtain ⟨b2, off2, hco, hb2, hcell2⟩ := seg_cell I3.own.csIn.seg hjl
                  obtain ⟨y, hy⟩ : ∃ y, y = ct cts jj := ⟨_, rfl⟩
                  obtain ⟨yn, hyn⟩ : ∃ yn, yn = y.ser.length := ⟨_, rfl⟩
                  have d0 : wr.cell? ⟨b2, off2 + jj * 2, none⟩ = some (.slice y.sa yn y.sc) := by rw [hyn, hy]; exact (hcell2 jj hjl).1
                  have d1 : wr.cell? ⟨b2, off2 + jj * 2 + 1, none⟩ = some (.int .i64 y.v) := by rw [hy]; exact (hcell2 jj hjl).2
                  have sy : Seg wr y.sa (lcells y.ser) := by rw [hy]; exact I3.own.csIn.ser _ (ct_mem hjl)
                  have hy4 : yn ≤ 4 := by rw [hyn, hy]; exact H8.out _ (ct_mem hjl)
                  obtain ⟨C, hC⟩ : ∃ C, C = cmpS y.ser S := ⟨_, rfl⟩
                  have PS := hide (rcmp_any y.ser S y.sa so yn sn y.sc sd wr sy segS3.seg hyn HSN.out (by omega))
                  rw [← hC] at PS
                  have HCp : Hid (C < 0 ↔ jj < p) := by show _ ↔ _; rw [hC, hy]; exact HBD.out jj hjl
                  have j2 : (jj : Int) < (q : Int) := by omega
                  clear hy hyn hcell2 hjl sy hC I3 segS3
                  subst hco
                  go_wp2_with fail
                  refine PS.out.mono ?_
                  rintro e w3 ⟨rfl, b3⟩
                  by_cases hjp2 : jj < p
                  · have hC0 : C < 0 := HCp.out.2 hjp2
                    have hd2 : Hid (decide (jj < p) = true) := by show _ = _; simpa using hjp2
                    clear HCp hjp2
                    go_wp2_with fail
                    go_meet
                    exact ⟨by rw [hd2.out], b3⟩
                  · have hC0 : ¬ C < 0 := fun h => hjp2 (HCp.out.1 h)
                    have hd2 : Hid (decide (jj < p) = false) := by show _ = _; simpa using hjp2
                    clear HCp hjp2
                    go_wp2_with fail
                    go_meet
                    exact ⟨by rw [hd2.out, decide_eq_false (by omega)], b3⟩
                · have hjq : jj = q := by have := HPP.out; have := HNL.out; omega
                  have hd1 : decide ((jj : Int) < (q : Int)) = false := by simp; omega
                  have hd2 : Hid (decide (jj < p) = false) := by show _ = _; have := HPP.out; have := HNL.out; simp; omega
                  clear hjq I3 segS3
                  go_wp2_with fail
                  go_meet
                  exact ⟨by rw [hd2.out], Below.refl _ _⟩
              case rest =>
              obtain ⟨rfl, bx⟩ := hcut
              have I4 := I3.call bx
              have segS4 := segS3.below bx
              by_cases hjlt : jj < p
              · have hd1 : decide (jj < p) = true := by simpa using hjlt
                have bj4 := below_step bx bj
                clear I3 segS3 I4 segS4
                go_wp2
                go_roundw
                case rel => exact ⟨jj + 1, by omega, by go_num, bj4⟩
                case measure => simp [intOf]; omega
              · have hjj : jj = p := by omega
                subst hjj
                have hd1 : decide (jj < jj) = false := by simp
                clear I3 segS3 bj hjlt hjp
                obtain ⟨a, ha⟩ : ∃ a, a = cts.take jj := ⟨_, rfl⟩
                obtain ⟨bb, hbb⟩ : ∃ a, a = cts.drop jj := ⟨_, rfl⟩
                have hab : a ++ bb = cts := by rw [ha, hbb, List.take_append_drop]
                have hjN : jj ≤ q := by have := HPP.out; have := HNL.out; omega
                have hal : a.length = jj := by rw [ha]; simp; have := HNL.out; omega
                have hbl2 : bb.length = q - jj := by rw [hbb]; simp; have := HNL.out; omega
                have ownX := I4.own.own
                obtain ⟨_, _, hvv, -, hNd'⟩ := own_open ownX
                have hNd : q ≤ d := by injection hvv with _ _ h3; omega
                obtain ⟨oa, hoa⟩ : ∃ oa, oa = cutP co d 0 2 := ⟨_, rfl⟩
                obtain ⟨ob, hob⟩ : ∃ ob, ob = cutP co d jj 2 := ⟨_, rfl⟩
                have hl2 : (ccells cts).length = q * 2 := ownX.1
                have hgA : Seg wc oa (ccells a) := by
                  have := seg_cutP (n := q) (p1 := 0) (p2 := jj) (own_seg' ownX) hl2 hNd (Nat.zero_le _) hjN
                  rw [ccells_td] at this
                  rw [hoa, ha]; simpa using this
                have hgB : Seg wc ob (ccells bb) := by
                  have := seg_cutP (n := q) (p1 := jj) (p2 := q) (own_seg' ownX) hl2 hNd hjN (Nat.le_refl _)
                  rw [ccells_td, List.take_of_length_le (by rw [HNL.out]; exact Nat.le_refl _)] at this
                  rw [hob, hbb]; exact this
                have hnA : oa = none → jj = 0 ∧ d = 0 := fun h => by
                  have := own_nil ownX (cutP_none (by rw [← hoa]; exact h))
                  omega
                have hnB : ob = none → q - jj = 0 ∧ d - jj = 0 := fun h => by
                  have := own_nil ownX (cutP_none (by rw [← hob]; exact h))
                  omega
                have SA := slc_to (oo := co) hjN hNd
                have SB0 := slc_from (oo := co) (d := d) hjN
                rw [← hoa] at SA
                rw [← hob] at SB0
                have lenA : (ccells a).length = jj * 2 := by rw [ccells_length, hal]
                have lenB : (ccells bb).length = (q - jj) * 2 := by rw [ccells_length, hbl2]
                have hone : ∀ u ∈ [Value.slice so sn sd, .int .i64 v], u.oneCell' = true := by
                  intro u hu
                  simp only [List.mem_cons, List.not_mem_nil, or_false] at hu
                  rcases hu with e | e <;> (subst e; rfl)
                have HFI : Hid (∀ (wz : World) (vz : Value) (ownz : wz.ownsRow wc.heap.size 57 2 vz (0 + jj + 1 + (q - jj)) ([] ++ ccells a ++ [.slice so sn sd, .int .i64 v] ++ ccells bb)) (blz : Below wc.heap.size wc wz), ∃ g D, vz = .slice (some ⟨g, 0, none⟩) (q + 1) D ∧ AI W wz (some ⟨g, 0, none⟩) (q + 1) D (k + 1) (cts.take jj ++ ⟨S, v, so, sd⟩ :: cts.drop jj)) := by
                  intro wz vz ownz blz
                  obtain ⟨A', Dp, hvA, _, _⟩ := own_open ownz
                  subst hvA
                  obtain ⟨g, hg⟩ := own_some ownz (by omega)
                  subst hg
                  have hN1 : 0 + jj + 1 + (q - jj) = q + 1 := by omega
                  rw [hN1] at ownz ⊢
                  have ec : ccells (cts.take jj ++ ⟨S, v, so, sd⟩ :: cts.drop jj) = [] ++ ccells a ++ [.slice so sn sd, .int .i64 v] ++ ccells bb := by
                    rw [ccells_append, ← ha, ← hbb, HSN.out]; simp [ccells]
                  have hge : wc.heap.size ≤ g := (own_base ownz g rfl).1
                  have hr : ∀ g', (Value.slice (some ⟨g, 0, none⟩) (q + 1) Dp).ownBlock = some g' → wc.heap.size ≤ g' := fun g' h => by
                    simp [Value.ownBlock] at h
                    omega
                  have pf := put_fine hS4 hv2 I4.fin HP2.out
                  have ps := put_srt x S v (cls cts) I4.srt _ HP2.out
                  refine ⟨g, Dp, rfl, below_step blz I4.bel, ⟨by rw [ec]; exact own_lower ownz I4.bel.size, fun y hy => ?_⟩, ps.1, pf.1, by have := I4.len; omega⟩
                  rcases List.mem_append.1 hy with e | e
                  · exact (I4.own.ser y (List.mem_of_mem_take e)).fresh blz hr
                  · rcases List.mem_cons.1 e with e | e
                    · rw [e]; exact segS4.fresh blz hr
                    · exact (I4.own.ser y (List.mem_of_mem_drop e)).fresh blz hr
                have BE0 : Below wc.heap.size wc (wc.alloc (.cells #[] 57)) := (Below.refl _ wc).alloc (Nat.le_refl _) _
                have BES0 : Below wc.heap.size wc ((wc.alloc (.cells #[] 57)).alloc (.cells #[.slice so sn sd, .int .i64 v] 57)) := BE0.alloc BE0.size _
                have BS0 : Below wc.heap.size wc (wc.alloc (.cells #[.slice so sn sd, .int .i64 v] 57)) := (Below.refl _ wc).alloc (Nat.le_refl _) _
                have BSE0 : Below wc.heap.size wc ((wc.alloc (.cells #[.slice so sn sd, .int .i64 v] 57)).alloc (.cells #[] 57)) := BS0.alloc BS0.size _
                have BE : Below wc.heap.size wc (wc.alloc (.cells #[] 57)).drew := below_drewN BE0 1
                have BES : Below wc.heap.size wc ((wc.alloc (.cells #[] 57)).alloc (.cells #[.slice so sn sd, .int .i64 v] 57)).drew := below_drewN BES0 1
                have BSE : Below wc.heap.size wc ((wc.alloc (.cells #[.slice so sn sd, .int .i64 v] 57)).alloc (.cells #[] 57)).drew := below_drewN BSE0 1
                have OE : (wc.alloc (.cells #[] 57)).drew.ownsRow wc.heap.size 57 2 (.slice (some ⟨wc.heap.size, 0, none⟩) 0 0) 0 [] := own_heap rfl (World.ownsRow_made wc #[] 0 (Nat.le_refl _) (by decide) rfl)
                have OES : ((wc.alloc (.cells #[] 57)).alloc (.cells #[.slice so sn sd, .int .i64 v] 57)).drew.ownsRow wc.heap.size 57 2 (.slice (some ⟨wc.heap.size, 0, none⟩) 0 0) 0 [] := own_heap rfl ((World.ownsRow_made wc #[] 0 (Nat.le_refl _) (by decide) rfl).alloc _)
                have OSE : ((wc.alloc (.cells #[.slice so sn sd, .int .i64 v] 57)).alloc (.cells #[] 57)).drew.ownsRow wc.heap.size 57 2 (.slice (some ⟨wc.heap.size + 1, 0, none⟩) 0 0) 0 [] := by
                  have := World.ownsRow_made (base := wc.heap.size) (e := 57) (size := 2) (wc.alloc (.cells #[.slice so sn sd, .int .i64 v] 57)) #[] 0 (by simp) (by decide) rfl
                  rw [show (wc.alloc (.cells #[.slice so sn sd, .int .i64 v] 57)).heap.size = wc.heap.size + 1 from by simp] at this
                  exact own_heap rfl this
                have SB : Seg ((wc.alloc (.cells #[] 57)).alloc (.cells #[.slice so sn sd, .int .i64 v] 57)).drew (some ⟨wc.heap.size + 1, 0, none⟩) [.slice so sn sd, .int .i64 v] := by
                  have := seg_new (wc.alloc (.cells #[] 57)) #[.slice so sn sd, .int .i64 v] 57
                  rw [show (wc.alloc (.cells #[] 57)).heap.size = wc.heap.size + 1 from by simp] at this
                  exact Seg.below this (below_drewN (Below.refl _ _) 1)
                have SC0 : Seg (wc.alloc (.cells #[.slice so sn sd, .int .i64 v] 57)) (some ⟨wc.heap.size, 0, none⟩) [.slice so sn sd, .int .i64 v] := seg_new wc #[.slice so sn sd, .int .i64 v] 57
                have SC : Seg ((wc.alloc (.cells #[.slice so sn sd, .int .i64 v] 57)).alloc (.cells #[] 57)).drew (some ⟨wc.heap.size, 0, none⟩) [.slice so sn sd, .int .i64 v] := SC0.below (below_drewN ((Below.refl _ _).alloc (Nat.le_refl _) _) 1)
                clear ha hbb hab hal hbl2 hvv hNd' hoa hob hl2 ownX I4 segS4 I2 segS2 HP2
                go_upto_region 20 with fail
                go_region_law
                  (first
                    | (refine step_append_segP (by rfl) (.tmp 64) (.tmp 67) 28 (by rfl) wc.heap.size 57 i0 (.agg #[.slice none 0 0, .int .i64 0]) 2 32 Tryz.underlying28 hi hz0 hz1 hz2 rfl (by decide) (.slice (some ⟨wc.heap.size, 0, none⟩) 0 0) 0 [] (by rfl) OE oa jj d (ccells a) (by rfl) hnA (hgA.below BE) lenA (ccells_one a) (by unfold maxLen; omega) (by omega) BE.size ?_; intro va wa owna gra hata; have bla : Below wc.heap.size wc wa := BE.grown gra BE.size (fun j hj => by simp [Value.ownBlock] at hj; omega); have hb1 := bla.size)
                    | (refine step_append_segP (by rfl) (.tmp 64) (.tmp 67) 28 (by rfl) wc.heap.size 57 i0 (.agg #[.slice none 0 0, .int .i64 0]) 2 32 Tryz.underlying28 hi hz0 hz1 hz2 rfl (by decide) (.slice (some ⟨wc.heap.size, 0, none⟩) 0 0) 0 [] (by rfl) OES oa jj d (ccells a) (by rfl) hnA (hgA.below BES) lenA (ccells_one a) (by unfold maxLen; omega) (by omega) BES.size ?_; intro va wa owna gra hata; have bla : Below wc.heap.size wc wa := BES.grown gra BES.size (fun j hj => by simp [Value.ownBlock] at hj; omega); have hb1 := bla.size)
                    | (refine step_append_segP (by rfl) (.tmp 64) (.tmp 67) 28 (by rfl) wc.heap.size 57 i0 (.agg #[.slice none 0 0, .int .i64 0]) 2 32 Tryz.underlying28 hi hz0 hz1 hz2 rfl (by decide) (.slice (some ⟨wc.heap.size + 1, 0, none⟩) 0 0) 0 [] (by rfl) OSE oa jj d (ccells a) (by rfl) hnA (hgA.below BSE) lenA (ccells_one a) (by unfold maxLen; omega) (by omega) BSE.size ?_; intro va wa owna gra hata; have bla : Below wc.heap.size wc wa := BSE.grown gra BSE.size (fun j hj => by simp [Value.ownBlock] at hj; omega); have hb1 := bla.size)
                    | (refine step_append_segP (by rfl) (.tmp 68) (.tmp 72) 28 (by rfl) wc.heap.size 57 i0 (.agg #[.slice none 0 0, .int .i64 0]) 2 32 Tryz.underlying28 hi hz0 hz1 hz2 rfl (by decide) va (0 + jj) ([] ++ ccells a) (by rfl) (owna.alloc _) (some ⟨wa.heap.size, 0, none⟩) 1 1 [.slice so sn sd, .int .i64 v] (by rfl) (fun h => by simp at h) (seg_new wa _ _) rfl hone (by unfold maxLen; omega) (by omega) (by simp; omega) ?_; intro vb wb ownb grb hatb; have blb : Below wc.heap.size wc wb := (bla.alloc hb1 _).grown grb (by simp; omega) (fun j hj => (owna.lt j hj).1); have hb2 := blb.size)
                    | (refine step_append_segP (by rfl) (.tmp 68) (.tmp 72) 28 (by rfl) wc.heap.size 57 i0 (.agg #[.slice none 0 0, .int .i64 0]) 2 32 Tryz.underlying28 hi hz0 hz1 hz2 rfl (by decide) va (0 + jj) ([] ++ ccells a) (by rfl) (owna) (some ⟨wc.heap.size + 1, 0, none⟩) 1 1 [.slice so sn sd, .int .i64 v] (by rfl) (fun h => by simp at h) (seg_grown3 SB gra (fun b off h => by simp at h; simp [Value.ownBlock]; omega)) rfl hone (by unfold maxLen; omega) (by omega) (hb1) ?_; intro vb wb ownb grb hatb; have blb : Below wc.heap.size wc wb := bla.grown grb hb1 (fun j hj => (owna.lt j hj).1); have hb2 := blb.size)
                    | (refine step_append_segP (by rfl) (.tmp 68) (.tmp 72) 28 (by rfl) wc.heap.size 57 i0 (.agg #[.slice none 0 0, .int .i64 0]) 2 32 Tryz.underlying28 hi hz0 hz1 hz2 rfl (by decide) va (0 + jj) ([] ++ ccells a) (by rfl) (owna) (some ⟨wc.heap.size, 0, none⟩) 1 1 [.slice so sn sd, .int .i64 v] (by rfl) (fun h => by simp at h) (seg_grown3 SC gra (fun b off h => by simp at h; simp [Value.ownBlock]; omega)) rfl hone (by unfold maxLen; omega) (by omega) (hb1) ?_; intro vb wb ownb grb hatb; have blb : Below wc.heap.size wc wb := bla.grown grb hb1 (fun j hj => (owna.lt j hj).1); have hb2 := blb.size)
                    | (refine step_append_segP (by rfl) (.tmp 73) (.tmp 76) 28 (by rfl) wc.heap.size 57 i0 (.agg #[.slice none 0 0, .int .i64 0]) 2 32 Tryz.underlying28 hi hz0 hz1 hz2 rfl (by decide) vb (0 + jj + 1) ([] ++ ccells a ++ [.slice so sn sd, .int .i64 v]) (by rfl) ownb ob (q - jj) (d - jj) (ccells bb) (by rfl) hnB (hgB.below blb) lenB (ccells_one bb) (by unfold maxLen; omega) (by omega) hb2 ?_; intro vz wz ownz grz hatz; have blz : Below wc.heap.size wc wz := blb.grown grz hb2 (fun j hj => (ownb.lt j hj).1)))
                all_goals
                  obtain ⟨g, D, hvz, I5⟩ := HFI.out _ _ ownz blz
                  subst hvz
                  clear ownz blz grz hatz
                  go_wp2
                  go_roundw
                  case rel => exact ⟨k + 1, q + 1, D, _, _, by omega, by go_num, rfl, I5, HA2⟩
                  case measure => simp [intOf]; omega
    · have he : k = n := by omega
      subst he
      have hdr : l.drop k = [] := List.drop_of_length_le (by rw [← HN.out]; exact Nat.le_refl _)
      have HE : Hid (allA x bs [] (cls l) = some (cls cts)) := by show _ = _; rw [HA.out, hdr]; rfl
      have hNl := hide I.own.len
      have csr := I.own.csIn.r
      have bel := below_step I.bel bel0
      clear I HA hdr
      go_wp2
      exact bodyPost_ret (v := .tuple #[.slice co N d, .bool true, .int .i64 0]) (by simp [results, Tryz.results40, go_sem]) rfl ⟨.inr ⟨cts, co, N, d, rfl, HE.out, hNl.out, csr⟩, bel⟩

end Go.Proofs.YthohkokhimdamaaGreat
