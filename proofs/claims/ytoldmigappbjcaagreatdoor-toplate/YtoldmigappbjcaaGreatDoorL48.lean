import Derived.Test.YtoldmigappbjcaaGreatDoorL47
namespace Go.Proofs.YtoldmigappbjcaaGreatDoor
open Go.RowKit Go.GrainU
def DT.cells (x : DT) : List Value := [.int .i64 x.d.kind, .int .i64 x.d.tier, .int .i64 x.d.till, .slice x.sa x.d.se.length x.sc, .int .i64 x.d.t, .int .i64 x.d.v, .string x.d.tx]
def dcells : List DT → List Value
 | [] => []
 | x :: r => x.cells ++ dcells r
def dtt (l : List DT) (k : Nat) : DT := l.getD k ⟨⟨0, 0, 0, [], 0, 0, ⟨#[]⟩⟩, none, 0⟩
theorem dcells_length (l : List DT) : (dcells l).length = l.length * 7 := by
 induction l with
 | nil => rfl
 | cons x r ih => simp only [dcells, List.length_append, ih, List.length_cons]; show 7 + _ = _; omega
theorem dtt_get {l : List DT} {k : Nat} (h : k < l.length) : dtt l k = l[k] := by simp [dtt, List.getD, List.getElem?_eq_getElem h]
theorem dtt_mem {l : List DT} {k : Nat} (h : k < l.length) : dtt l k ∈ l := by rw [dtt_get h]; exact List.getElem_mem h
theorem dcells_at : ∀ (l : List DT) (k j : Nat), k < l.length → j < 7 → (dcells l)[k * 7 + j]? = (dtt l k).cells[j]?
 | [], k, j, h, _ => by simp at h
 | x :: r, 0, j, _, hj => by
  show (x.cells ++ dcells r)[0 * 7 + j]? = x.cells[j]?
  rw [Nat.zero_mul, Nat.zero_add, List.getElem?_append_left (by show j < 7; exact hj)]
 | x :: r, k + 1, j, h, hj => by
  have ih := dcells_at r k j (by simpa using h) hj
  show (x.cells ++ dcells r)[(k + 1) * 7 + j]? = _
  rw [List.getElem?_append_right (by show 7 ≤ _; omega), show (k + 1) * 7 + j - x.cells.length = k * 7 + j from by show (k + 1) * 7 + j - 7 = _; omega, ih]
  simp [dtt]
theorem seg_do {w : World} {ao : Option Addr} {l : List DT} {k : Nat} (h : Seg w ao (dcells l)) (hk : k < l.length) :
  ∃ b off, ao = some ⟨b, off, none⟩ ∧ b < w.heap.size ∧ ∀ j, j < l.length → ∀ i, i < 7 → w.cell? ⟨b, off + j * 7 + i, none⟩ = (dtt l j).cells[i]? := by
 have hs := dcells_length l
 rcases h with h | ⟨b, off, rfl, h⟩
 ·rw [h] at hs; simp at hs; omega
 ·have hc : ∀ j, j < l.length → ∀ i, i < 7 → w.cell? ⟨b, off + j * 7 + i, none⟩ = (dtt l j).cells[i]? := fun j hj i hi => by
   rw [← dcells_at l j i hj hi, Nat.add_assoc]; exact h (j * 7 + i) (by omega)
  exact ⟨b, off, rfl, World.block_lt_of_cell? w ⟨b, off + k * 7 + 0, none⟩ (u := .int .i64 (dtt l k).d.kind) (hc k hk 0 (by omega)), hc⟩
def AT.cells (x : AT) : List Value := [.int .i64 x.a.err, .int .i64 x.a.pos, .slice x.co x.cts.length x.cap, .int .i64 x.a.cost]
def acells4 : List AT → List Value
 | [] => []
 | x :: r => x.cells ++ acells4 r
theorem acells4_length (l : List AT) : (acells4 l).length = l.length * 4 := by
 induction l with
 | nil => rfl
 | cons x r ih => simp only [acells4, List.length_append, ih, List.length_cons]; show 4 + _ = _; omega
theorem acells4_append (a b : List AT) : acells4 (a ++ b) = acells4 a ++ acells4 b := by
 induction a with
 | nil => rfl
 | cons x r ih => simp only [List.cons_append, acells4, ih, List.append_assoc]
structure OutS (w : World) (lo : Nat) (v : Value) (n : Nat) (l : List AT) : Prop where
 own : w.ownsRow lo 48 4 v n (acells4 l)
 ans : ∀ a ∈ l, AnIn w a
theorem OutS.len {w : World} {lo n : Nat} {v : Value} {l : List AT} (h : OutS w lo v n l) : n = l.length := by
 have := h.own.1; rw [acells4_length] at this; omega
theorem AnIn.below {w w' : World} {a : AT} (h : AnIn w a) (hb : Below w.heap.size w w') : AnIn w' a := ⟨h.cs, h.inn.below hb⟩
theorem OutS.below {w w' : World} {lo n : Nat} {v : Value} {l : List AT} (h : OutS w lo v n l) (hb : Below w.heap.size w w') : OutS w' lo v n l := ⟨own_below h.own hb, fun a ha => (h.ans a ha).below hb⟩
theorem csin_fr {w w' : World} {lo : Nat} {co : Option Addr} {l : List CT} (h : CsIn w co l) (hf : Fr lo w w') : CsIn w' co l := by
 have sg : ∀ {T : Nat} {ao : Option Addr} {xs : List Value}, T ≠ 59 → T ≠ 91 → Seg w ao xs → (xs = [] ∨ Typ w T ao) → Seg w' ao xs ∧ (xs = [] ∨ Typ w' T ao) := fun {T ao xs} h1 h2 hs hty => by
  rcases hty with h0 | ⟨b, off, arr, f, e, hb⟩
  ·exact ⟨.inl h0, .inl h0⟩
  ·have hs2 := hf.typ b _ _ _ hb h1 h2
   refine ⟨?_, .inr ⟨b, off, arr, f, e, hs2.trans hb⟩⟩
   rcases hs with h0 | ⟨b', off', e', hc⟩
   ·exact .inl h0
   ·rw [e] at e'
    injection e' with e'
    injection e' with e1 e2 _
    subst e1
    exact .inr ⟨b, off', by rw [e, e2], fun j hj => by rw [cell_of_block hs2]; exact hc j hj⟩
 exact ⟨(sg (by decide) (by decide) h.seg h.ty).1, fun x hx => (sg (by decide) (by decide) (h.ser x hx) (h.tl x hx)).1, (sg (by decide) (by decide) h.seg h.ty).2, fun x hx => (sg (by decide) (by decide) (h.ser x hx) (h.tl x hx)).2⟩
theorem own_fr {w w' : World} {lo base e size n : Nat} {v : Value} {xs : List Value} (h : w.ownsRow base e size v n xs) (hf : Fr lo w w') (h1 : e ≠ 59) (h2 : e ≠ 91) : w'.ownsRow base e size v n xs := by
 refine ⟨h.1, ?_⟩
 rcases h.2 with h0 | ⟨g, cap, cur, hv, hb, hh, rest⟩
 ·exact .inl h0
 ·exact .inr ⟨g, cap, cur, hv, hb, (hf.typ g _ _ _ hh h1 h2).trans hh, rest⟩
theorem OutS.fr {w w' : World} {lo lo' n : Nat} {v : Value} {l : List AT} (h : OutS w lo v n l) (hf : Fr lo' w w') : OutS w' lo v n l :=
 ⟨own_fr h.own hf (by decide) (by decide), fun a ha => ⟨(h.ans a ha).cs, csin_fr (h.ans a ha).inn hf⟩⟩
theorem own_answer {w : World} {lo n : Nat} {v : Value} {xs : List Value} (h : w.ownsRow lo 48 4 v n xs) : ∀ k, v.ownBlock = some k → ∃ c, w.heap[k]? = some (.cells c 48 (0, 0)) := fun k e => by
 rcases h.2 with ⟨h2, _⟩ | ⟨g, c, cur, hv, _, hh, _⟩
 ·rw [h2] at e; simp [Value.ownBlock] at e
 ·rw [hv] at e
  simp [Value.ownBlock] at e
  subst e
  exact ⟨cur, hh⟩
theorem anin_grown {w w' : World} {lo n : Nat} {v : Value} {xs : List Value} {a : AT} (h : AnIn w a) (ho : w.ownsRow lo 48 4 v n xs) (gr : w.grownBy w' v.ownBlock) : AnIn w' a := by
 refine ⟨h.cs, ?_⟩
 cases hv : v.ownBlock with
 | none =>
  rw [hv] at gr
  exact h.inn.below ⟨gr.os, gr.tape, gr.output, gr.size, fun k hk => gr.block k hk (fun e => by cases e)⟩
 | some g =>
  rw [hv] at gr
  obtain ⟨c, hc⟩ := own_answer ho g hv
  exact csin_keep h.inn hc (by decide) (by decide) gr
theorem bin_grown {w w' : World} {lo B n' cap n : Nat} {ao : Option Addr} {hz : Int} {l : List ShT} {v : Value} {xs : List Value} {lo2 : Nat} (h : BIn w lo B ao n' cap hz l) (ho : w.ownsRow lo2 48 4 v n xs) (gr : w.grownBy w' v.ownBlock) : BIn w' lo B ao n' cap hz l := by
 cases hv : v.ownBlock with
 | none =>
  rw [hv] at gr
  exact h.below ⟨gr.os, gr.tape, gr.output, gr.size, fun k hk => gr.block k hk (fun e => by cases e)⟩
 | some g =>
  rw [hv] at gr
  obtain ⟨c, hc⟩ := own_answer ho g hv
  exact h.keepO hc ⟨by decide, by decide, by decide, by decide⟩ (by decide) gr
theorem blk_grown {w w' : World} {lo n k : Nat} {v : Value} {xs : List Value} {c : Array Value} {t : TypeId} {fr : Nat × Nat} (ho : w.ownsRow lo 48 4 v n xs) (gr : w.grownBy w' v.ownBlock) (hk : w.heap[k]? = some (.cells c t fr)) (ht : t ≠ 48) : w'.heap[k]? = some (.cells c t fr) := by
 rw [gr.block k (lt_of_block hk) (fun e => own_far ho hk ht e.symm)]; exact hk
theorem OutS.push {w w' : World} {lo N d g' cp' : Nat} {co : Option Addr} {l : List AT} {y : AT} (h : OutS w lo (.slice co N d) N l) (hy : AnIn w y) (own : w'.ownsRow lo 48 4 (.slice (some ⟨g', 0, none⟩) (N + 1) cp') (N + 1) (acells4 l ++ y.cells)) (gr : w.grownBy w' (Value.slice co N d).ownBlock) : OutS w' lo (.slice (some ⟨g', 0, none⟩) (N + 1) cp') (N + 1) (l ++ [y]) := by
 refine ⟨by rw [acells4_append]; simpa [acells4] using own, fun x hx => ?_⟩
 rcases List.mem_append.1 hx with e | e
 ·exact anin_grown (h.ans x e) h.own gr
 ·simp at e; rw [e]; exact anin_grown hy h.own gr
def dns (l : List DT) : List Dn := l.map fun x => x.d
def PlPost (l : List DT) (w : World) (e : Ending) (w' : World) : Prop :=
 (120 < l.length ∧ e = .returned (.tuple #[.agg #[.slice none 0 0, .int .i64 0], .slice none 0 0, .int .i64 5]) ∧ Below w.heap.size w w') ∨
 (l.length ≤ 120 ∧ ∃ (ro oo : Option Addr) (rn rc d : Nat) (hz : Int) (sl : List ShT) (ys : List AT), e = .returned (.tuple #[.agg #[.slice ro rn rc, .int .i64 hz], .slice oo l.length d, .int .i64 0]) ∧ RowS w' w.heap.size (.slice ro rn rc) rn sl ∧ Lies sl (playB b0 (dns l)).1.l ∧ hz = (playB b0 (dns l)).1.hz ∧ OutS w' w.heap.size (.slice oo l.length d) l.length ys ∧ ys.map (fun y => y.a) = (playB b0 (dns l)).2 ∧ Below w.heap.size w w')
theorem dns_take {l : List DT} {k : Nat} (h : k < l.length) : dns (l.take (k + 1)) = dns (l.take k) ++ [(dtt l k).d] := by
 unfold dns
 rw [List.take_add_one, List.getElem?_eq_getElem h, dtt_get h, List.map_append]; rfl
theorem Tryz.infoAnswer : (Tryz.prog.info? 48).map (fun i => (i.zero, i.size, i.bytes)) = some (some (.agg #[.int .i64 0, .int .i64 0, .slice none 0 0, .int .i64 0]), 4, 48) := by kernel_rfl
set_option maxRecDepth 100000 in
set_option maxHeartbeats 4000000 in
theorem play_any (l : List DT) (ao : Option Addr) (n cap : Nat) (w : World) (hs : Seg w ao (dcells l)) (hd : ∀ x ∈ l, DIn w x) (hn : n = l.length) (hv : ErrV w) :
  Calls Tryz.prog 14 #[.slice ao n cap] w (PlPost l w) := by
 obtain ⟨i0, hi, hz0, hz1, hz2⟩ := sinfo_parts Tryz.infoAnswer
 by_cases h120 : 120 < n
 ·have FIN : Hid (PlPost l w (.returned (.tuple #[.agg #[.slice none 0 0, .int .i64 0], .slice none 0 0, .int .i64 5])) (w.alloc (.cells #[.slice none 0 0, .int .i64 0] 26))) := .inl ⟨by omega, rfl, (Below.refl _ _).alloc (Nat.le_refl _) _⟩
  have h1 : (120 : Int) < (n : Int) := by omega
  clear hn hs hd hv
  go_enter Tryz.func14, Tryz.ntmps14
  go_wp2
  exact bodyPost_ret (v := .tuple #[.agg #[.slice none 0 0, .int .i64 0], .slice none 0 0, .int .i64 5]) (by simp [results, Tryz.results14, go_sem]) rfl FIN.out
 ·have h1 : ¬ ((120 : Int) < (n : Int)) := by omega
  have hn120 : n ≤ 120 := by omega
  have HN := hide hn
  have HS := hide hs
  have HDn := hide hd
  have HV := hide hv
  clear hn hs hd hv h120
  go_enter Tryz.func14, Tryz.ntmps14
  go_wp2_with (at_make; refine wpList_make_own _ rfl _ _ 27 rfl w.heap.size 48 i0 (.agg #[.int .i64 0, .int .i64 0, .slice none 0 0, .int .i64 0]) 4 Tryz.underlying27 hi hz0 hz1 .i64 .i64 _ n rfl rfl rfl (by rw [hz2]; omega) (by unfold maxLen; omega) (by simp; omega) ?_)
  intro w4 own4 gr4
  have b2 : Below w.heap.size w ((w.alloc (.cells #[.slice none 0 0, .int .i64 0] 26)).alloc (.cells #[.slice none 0 0, .int .i64 0] 91)) := ((Below.refl _ _).alloc (Nat.le_refl _) _).alloc (by simp) _
  have b4 : Below w.heap.size w w4 := b2.grown gr4 (by simp; omega) (fun k hk => by cases hk)
  have X4 : w4.heap[w.heap.size]? = some (.cells #[.slice none 0 0, .int .i64 0] 26 (0, 0)) := by
   rw [gr4.block _ (by simp; omega) (fun e => by cases e), Below.heap_alloc _ _ _ (by simp)]; exact heap_alloc_new w _
  have B4 : w4.heap[w.heap.size + 1]? = some (.cells #[.slice none 0 0, .int .i64 0] 91 (0, 0)) := by
   rw [gr4.block _ (by simp) (fun e => by cases e)]
   have := heap_alloc_new (w.alloc (.cells #[.slice none 0 0, .int .i64 0] 26)) (.cells #[.slice none 0 0, .int .i64 0] 91)
   simpa using this
  have bin4 : BIn w4 w.heap.size (w.heap.size + 1) none 0 0 b0.hz [] := ⟨B4, RowS.nil _ _, by omega⟩
  have out4 : OutS w4 w.heap.size (.slice (some ⟨w.heap.size + 1 + 1, 0, none⟩) 0 n) 0 [] := ⟨by simpa [acells4] using own4, fun a ha => by cases ha⟩
  clear own4 gr4 b2 B4
  go_wp2
  go_loopw [6, 18] (fun out i wr => ∃ (k d : Nat) (oo ro : Option Addr) (rn rc : Nat) (sl : List ShT) (ys : List AT), k ≤ n ∧ i = .int .i64 k ∧ out = .slice oo k d ∧ OutS wr w.heap.size (.slice oo k d) k ys ∧ BIn wr w.heap.size (w.heap.size + 1) ro rn rc (playB b0 (dns (l.take k))).1.hz sl ∧ Hid (Lies sl (playB b0 (dns (l.take k))).1.l) ∧ Hid (ys.map (fun y => y.a) = (playB b0 (dns (l.take k))).2) ∧ wr.heap[w.heap.size]? = some (.cells #[.slice none 0 0, .int .i64 0] 26 (0, 0)) ∧ Below w.heap.size w wr) (fun _ i _ => n - (intOf i).toNat)
  case atStart => exact ⟨0, n, _, none, 0, 0, [], [], Nat.zero_le _, rfl, rfl, out4, bin4, rfl, rfl, X4, b4⟩
  case round =>
   obtain ⟨k, d, oo, ro, rn, rc, sl, ys, hk, rfl, rfl, hout, hbin, HLi, HYs, hX, bel⟩ := hrel
   clear out4 bin4 b4 X4
   have hsz := bel.size
   by_cases hlt : k < n
   ·have hkl : k < l.length := by rw [← HN.out]; exact hlt
    obtain ⟨bb, off, rfl, hbb, hcell⟩ := seg_do HS.out hkl
    obtain ⟨x, hx⟩ : ∃ x, x = dtt l k := ⟨_, rfl⟩
    have cc : ∀ i, i < 7 → wr.cell? ⟨bb, off + k * 7 + i, none⟩ = x.cells[i]? := fun i hi => by rw [hx]; exact (bel.cell (p := ⟨bb, _, none⟩) hbb).trans (hcell k hkl i hi)
    have q0 : wr.cell? ⟨bb, off + k * 7, none⟩ = some (.int .i64 x.d.kind) := cc 0 (by omega)
    have q1 : wr.cell? ⟨bb, off + k * 7 + 1, none⟩ = some (.int .i64 x.d.tier) := cc 1 (by omega)
    have q2 : wr.cell? ⟨bb, off + k * 7 + 2, none⟩ = some (.int .i64 x.d.till) := cc 2 (by omega)
    have q3 : wr.cell? ⟨bb, off + k * 7 + 3, none⟩ = some (.slice x.sa x.d.se.length x.sc) := cc 3 (by omega)
    have q4 : wr.cell? ⟨bb, off + k * 7 + 4, none⟩ = some (.int .i64 x.d.t) := cc 4 (by omega)
    have q5 : wr.cell? ⟨bb, off + k * 7 + 5, none⟩ = some (.int .i64 x.d.v) := cc 5 (by omega)
    have q6 : wr.cell? ⟨bb, off + k * 7 + 6, none⟩ = some (.string x.d.tx) := cc 6 (by omega)
    obtain ⟨V, hV⟩ : ∃ V, V = wr.alloc (.cells #[.int .i64 x.d.kind, .int .i64 x.d.tier, .int .i64 x.d.till, .slice x.sa x.d.se.length x.sc, .int .i64 x.d.t, .int .i64 x.d.v, .string x.d.tx] 36) := ⟨_, rfl⟩
    have bV : Below wr.heap.size wr V := by rw [hV]; exact (Below.refl _ _).alloc (Nat.le_refl _) _
    have belV : Below w.heap.size w V := bel.trans (bV.mono hsz)
    obtain ⟨b, hb⟩ : ∃ b, b = (playB b0 (dns (l.take k))).1 := ⟨_, rfl⟩
    have hinv : BInv b := by rw [hb]; exact playB_inv _ b0_inv
    have hfew : FewB 500 b := by
     rw [hb]
     refine (playB_few (m := 0) (dns (l.take k)) (fun k hk => by simp [b0] at hk)).mono ?_
     have : (dns (l.take k)).length ≤ n := by simp [dns]; omega
     omega
    have HNx : Hid (playB b0 (dns (l.take (k + 1))) = ((doB b x.d).1, (playB b0 (dns (l.take k))).2 ++ [(doB b x.d).2])) := by
     show _ = _
     rw [dns_take hkl, playB_snoc, ← hb, hx]
    rw [← hb] at hbin HLi
    have P := hide (bdo_any b hinv hfew x sl w.heap.size (w.heap.size + 1) rn rc ro V (hbin.below bV) HLi.out ((HDn.out x (by rw [hx]; exact dtt_mem hkl)).below belV) (HV.out.below belV))
    have outV := hout.below bV
    have XV := below_block bV hX
    have HV1 := hide hV
    unfold DT.v at P
    obtain ⟨m, hm⟩ : ∃ m, m = x.d.se.length := ⟨_, rfl⟩
    rw [← hm] at P HV1 q3
    clear hx hcell hkl cc hout hbin hX bel hV hb hinv hfew bV hm HLi
    go_wp2_with fail
    rw [← HV1.out]
    refine P.out.mono ?_
    rintro e w1 ⟨y, ro', rn', rc', sl', rfl, hya, hyin, hbin1, hli1, hfr⟩
    have out1 := outV.fr hfr
    have X1 := (hfr.typ _ _ _ _ XV (by decide) (by decide)).trans XV
    have bel1 : Below w.heap.size w w1 := belV.trans hfr.below
    have HYa := hide hya
    have HLi1 := hide hli1
    obtain ⟨y0, hy0⟩ : ∃ y0, y0 = y.a.err := ⟨_, rfl⟩
    obtain ⟨y1, hy1⟩ : ∃ y1, y1 = y.a.pos := ⟨_, rfl⟩
    obtain ⟨y2, hy2⟩ : ∃ y2, y2 = y.cts.length := ⟨_, rfl⟩
    obtain ⟨y3, hy3⟩ : ∃ y3, y3 = y.a.cost := ⟨_, rfl⟩
    rw [← hy0, ← hy1, ← hy2, ← hy3]
    obtain ⟨W2, hW2⟩ : ∃ W2, W2 = w1.alloc (.cells #[.int .i64 y0, .int .i64 y1, .slice y.co y2 y.cap, .int .i64 y3] 48) := ⟨_, rfl⟩
    have b2 : Below w1.heap.size w1 W2 := by rw [hW2]; exact (Below.refl _ _).alloc (Nat.le_refl _) _
    have bel2 : Below w.heap.size w W2 := bel1.trans (b2.mono bel1.size)
    have out2 := out1.below b2
    have yin2 := hyin.below b2
    have bin2 := hbin1.below b2
    have X2 := below_block b2 X1
    have HNB : Hid (∀ j u, [Value.int .i64 y0, .int .i64 y1, .slice y.co y2 y.cap, .int .i64 y3][j]? = some u → W2.cell? ((⟨w1.heap.size, 0, none⟩ : Addr).add j) = some u) := by
     refine seg_news ?_
     rw [hW2]
     have := seg_new w1 #[.int .i64 y0, .int .i64 y1, .slice y.co y2 y.cap, .int .i64 y3] 48
     simpa using this
    have H1 : Hid (∀ u ∈ [Value.int .i64 y0, .int .i64 y1, .slice y.co y2 y.cap, .int .i64 y3], u.oneCell' = true) := by
     intro u hu
     simp only [List.mem_cons, List.not_mem_nil, or_false] at hu
     rcases hu with e | e | e | e <;> (subst e; rfl)
    have HYc : Hid (y.cells = [Value.int .i64 y0, .int .i64 y1, .slice y.co y2 y.cap, .int .i64 y3]) := by show _ = _; rw [hy0, hy1, hy2, hy3]; rfl
    have hs2 : W2.heap.size = w1.heap.size + 1 := by rw [hW2]; simp
    have hws : w.heap.size ≤ W2.heap.size := bel2.size
    have HW2 := hide hW2
    clear P hya hli1 out1 outV X1 XV hfr hyin hbin1 hy0 hy1 hy2 hy3 hW2 q0 q1 q2 q3 q4 q5 q6 belV
    go_wp2_with (rw [← HW2.out]; at_builtin; refine wpList_append_lies _ rfl _ _ 27 rfl w.heap.size 48 i0 (.agg #[.int .i64 0, .int .i64 0, .slice none 0 0, .int .i64 0]) 4 48 Tryz.underlying27 hi hz0 hz1 hz2 rfl (by decide) _ _ _ rfl out2.own ⟨w1.heap.size, 0, none⟩ 1 1 [.int .i64 y0, .int .i64 y1, .slice y.co y2 y.cap, .int .i64 y3] rfl rfl HNB.out H1.out (by decide) (by unfold maxLen; omega) (by omega) hws (w1.heap.size + 1) hs2 ?_)
    intro g' cp' wz ownZ grZ hatZ hltZ
    rw [← HYc.out] at ownZ
    have outZ := out2.push yin2 ownZ grZ
    have binZ := bin_grown bin2 out2.own grZ
    have XZ := blk_grown out2.own grZ X2 (by decide)
    have belZ : Below w.heap.size w wz := bel2.grown grZ hws (fun j hj => (own_base out2.own j hj).1)
    have HLiZ : Hid (Lies sl' (playB b0 (dns (l.take (k + 1)))).1.l) := by show Lies _ _; rw [HNx.out]; exact HLi1.out
    have HYsZ : Hid ((ys ++ [y]).map (fun y => y.a) = (playB b0 (dns (l.take (k + 1)))).2) := by
     show _ = _
     rw [HNx.out, List.map_append, HYs.out]; simp [HYa.out]
    have binZ' : BIn wz w.heap.size (w.heap.size + 1) ro' rn' rc' (playB b0 (dns (l.take (k + 1)))).1.hz sl' := by rw [HNx.out]; exact binZ
    clear out2 yin2 bin2 X2 ownZ grZ hatZ hltZ HNB HYs HYa HLi1 HNx bel2 binZ
    go_wp2
    go_roundw
    case rel => exact ⟨k + 1, cp', _, ro', rn', rc', sl', _, by omega, by go_num, rfl, outZ, binZ', HLiZ, HYsZ, XZ, belZ⟩
    case measure => simp [intOf]; omega
   ·have he : k = n := by omega
    subst he
    have e1 : l.take k = l := List.take_of_length_le (by rw [← HN.out]; exact Nat.le_refl _)
    rw [e1] at hbin HLi HYs
    obtain ⟨hz, hhz⟩ : ∃ hz, hz = (playB b0 (dns l)).1.hz := ⟨_, rfl⟩
    rw [← hhz] at hbin
    obtain ⟨q0, q1, q2, q3⟩ := two_cells hbin.b
    obtain ⟨x0, x1, x2, x3⟩ := two_cells hX
    have hg : wr.grownBy ((wr.setCell ⟨w.heap.size, 0, none⟩ (.slice ro rn rc)).setCell ⟨w.heap.size, 1, none⟩ (.int .i64 hz)) (some w.heap.size) := grown_trans grown_set grown_set (fun k hk => .inl hk)
    have FIN : Hid (PlPost l w (.returned (.tuple #[.agg #[.slice ro rn rc, .int .i64 hz], .slice oo k d, .int .i64 0])) ((wr.setCell ⟨w.heap.size, 0, none⟩ (.slice ro rn rc)).setCell ⟨w.heap.size, 1, none⟩ (.int .i64 hz))) := by
     have hkl : k = l.length := HN.out
     refine .inr ⟨by omega, ro, oo, rn, rc, d, hz, sl, ys, by rw [hkl], ?_, HLi.out, hhz, ?_, HYs.out, (bel.setCell (Nat.le_refl _) _).setCell (Nat.le_refl _) _⟩
     ·exact hbin.row.keep hX ⟨by decide, by decide, by decide, by decide⟩ hg
     ·rw [← hkl]
      exact ⟨own_keep hout.own hg (fun k' hk' e => by injection e with e; subst e; exact own_far hout.own hX (by decide) hk'), fun a ha => ⟨(hout.ans a ha).cs, csin_keep (hout.ans a ha).inn hX (by decide) (by decide) hg⟩⟩
    clear HLi HYs hout hbin hX hg hhz HN
    go_wp2
    exact bodyPost_ret (v := .tuple #[.agg #[.slice ro rn rc, .int .i64 hz], .slice oo k d, .int .i64 0]) (by simp [results, Tryz.results14, go_sem, x0, x1]) rfl FIN.out
end Go.Proofs.YtoldmigappbjcaaGreatDoor
