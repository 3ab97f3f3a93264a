/-
  slices.Insert at cells.
-/
import Derived.Test.YthohkokhimdamaaGreatP25
import Derived.Shelf.Spec.SlicesInsert
import Derived.Lib.AppendZerosOnto
import Derived.Laws.NewBlocks
import Derived.Deep.RegionLaw
/-
  The walk of binOf.
-/
namespace Go.GrainU
open Go.RowKit

theorem cellOf_fine {l : List Cl} {s : Lb} {v : Int} (h : ∀ c ∈ l, Fine c) (e : cellOf l s = some v) : -MC ≤ v ∧ v ≤ MC := by
  induction l with
  | nil => simp [cellOf] at e
  | cons c r ih =>
    simp only [cellOf] at e
    split at e
    · simp at e
      have := h c (by simp)
      rw [← e]; exact ⟨this.1, this.2.1⟩
    · exact ih (fun c hc => h c (by simp [hc])) e

theorem atM_fine {m : Mn} {s : Lb} {v : Int} (h : ∀ c ∈ m.cs, Fine c) (e : atM m s = some v) : -MC ≤ v ∧ v ≤ MC := by
  unfold atM at e
  split at e
  · simp at e
    rw [← e]
    cases hm : m.cs with
    | nil => simp [cl0, MC]
    | cons c r =>
      have := h c (by rw [hm]; simp)
      exact ⟨this.1, this.2.1⟩
  · exact cellOf_fine h e

theorem binA_no {a b : Mn} {w : ByteArray} {acc : List Cl} {c : Cl} {r : List Cl} (h : atM a c.1 = none ∨ atM b c.1 = none) : binA a b w acc (c :: r) = binA a b w acc r := by
  rcases h with h | h
  · simp [binA, h]
  · cases h' : atM a c.1 <;> simp [binA, h, h']

theorem binA_yes {a b : Mn} {w : ByteArray} {acc : List Cl} {c : Cl} {r : List Cl} {x y v : Int} (h : atM a c.1 = some x) (h' : atM b c.1 = some y) (hv : wkd w x y = some v) : binA a b w acc (c :: r) = binA a b w (acc ++ [(c.1, v)]) r := by
  simp [binA, h, h', hv]

theorem binA_bad {a b : Mn} {w : ByteArray} {acc : List Cl} {c : Cl} {r : List Cl} {x y : Int} (h : atM a c.1 = some x) (h' : atM b c.1 = some y) (hv : wkd w x y = none) : binA a b w acc (c :: r) = none := by
  simp [binA, h, h', hv]

theorem cls_drop {l : List CT} {k : Nat} (h : k < l.length) : cls (l.drop k) = (ct l k).cl :: cls (l.drop (k + 1)) := by rw [drop_ct h]; rfl

/-- two cells, the second one written -/
theorem two_snd {w : World} {B : Nat} {x y : Value} {t : TypeId} (h : w.heap[B]? = some (.cells #[x, y] t (0, 0))) (q : Value) : (w.setCell ⟨B, 1, none⟩ q).heap[B]? = some (.cells #[x, q] t (0, 0)) := by
  simp [World.setCell, Array.getElem?_modify, h]

end Go.GrainU
namespace Go.Proofs.YthohkokhimdamaaGreat
open Go.RowKit Go.GrainU

/-- what comes of what comes to something: an error, or cells -/
def MPost (o : Option Mn) (e : Ending) (w' : World) : Prop :=
  (o = none ∧ e = .returned (.tuple #[.agg #[.bool false, .slice none 0 0], .int .i64 3])) ∨
  ∃ nb cts co N d, e = .returned (.tuple #[.agg #[.bool nb, .slice co N d], .int .i64 0]) ∧ o = some ⟨nb, cls cts⟩ ∧ N = cts.length ∧ CsIn w' co cts

/-- what binOf's loop keeps -/
structure BI (w wr : World) (x1 y1 x2 y2 ob : Value) (co : Option Addr) (N d : Nat) (cts : List CT) : Prop where
  bel : Below w.heap.size w wr
  b1 : wr.heap[w.heap.size]? = some (.cells #[x1, y1] 67 (0, 0))
  b2 : wr.heap[w.heap.size + 1]? = some (.cells #[x2, y2] 67 (0, 0))
  b3 : wr.heap[w.heap.size + 1 + 1]? = some (.cells #[.bool false, .slice none 0 0] 67 (0, 0))
  b5 : wr.heap[w.heap.size + 1 + 1 + 1 + 1]? = some (.cells #[ob, .slice co N d] 67 (0, 0))
  own : wr.ownsRow (w.heap.size + 5) 57 2 (.slice co N d) N (ccells cts)
  ser : ∀ c ∈ cts, SegL w c.sa c.ser

theorem BI.start (w : World) (x1 y1 x2 y2 ob : Value) (o4 : Obj) : BI w (((((w.alloc (.cells #[x1, y1] 67)).alloc (.cells #[x2, y2] 67)).alloc (.cells #[.bool false, .slice none 0 0] 67)).alloc o4).alloc (.cells #[ob, .slice none 0 0] 67)) x1 y1 x2 y2 ob none 0 0 [] := by
  refine ⟨?_, ?_, ?_, ?_, ?_, World.ownsRow_nil _ _ _ _, fun c hc => by cases hc⟩
  · exact (((((Below.refl _ _).alloc (Nat.le_refl _) _).alloc (by simp) _).alloc (by simp; omega) _).alloc (by simp; omega) _).alloc (by simp; omega) _
  · rw [Below.heap_alloc _ _ _ (by simp; omega), Below.heap_alloc _ _ _ (by simp; omega), Below.heap_alloc _ _ _ (by simp; omega), Below.heap_alloc _ _ _ (by simp)]; exact heap_alloc_new _ _
  · rw [Below.heap_alloc _ _ _ (by simp), Below.heap_alloc _ _ _ (by simp), Below.heap_alloc _ _ _ (by simp)]
    have := heap_alloc_new (w.alloc (.cells #[x1, y1] 67)) (.cells #[x2, y2] 67)
    simpa using this
  · rw [Below.heap_alloc _ _ _ (by simp), Below.heap_alloc _ _ _ (by simp)]
    have := heap_alloc_new ((w.alloc (.cells #[x1, y1] 67)).alloc (.cells #[x2, y2] 67)) (.cells #[.bool false, .slice none 0 0] 67)
    simpa using this
  · have := heap_alloc_new ((((w.alloc (.cells #[x1, y1] 67)).alloc (.cells #[x2, y2] 67)).alloc (.cells #[.bool false, .slice none 0 0] 67)).alloc o4) (.cells #[ob, .slice none 0 0] 67)
    simpa using this

theorem BI.call {w wr w' : World} {x1 y1 x2 y2 ob : Value} {co : Option Addr} {N d : Nat} {cts : List CT} (I : BI w wr x1 y1 x2 y2 ob co N d cts) (hb : Below wr.heap.size wr w') : BI w w' x1 y1 x2 y2 ob co N d cts :=
  ⟨I.bel.trans (hb.mono I.bel.size), below_block hb I.b1, below_block hb I.b2, below_block hb I.b3, below_block hb I.b5, own_below I.own hb, I.ser⟩

theorem BI.kept {w wr w' : World} {x1 y1 x2 y2 ob : Value} {co : Option Addr} {N d : Nat} {cts : List CT} (I : BI w wr x1 y1 x2 y2 ob co N d cts) (gr : wr.grownBy w' (Value.slice co N d).ownBlock) :
    w'.heap[w.heap.size + 1 + 1 + 1 + 1]? = some (.cells #[ob, .slice co N d] 67 (0, 0)) := by
  rw [gr.block _ (lt_of_block I.b5) (fun e => by have := (own_base I.own _ e.symm).1; omega)]; exact I.b5

theorem BI.push {w wr w' : World} {x1 y1 x2 y2 ob : Value} {co : Option Addr} {N d g' cp' : Nat} {cts : List CT} (I : BI w wr x1 y1 x2 y2 ob co N d cts) (c : CT) (hc : SegL w c.sa c.ser)
    (own : w'.ownsRow (w.heap.size + 5) 57 2 (.slice (some ⟨g', 0, none⟩) (N + 1) cp') (N + 1) (ccells cts ++ [.slice c.sa c.ser.length c.sc, .int .i64 c.v])) (gr : wr.grownBy w' (Value.slice co N d).ownBlock) :
    BI w (w'.setCell ⟨w.heap.size + 1 + 1 + 1 + 1, 1, none⟩ (.slice (some ⟨g', 0, none⟩) (N + 1) cp')) x1 y1 x2 y2 ob (some ⟨g', 0, none⟩) (N + 1) cp' (cts ++ [c]) := by
  have hr : ∀ k, k < w.heap.size + 5 → some k ≠ (Value.slice co N d).ownBlock := fun k hk e => by
    have := (own_base I.own k e.symm).1
    omega
  have hb : ∀ k o, k < w.heap.size + 5 → wr.heap[k]? = some o → w'.heap[k]? = some o := fun k o hk h => by
    rw [gr.block k (lt_of_block h) (fun e => hr k hk (by first | exact e | exact e.symm))]; exact h
  have bel' : Below w.heap.size w w' := I.bel.grown gr I.bel.size (fun j hj => by have := (own_base I.own j hj).1; omega)
  refine ⟨bel'.setCell (by show w.heap.size ≤ w.heap.size + 1 + 1 + 1 + 1; omega) _, ?_, ?_, ?_, ?_, ?_, ?_⟩
  · rw [setCell_far (by omega)]; exact hb _ _ (by omega) I.b1
  · rw [setCell_far (by omega)]; exact hb _ _ (by omega) I.b2
  · rw [setCell_far (by omega)]; exact hb _ _ (by omega) I.b3
  · exact two_snd (hb _ _ (by omega) I.b5) _
  · rw [ccells_append]
    exact ownsRow_setCell_below own (by show w.heap.size + 1 + 1 + 1 + 1 < w.heap.size + 5; omega) _
  · intro x hx
    rcases List.mem_append.1 hx with e | e
    · exact I.ser x e
    · simp at e
      subst e
      exact hc

set_option maxRecDepth 100000 in
set_option maxHeartbeats 8000000 in
theorem mbin_any (n1 n2 : Bool) (l1 l2 : List CT) (x : ByteArray) (o1 o2 : Option Addr) (N1 d1 N2 d2 : Nat) (w : World) (h1 : CsIn w o1 l1) (h2 : CsIn w o2 l2) (hN1 : N1 = l1.length) (hN2 : N2 = l2.length)
    (f1 : ∀ c ∈ cls l1, Fine c) (f2 : ∀ c ∈ cls l2, Fine c) (e1 : N1 ≤ 8) (e2 : N2 ≤ 8) (p1 : n1 = true → 0 < N1) (p2 : n2 = true → 0 < N2) :
    Calls Tryz.prog 54 #[.agg #[.bool n1, .slice o1 N1 d1], .agg #[.bool n2, .slice o2 N2 d2], .string x] w fun e w' => MPost (binM ⟨n1, cls l1⟩ ⟨n2, cls l2⟩ x) e w' ∧ Below w.heap.size w w' := by
  obtain ⟨i0, hi, hz0, hz1, hz2⟩ := info_parts Tryz.infoCell
  have s1 : ∀ c ∈ l1, c.ser.length ≤ 9223372036854775807 := fun c hc => by
    have := (f1 c.cl (List.mem_map_of_mem hc)).2.2
    have e : c.cl.1.length = c.ser.length := rfl
    omega
  have s2 : ∀ c ∈ l2, c.ser.length ≤ 9223372036854775807 := fun c hc => by
    have := (f2 c.cl (List.mem_map_of_mem hc)).2.2
    have e : c.cl.1.length = c.ser.length := rfl
    omega
  obtain ⟨fb, hfb⟩ : ∃ fb, fb = (fromM ⟨n1, cls l1⟩ ⟨n2, cls l2⟩).num := ⟨_, rfl⟩
  have hfrom : ∃ fl fo NF dF, fl = (if n1 = true then l2 else l1) ∧ fo = (if n1 = true then o2 else o1) ∧ NF = (if n1 = true then N2 else N1) ∧ dF = (if n1 = true then d2 else d1) ∧ NF = fl.length ∧ NF ≤ 8 ∧ CsIn w fo fl ∧ (fromM ⟨n1, cls l1⟩ ⟨n2, cls l2⟩).cs = cls fl ∧ fb = (if n1 = true then n2 else n1) := by
    rw [hfb]
    cases n1 with
    | true => exact ⟨l2, o2, N2, d2, rfl, rfl, rfl, rfl, hN2, e2, h2, rfl, rfl⟩
    | false => exact ⟨l1, o1, N1, d1, rfl, rfl, rfl, rfl, hN1, e1, h1, rfl, rfl⟩
  obtain ⟨fl, fo, NF, dF, g1, g2, g3, g4, hNF, eF, hF, hcs, g5⟩ := hfrom
  obtain ⟨A, hA⟩ : ∃ A : Mn, A = ⟨n1, cls l1⟩ := ⟨_, rfl⟩
  obtain ⟨B, hB⟩ : ∃ B : Mn, B = ⟨n2, cls l2⟩ := ⟨_, rfl⟩
  have HR : Hid (binM A B x = (binA A B x [] (cls fl)).map fun l => ⟨fb, l⟩) := by
    show _ = _
    rw [hfb, hA, hB, binM, hcs]
  have PA : Hid (∀ (s : Lb) (m c' : Nat) (so : Option Addr) (w' : World), Below w.heap.size w w' → Seg w so (lcells s) → m = s.length → Calls Tryz.prog 76 #[.agg #[.bool n1, .slice o1 N1 d1], .slice so m c'] w' fun e w'' => e = .returned (.tuple #[.int .i64 (oi (atM A s)), .bool (ob (atM A s))]) ∧ Below w'.heap.size w' w'') :=
    fun s m c' so w' hb hs hm => by rw [hA]; exact mat_any n1 l1 s N1 d1 m c' o1 so w' (h1.below hb) (hs.below hb) hN1 hm s1 (by omega) p1
  have PB : Hid (∀ (s : Lb) (m c' : Nat) (so : Option Addr) (w' : World), Below w.heap.size w w' → Seg w so (lcells s) → m = s.length → Calls Tryz.prog 76 #[.agg #[.bool n2, .slice o2 N2 d2], .slice so m c'] w' fun e w'' => e = .returned (.tuple #[.int .i64 (oi (atM B s)), .bool (ob (atM B s))]) ∧ Below w'.heap.size w' w'') :=
    fun s m c' so w' hb hs hm => by rw [hB]; exact mat_any n2 l2 s N2 d2 m c' o2 so w' (h2.below hb) (hs.below hb) hN2 hm s2 (by omega) p2
  have FA : Hid (∀ s v, atM A s = some v → -MC ≤ v ∧ v ≤ MC) := fun s v e => atM_fine (by rw [hA]; exact f1) e
  have FB : Hid (∀ s v, atM B s = some v → -MC ≤ v ∧ v ≤ MC) := fun s v e => atM_fine (by rw [hB]; exact f2) e
  have HF := hide hF
  have HNF := hide hNF
  rw [← hA, ← hB]
  have G1 := hide (And.intro g2 (And.intro g3 (And.intro g4 g5)))
  clear hA hB hfb hcs hN1 hN2 f1 f2 s1 s2 e1 e2 p1 p2 h1 h2 hF hNF g1 g2 g3 g4 g5
  have HST : Hid (∀ o4, BI w (((((w.alloc (.cells #[.bool n1, .slice o1 N1 d1] 67)).alloc (.cells #[.bool n2, .slice o2 N2 d2] 67)).alloc (.cells #[.bool false, .slice none 0 0] 67)).alloc o4).alloc (.cells #[.bool fb, .slice none 0 0] 67)) (.bool n1) (.slice o1 N1 d1) (.bool n2) (.slice o2 N2 d2) (.bool fb) none 0 0 []) := fun o4 => BI.start w _ _ _ _ _ o4
  go_enter Tryz.func54, Tryz.ntmps54
  go_upto_region 2 with fail
  go_cut [18, 20] from 19 to 21 (fun v18 v20 wx => v20 = .bool n1 ∧ wx = (((w.alloc (.cells #[.bool n1, .slice o1 N1 d1] 67)).alloc (.cells #[.bool n2, .slice o2 N2 d2] 67)).alloc (.cells #[.bool false, .slice none 0 0] 67)).alloc (.cells #[.bool n1, .slice o1 N1 d1] 67))
  case first =>
    go_wp2_with fail
    go_meet
    exact ⟨rfl, rfl⟩
  case rest =>
  obtain ⟨rfl, rfl⟩ := hcut
  apply_assumption
  go_cut [18] from 19 to 21 (fun v18 wx => wx = (((w.alloc (.cells #[.bool n1, .slice o1 N1 d1] 67)).alloc (.cells #[.bool n2, .slice o2 N2 d2] 67)).alloc (.cells #[.bool false, .slice none 0 0] 67)).alloc (.cells #[.bool fb, .slice fo NF dF] 67))
  case first =>
    obtain ⟨g2, g3, g4, g5⟩ := G1.out
    cases n1 with
    | true =>
      simp only [if_true] at g2 g3 g4 g5
      subst g2 g3 g4 g5
      go_wp2_with fail
      go_meet
      rfl
    | false =>
      simp at g2 g3 g4 g5
      subst g2 g3 g4 g5
      go_wp2_with fail
      go_meet
      rfl
  case rest =>
  subst hcut
  clear G1
  have I0 := HST.out (.cells #[.bool fb, .slice fo NF dF] 67)
  clear HST
  go_wp2
  go_loopw [28] (fun i wr => ∃ (k N d : Nat) (co : Option Addr) (cts : List CT), k ≤ NF ∧ i = .int .i64 k ∧ N ≤ k ∧ BI w wr (.bool n1) (.slice o1 N1 d1) (.bool n2) (.slice o2 N2 d2) (.bool fb) co N d cts ∧ Hid (binA A B x [] (cls fl) = binA A B x (cls cts) (cls (fl.drop k)))) (fun i _ => NF - (intOf i).toNat)
  case atStart => exact ⟨0, 0, 0, none, [], Nat.zero_le _, rfl, Nat.le_refl _, I0, rfl⟩
  case round =>
    clear I0
    obtain ⟨k, N, d, co, cts, hk, rfl, hNk, I, HB⟩ := hrel
    by_cases hlt : k < NF
    · have hkl : k < fl.length := by rw [← HNF.out]; exact hlt
      obtain ⟨b, off, rfl, hb, hcell⟩ := seg_cell HF.out.seg hkl
      obtain ⟨c, hc⟩ : ∃ c, c = ct fl k := ⟨_, rfl⟩
      obtain ⟨cn, hcn⟩ : ∃ cn, cn = c.ser.length := ⟨_, rfl⟩
      have segc : Seg w c.sa (lcells c.ser) := by rw [hc]; exact HF.out.ser _ (ct_mem hkl)
      have HSL : Hid (SegL w c.sa c.ser) := by rw [hc]; exact ⟨HF.out.ser _ (ct_mem hkl), HF.out.tl _ (ct_mem hkl)⟩
      have c0 : wr.cell? ⟨b, off + k * 2, none⟩ = some (.slice c.sa cn c.sc) := by rw [hcn, hc]; exact (I.bel.cell (by exact hb)).trans (hcell k hkl).1
      have c1 : wr.cell? ⟨b, off + k * 2 + 1, none⟩ = some (.int .i64 c.v) := by rw [hc]; exact (I.bel.cell (by exact hb)).trans (hcell k hkl).2
      have HD : Hid (cls (fl.drop k) = c.cl :: cls (fl.drop (k + 1))) := by show _ = _; rw [cls_drop hkl, hc]
      obtain ⟨V, hV⟩ : ∃ V, V = wr.alloc (.cells #[.slice c.sa cn c.sc, .int .i64 c.v] 57) := ⟨_, rfl⟩
      obtain ⟨X, hX⟩ : ∃ X, X = wr.heap.size := ⟨_, rfl⟩
      have F1 : V.heap[X]? = some (.cells #[.slice c.sa cn c.sc, .int .i64 c.v] 57 (0, 0)) := by rw [hV, hX]; exact heap_alloc_new wr _
      have belA : Below wr.heap.size wr V := by rw [hV]; exact (Below.refl _ _).alloc (Nat.le_refl _) _
      have IV := I.call belA
      obtain ⟨y0, y1, _, _⟩ := two_cells I.b1
      have l1' : w.heap.size < wr.heap.size := lt_of_block I.b1
      obtain ⟨oA, hoA⟩ : ∃ oA, oA = atM A c.ser := ⟨_, rfl⟩
      obtain ⟨oB, hoB⟩ : ∃ oB, oB = atM B c.ser := ⟨_, rfl⟩
      have HOA := hide hoA
      have HOB := hide hoB
      have HV := hide hV
      have HX := hide hX
      have HCN := hide hcn
      clear hV hcn hc hkl hcell hoA hoB I belA
      go_wp2_with fail
      rw [← HV.out]
      refine (PA.out c.ser cn c.sc c.sa V IV.bel segc HCN.out).mono ?_
      rintro e w1 ⟨rfl, b1⟩
      rw [← HOA.out, ← HX.out]
      have I1 := IV.call b1
      have F2 := below_block b1 F1
      obtain ⟨x0, x1, _, _⟩ := two_cells F2
      obtain ⟨z0, z1, _, _⟩ := two_cells I1.b2
      clear c0 c1 y0 y1 l1' IV F1 b1 HV HX hX
      generalize hqa : oi oA = qa
      generalize hka : ob oA = ka
      have HQA := hide hqa
      have HKA := hide hka
      clear hqa hka
      go_wp2_with fail
      refine (PB.out c.ser cn c.sc c.sa w1 I1.bel segc HCN.out).mono ?_
      rintro e w2 ⟨rfl, b2⟩
      rw [← HOB.out]
      have I2 := I1.call b2
      have F3 := below_block b2 F2
      clear x0 x1 z0 z1 I1 F2 b2
      generalize hqb : oi oB = qb
      generalize hkb : ob oB = kb
      have HQB := hide hqb
      have HKB := hide hkb
      clear hqb hkb
      cases ka with
      | false =>
        have HB2 : Hid (binA A B x [] (cls fl) = binA A B x (cls cts) (cls (fl.drop (k + 1)))) := by
          show _ = _
          rw [HB.out, HD.out, binA_no (.inl ?_)]
          show atM A c.ser = none
          rw [← HOA.out]
          have := HKA.out
          cases oA with
          | none => rfl
          | some v => simp [ob] at this
        clear HB HD
        go_wp2
        go_roundw
        case rel => exact ⟨k + 1, N, d, co, cts, by omega, by go_num, by omega, I2, HB2⟩
        case measure => simp [intOf]; omega
      | true =>
        have hoa : oA = some qa := by
          have h1 := HKA.out
          have h2 := HQA.out
          cases oA with
          | none => simp [ob] at h1
          | some v => simp [oi] at h2; rw [h2]
        have HSA := hide hoa
        clear hoa
        cases kb with
        | false =>
          have HB2 : Hid (binA A B x [] (cls fl) = binA A B x (cls cts) (cls (fl.drop (k + 1)))) := by
            show _ = _
            rw [HB.out, HD.out, binA_no (.inr ?_)]
            show atM B c.ser = none
            rw [← HOB.out]
            have := HKB.out
            cases oB with
            | none => rfl
            | some v => simp [ob] at this
          clear HB HD
          go_wp2
          go_roundw
          case rel => exact ⟨k + 1, N, d, co, cts, by omega, by go_num, by omega, I2, HB2⟩
          case measure => simp [intOf]; omega
        | true =>
          have hob : oB = some qb := by
            have h1 := HKB.out
            have h2 := HQB.out
            cases oB with
            | none => simp [ob] at h1
            | some v => simp [oi] at h2; rw [h2]
          have ha : atM A c.cl.1 = some qa := by show atM A c.ser = _; rw [← HOA.out, HSA.out]
          have hb' : atM B c.cl.1 = some qb := by show atM B c.ser = _; rw [← HOB.out, hob]
          have bA := FA.out _ _ ha
          have bB := FB.out _ _ hb'
          obtain ⟨R, hR⟩ : ∃ R, R = wkd x qa qb := ⟨_, rfl⟩
          have PW : Hid (∀ w', Calls Tryz.prog 77 #[.string x, .int .i64 qa, .int .i64 qb] w' fun e w'' => e = .returned (.tuple #[.int .i64 (ov R), .int .i64 (oe R)]) ∧ w'' = w') := fun w' => by rw [hR]; exact mworked_any x qa qb w' bA bB
          have HR2 := hide hR
          have HA2 := hide ha
          have HB2 := hide hb'
          clear hob ha hb' bA bB hR HOA HOB HQA HQB HKA HKB HSA
          go_wp2_with fail
          refine (PW.out w2).mono ?_
          intro e w3 hh
          rw [hh.1, hh.2]
          clear hh PW
          cases R with
          | none =>
            have HE : Hid (binM A B x = none) := by
              show _ = _
              rw [HR.out, HB.out, HD.out, binA_bad HA2.out HB2.out HR2.out.symm]; rfl
            obtain ⟨t0, t1, t2, t3⟩ := two_cells I2.b3
            have bel2 := I2.bel
            simp only [ov, oe]
            clear HR HB HD HA2 HB2 HR2 I2 F3
            go_wp2
            exact bodyPost_ret (v := .tuple #[.agg #[.bool false, .slice none 0 0], .int .i64 3]) (by simp [results, Tryz.results54, go_sem, t0, t1]) rfl ⟨.inl ⟨HE.out, rfl⟩, (bel2.setCell (by show w.heap.size ≤ w.heap.size + 1 + 1; omega) _).setCell (by show w.heap.size ≤ w.heap.size + 1 + 1; omega) _⟩
          | some v =>
            have HB3 : Hid (binA A B x [] (cls fl) = binA A B x (cls (cts ++ [⟨c.ser, v, c.sa, c.sc⟩])) (cls (fl.drop (k + 1)))) := by
              show _ = _
              rw [HB.out, HD.out, binA_yes HA2.out HB2.out HR2.out.symm, cls_append]
              rfl
            simp only [ov, oe]
            clear HB HD HA2 HB2 HR2
            obtain ⟨x0, x1, _, _⟩ := two_cells F3
            obtain ⟨t0, t1, t2, t3⟩ := two_cells I2.b5
            have l5 : w.heap.size + 1 + 1 + 1 + 1 < w2.heap.size := lt_of_block I2.b5
            have belB : Below w2.heap.size w2 (w2.alloc (.cells #[.slice c.sa cn c.sc, .int .i64 v] 57)) := (Below.refl _ _).alloc (Nat.le_refl _) _
            have IA := I2.call belB
            clear I2
            go_wp2_with (at_builtin; refine wpList_append_lies _ rfl _ _ 28 rfl (w.heap.size + 5) 57 i0 (.agg #[.slice none 0 0, .int .i64 0]) 2 32 Tryz.underlying28 hi hz0 hz1 hz2 rfl (by decide) _ _ _ rfl IA.own ⟨w2.heap.size, 0, none⟩ 1 1 [.slice c.sa cn c.sc, .int .i64 v] rfl rfl (news_two rfl _ _ _) (by simp [Value.oneCell']) (by decide) (by unfold maxLen; omega) (by omega) (by simp; omega) (w2.heap.size + 1) (by simp) ?_)
            intro g' cp' wz ownZ grZ hatZ hltZ
            have IP := IA.push ⟨c.ser, v, c.sa, c.sc⟩ HSL.out (by rw [← HCN.out]; exact ownZ) grZ
            have K5 := IA.kept grZ
            obtain ⟨t0, t1, t2, t3⟩ := two_cells K5
            clear ownZ grZ hatZ hltZ IA belB K5
            go_wp2
            go_roundw
            case rel => exact ⟨k + 1, N + 1, cp', _, _, by omega, by go_num, by omega, IP, HB3⟩
            case measure => simp [intOf]; omega
    · have he : k = NF := by omega
      subst he
      have hd : fl.drop k = [] := List.drop_eq_nil_of_le (by rw [← HNF.out]; exact Nat.le_refl _)
      have HE : Hid (binM A B x = some ⟨fb, cls cts⟩) := by
        show _ = _
        rw [HR.out, HB.out, hd]; rfl
      have bel := I.bel
      have hlen : Hid (N = cts.length) := by
        have := I.own.1
        rw [ccells_length] at this
        show _ = _
        omega
      obtain ⟨ao', c', hv, hseg, _⟩ := own_open I.own
      simp only [Value.slice.injEq] at hv
      obtain ⟨rfl, -, rfl⟩ := hv
      have own := I.own
      have HSR := hide I.ser
      obtain ⟨t0, t1, t2, t3⟩ := two_cells I.b5
      obtain ⟨r0, r1, r2, r3⟩ := two_cells I.b3
      clear HB hd I HR HNF hseg
      go_wp2
      refine bodyPost_ret (v := .tuple #[.agg #[.bool fb, .slice co N d], .int .i64 0]) (by simp [results, Tryz.results54, go_sem, r0, r1]) rfl ?_
      have bel2 : Below w.heap.size w ((wr.setCell ⟨w.heap.size + 1 + 1, 0, none⟩ (.bool fb)).setCell ⟨w.heap.size + 1 + 1, 1, none⟩ (.slice co N d)) := (bel.setCell (by show w.heap.size ≤ w.heap.size + 1 + 1; omega) _).setCell (by show w.heap.size ≤ w.heap.size + 1 + 1; omega) _
      have own2 := ownsRow_setCell_below (ownsRow_setCell_below own (a := ⟨w.heap.size + 1 + 1, 0, none⟩) (by show w.heap.size + 1 + 1 < w.heap.size + 5; omega) (.bool fb)) (a := ⟨w.heap.size + 1 + 1, 1, none⟩) (by show w.heap.size + 1 + 1 < w.heap.size + 5; omega) (.slice co N d)
      obtain ⟨ao', c', hv, hseg, _⟩ := own_open own2
      simp only [Value.slice.injEq] at hv
      obtain ⟨rfl, -, rfl⟩ := hv
      exact ⟨.inr ⟨fb, cts, co, N, d, rfl, HE.out, hlen.out, ⟨hseg, fun c hc => ((HSR.out c hc).below bel2).1, own_typ own2, fun c hc => ((HSR.out c hc).below bel2).2⟩⟩, bel2⟩

end Go.Proofs.YthohkokhimdamaaGreat

/-
  slices.Insert at cells.
-/
namespace Go.GrainU
open Go.RowKit Go.Proofs

/-- copy, of elements of two cells -/
theorem run_copy2 {P : Program} (w : World) (dT sT ty elem : TypeId) (b o dLen dCap : Nat) (a : Addr) (sLen sCap : Nat) (cs : List Value)
    (hu : P.underlying dT = some (.slice elem)) (hs : (P.info? elem).map (·.size) = some 2) (hn : cs.length = Nat.min sLen dLen * 2)
    (hsrc : ∀ j v, cs[j]? = some v → w.cell? (a.add j) = some v) (hc : ∀ j, j < cs.length → (w.cell? ⟨b, o + j, none⟩).isSome = true) (hf : ∀ j, j < cs.length → w.frozen? ⟨b, o + j, none⟩ = false) (h1 : ∀ v ∈ cs, v.oneCell' = true) :
    (Builtin.copy_ #[dT, sT] ty #[.slice (some ⟨b, o, none⟩) dLen dCap, .slice (some a) sLen sCap]).run P w = .ok (goInt (Nat.min sLen dLen)) (w.setCells b o cs) := by
  have hl := run_loadCells_list (P := P) w a cs hsrc
  have hst := run_storeCells_cells (P := P) b o cs 0 w (by simpa using hc) (by simpa using hf) h1
  cases hq : P.info? elem with
  | none => simp [hq] at hs
  | some i =>
    have hi : i.size = 2 := by simpa [hq] using hs
    simp [Builtin.copy_, run_underlying hu, Builtin.lenOf, Builtin.firstCells, sizeOf, typeInfo, hq, hi, ← hn, hl, hst]

/-- cells written one by one: the block stays, and all others do -/
theorem setCells_block (b : Nat) : ∀ (vs : List Value) (o : Nat) (w : World) (cur : Array Value) (e : TypeId) (fr : Nat × Nat), w.heap[b]? = some (.cells cur e fr) → ∃ cur', (w.setCells b o vs).heap[b]? = some (.cells cur' e fr) ∧ cur'.size = cur.size
  | [], _, _, cur, _, _, h => ⟨cur, h, rfl⟩
  | v :: r, o, w, cur, e, fr, h => by
    have h1 : ∃ c1, (w.setCell ⟨b, o, none⟩ v).heap[b]? = some (.cells c1 e fr) ∧ c1.size = cur.size := by
      simp [World.setCell, Array.getElem?_modify, h]
    obtain ⟨c1, h2, h3⟩ := h1
    obtain ⟨c2, h4, h5⟩ := setCells_block b r (o + 1) _ c1 e fr h2
    exact ⟨c2, h4, h5.trans h3⟩

theorem setCells_far (b : Nat) : ∀ (vs : List Value) (o : Nat) (w : World) (k : Nat), k ≠ b → (w.setCells b o vs).heap[k]? = w.heap[k]?
  | [], _, _, _, _ => rfl
  | v :: r, o, w, k, h => by rw [World.setCells, setCells_far b r (o + 1) _ k h, setCell_far h]

theorem setCells_grown (b : Nat) : ∀ (vs : List Value) (o : Nat) (w : World), w.grownBy (w.setCells b o vs) (some b)
  | [], _, _ => ⟨rfl, rfl, rfl, Nat.le_refl _, fun _ _ _ => rfl⟩
  | v :: r, o, w => by
    have h1 : w.grownBy (w.setCell ⟨b, o, none⟩ v) (some b) := ⟨rfl, rfl, rfl, by simp [World.setCell], fun k _ hne => setCell_far (fun e => hne (by rw [e]))⟩
    exact grown_trans h1 (setCells_grown b r (o + 1) _) (fun k hk => .inl hk)

theorem drew_grown (w : World) (r : Option Nat) : w.grownBy w.drew r := ⟨rfl, rfl, rfl, Nat.le_refl _, fun _ _ _ => rfl⟩

/-- a row, told by its cells -/
theorem own_of_cells {w : World} {base e size g n cap : Nat} {cur : Array Value} {xs : List Value} (h : w.heap[g]? = some (.cells cur e (0, 0))) (hb : base ≤ g) (hnc : n ≤ cap) (hcm : cap ≤ maxLen) (hsz : cur.size = cap * size) (hl : xs.length = n * size)
    (hc : ∀ j, j < xs.length → w.cell? ⟨g, j, none⟩ = xs[j]?) : w.ownsRow base e size (.slice (some ⟨g, 0, none⟩) n cap) n xs := by
  refine ⟨hl, .inr ⟨g, cap, cur, rfl, hb, h, hnc, hcm, hsz, ?_⟩⟩
  apply List.ext_getElem?
  intro j
  by_cases hj : j < xs.length
  · rw [← hc j hj, List.getElem?_take, if_pos (by omega)]
    simp [World.cell?, h]
  · have hle : n * size ≤ cap * size := Nat.mul_le_mul_right _ hnc
    rw [List.getElem?_eq_none (by rw [List.length_take]; omega), List.getElem?_eq_none (by omega)]

/-- the cells behind an insertion in place -/
theorem ins_cells {w : World} {g N p : Nat} {xs vs : List Value} (hl : xs.length = N * 2) (hv : vs.length = 2) (hp : p ≤ N) (hc : ∀ j, j < xs.length → w.cell? ⟨g, j, none⟩ = xs[j]?) (hs : ∀ j, j < (N + 1) * 2 → (w.cell? ⟨g, j, none⟩).isSome = true) :
    ∀ j, j < (N + 1) * 2 → ((w.setCells g ((p + 1) * 2) (xs.drop (p * 2))).setCells g (p * 2) vs).cell? ⟨g, j, none⟩ = (xs.take (p * 2) ++ (vs ++ xs.drop (p * 2)))[j]? := by
  intro j hj
  have hdl : (xs.drop (p * 2)).length = N * 2 - p * 2 := by rw [List.length_drop, hl]
  have htl : (xs.take (p * 2)).length = p * 2 := by rw [List.length_take, hl]; omega
  rcases Nat.lt_or_ge j (p * 2) with h | h
  · rw [World.cell?_setCells_out _ _ _ _ _ (fun _ _ => .inl h), World.cell?_setCells_out _ _ _ _ _ (fun _ _ => .inl (by show j < _; omega)), hc j (by omega), List.getElem?_append_left (by omega), List.getElem?_take, if_pos h]
  · rcases Nat.lt_or_ge j (p * 2 + 2) with h' | h'
    · have := World.cell?_setCells_in g vs (p * 2) (w.setCells g ((p + 1) * 2) (xs.drop (p * 2))) (fun i hi => isSome_setCells _ _ _ _ (fun t ht => hs _ (by omega)) _ (hs _ (by omega))) (j - p * 2) (by omega)
      rw [show p * 2 + (j - p * 2) = j by omega] at this
      rw [this, List.getElem?_append_right (by omega), htl, List.getElem?_append_left (by omega), List.getElem?_eq_getElem]
    · rw [World.cell?_setCells_out _ _ _ _ _ (fun _ _ => .inr (by show _ ≤ j; omega))]
      have := World.cell?_setCells_in g (xs.drop (p * 2)) ((p + 1) * 2) w (fun i hi => hs _ (by omega)) (j - (p + 1) * 2) (by omega)
      rw [show (p + 1) * 2 + (j - (p + 1) * 2) = j by omega] at this
      rw [this, List.getElem?_append_right (by omega), htl, List.getElem?_append_right (by omega), hv, ← List.getElem?_eq_getElem]
      congr 1
      omega

theorem ccells_one (l : List CT) : ∀ u ∈ ccells l, u.oneCell' = true := by
  induction l with
  | nil => intro u hu; simp [ccells] at hu
  | cons s r ih =>
    intro u hu
    simp only [ccells, List.mem_cons] at hu
    rcases hu with e | e | e
    · subst e; rfl
    · subst e; rfl
    · exact ih u e

theorem ccells_take (l : List CT) : ∀ m, ccells (l.take m) = (ccells l).take (m * 2) := by
  induction l with
  | nil => intro m; simp [ccells]
  | cons s r ih =>
    intro m
    match m with
    | 0 => simp [ccells]
    | m + 1 => rw [show (m + 1) * 2 = m * 2 + 1 + 1 from by omega]; simp [ccells, ih]

theorem ccells_drop (l : List CT) : ∀ m, ccells (l.drop m) = (ccells l).drop (m * 2) := by
  induction l with
  | nil => intro m; simp [ccells]
  | cons s r ih =>
    intro m
    match m with
    | 0 => simp
    | m + 1 => rw [show (m + 1) * 2 = m * 2 + 1 + 1 from by omega]; simp [ccells, ih]

end Go.GrainU
