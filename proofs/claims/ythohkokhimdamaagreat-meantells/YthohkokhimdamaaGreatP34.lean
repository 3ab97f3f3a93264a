/-
  The walk of what is wrong with an expression: the document's.
-/
import Derived.Test.YthohkokhimdamaaGreatP19
import Derived.MapKept
/-
  The map of kinds that the document's answer is made with: four entries, looked into.
-/
namespace Go.Proofs.YthohkokhimdamaaGreat
open Go.RowKit Go.GrainU

/-- an entry -/
def kme (k v : Int) (b : Nat) : MapEntry := { key := .int .i64 k, val := .int .i64 v, born := b }

theorem kset_new (W : World) (o o' : Obj) : ({ W.alloc o with heap := (W.alloc o).heap.setIfInBounds W.heap.size o' } : World) = W.alloc o' := by
  have : (W.alloc o).heap = W.heap.push o := rfl
  have h2 : (W.alloc o').heap = W.heap.push o' := rfl
  show World.mk _ _ _ _ _ = World.mk _ _ _ _ _
  congr 1
  show (W.heap.push o).setIfInBounds W.heap.size o' = W.heap.push o'
  apply Array.ext
  · simp
  · intro i h1 h3
    simp at h1 h3
    by_cases e : i = W.heap.size
    · subst e; simp
    · rw [Array.getElem_setIfInBounds_ne (by simp; omega) (Ne.symm e)]
      simp [Array.getElem_push, show i < W.heap.size from by omega]

theorem kmap_put {W : World} {B : Nat} (hB : W.heap.size = B) (es : Array MapEntry) (c : Nat) (k v : Int) (hf : Instr.findNow (.int .i64) (.int .i64 k) es.toList 0 = some none) :
    (Instr.mapUpdate 112 (.map (some B)) (.int .i64 k) (.int .i64 v)).run Tryz.prog (W.alloc (.map es c)) = .ok () (W.alloc (.map (es.push (kme k v c)) (c + 1))) := by
  subst hB
  have hb : (W.alloc (.map es c)).heap[W.heap.size]? = some (.map es c) := heap_alloc_new W _
  have hc : (Instr.checkKey false 10000 3 (.int .i64 k)).run Tryz.prog (W.alloc (.map es c)) = .ok () (W.alloc (.map es c)) := MapKept.run_checkKey (k := .int .i64 k) Tryz.underlying3 (by simp [MapKept.IsKey]) false 9999
  have hs := kset_new W (.map es c) (.map (es.push (kme k v c)) (c + 1))
  simp [Instr.mapUpdate, run_underlying Tryz.underlying112, MapKept.run_getObj_map hb, hc, MapKept.run_findKey Tryz.underlying3 hf, MapKept.run_setObj_map _ hb, Result.andThen]
  exact hs

theorem kmap_get {W : World} {B : Nat} (hB : W.heap.size = B) (es : Array MapEntry) (c : Nat) (k : Int) (r : Int) (ok : Bool) (hf : (∃ i, Instr.findNow (.int .i64) (.int .i64 k) es.toList 0 = some (some (i, .int .i64 r)) ∧ ok = true) ∨ (Instr.findNow (.int .i64) (.int .i64 k) es.toList 0 = some none ∧ r = 0 ∧ ok = false)) :
    (Instr.lookup 112 (.map (some B)) (.int .i64 k) true).run Tryz.prog (W.alloc (.map es c)) = .ok (.tuple #[.int .i64 r, .bool ok]) (W.alloc (.map es c)) := by
  subst hB
  have hb : (W.alloc (.map es c)).heap[W.heap.size]? = some (.map es c) := heap_alloc_new W _
  have hc : (Instr.checkKey es.isEmpty 10000 3 (.int .i64 k)).run Tryz.prog (W.alloc (.map es c)) = .ok () (W.alloc (.map es c)) := MapKept.run_checkKey (k := .int .i64 k) Tryz.underlying3 (by simp [MapKept.IsKey]) es.isEmpty 9999
  have hz : (zeroValue 3).run Tryz.prog (W.alloc (.map es c)) = .ok (.int .i64 0) (W.alloc (.map es c)) := by
    simp [zeroValue, go_sem, Tryz.t3]
  rcases hf with ⟨i, hf, rfl⟩ | ⟨hf, rfl, rfl⟩
  · simp [Instr.lookup, run_underlying Tryz.underlying112, MapKept.run_getObj_map hb, hc, MapKept.run_findKey Tryz.underlying3 hf, Result.andThen]
  · simp [Instr.lookup, run_underlying Tryz.underlying112, MapKept.run_getObj_map hb, hc, MapKept.run_findKey Tryz.underlying3 hf, hz, Result.andThen]

/-- the map -/
def kes : Array MapEntry := #[kme 1 0 0, kme 2 0 1, kme 3 1 2, kme 4 2 3]

theorem kmap_all {W : World} {B : Nat} (hB : W.heap.size = B) (kd : Int) :
    (Instr.mapUpdate 112 (.map (some B)) (.int .i64 1) (.int .i64 0)).run Tryz.prog (W.alloc (.map #[] 0)) = .ok () (W.alloc (.map #[kme 1 0 0] 1)) ∧
    (Instr.mapUpdate 112 (.map (some B)) (.int .i64 2) (.int .i64 0)).run Tryz.prog (W.alloc (.map #[kme 1 0 0] 1)) = .ok () (W.alloc (.map #[kme 1 0 0, kme 2 0 1] 2)) ∧
    (Instr.mapUpdate 112 (.map (some B)) (.int .i64 3) (.int .i64 1)).run Tryz.prog (W.alloc (.map #[kme 1 0 0, kme 2 0 1] 2)) = .ok () (W.alloc (.map #[kme 1 0 0, kme 2 0 1, kme 3 1 2] 3)) ∧
    (Instr.mapUpdate 112 (.map (some B)) (.int .i64 4) (.int .i64 2)).run Tryz.prog (W.alloc (.map #[kme 1 0 0, kme 2 0 1, kme 3 1 2] 3)) = .ok () (W.alloc (.map #[kme 1 0 0, kme 2 0 1, kme 3 1 2, kme 4 2 3] 4)) ∧
    (Instr.lookup 112 (.map (some B)) (.int .i64 kd) true).run Tryz.prog (W.alloc (.map #[kme 1 0 0, kme 2 0 1, kme 3 1 2, kme 4 2 3] 4)) = .ok (.tuple #[.int .i64 (kidsK kd).1, .bool (kidsK kd).2]) (W.alloc (.map #[kme 1 0 0, kme 2 0 1, kme 3 1 2, kme 4 2 3] 4)) := by
  refine ⟨kmap_put hB #[] 0 1 0 rfl, kmap_put hB #[kme 1 0 0] 1 2 0 (by simp [Instr.findNow, Instr.sameNow, kme]), kmap_put hB #[kme 1 0 0, kme 2 0 1] 2 3 1 (by simp [Instr.findNow, Instr.sameNow, kme]), kmap_put hB #[kme 1 0 0, kme 2 0 1, kme 3 1 2] 3 4 2 (by simp [Instr.findNow, Instr.sameNow, kme]), kmap_get hB _ _ kd _ _ ?_⟩
  by_cases h1 : kd = 1
  · subst h1; left; exact ⟨0, by simp [Instr.findNow, Instr.sameNow, kme, kidsK], by simp [kidsK]⟩
  by_cases h2 : kd = 2
  · subst h2; left; exact ⟨1, by simp [Instr.findNow, Instr.sameNow, kme, kidsK], by simp [kidsK]⟩
  by_cases h3 : kd = 3
  · subst h3; left; exact ⟨2, by simp [Instr.findNow, Instr.sameNow, kme, kidsK], by simp [kidsK]⟩
  by_cases h4 : kd = 4
  · subst h4; left; exact ⟨3, by simp [Instr.findNow, Instr.sameNow, kme, kidsK], by simp [kidsK]⟩
  right
  exact ⟨by simp [Instr.findNow, Instr.sameNow, kme, show (kd == 1) = false from by simpa using h1, show (kd == 2) = false from by simpa using h2, show (kd == 3) = false from by simpa using h3, show (kd == 4) = false from by simpa using h4], by simp [kidsK, h1, h2, h3, h4], by simp [kidsK, h1, h2, h3, h4]⟩

end Go.Proofs.YthohkokhimdamaaGreat

/-
  The walk of what is wrong with an expression: the document's.
-/
namespace Go.Proofs.YthohkokhimdamaaGreat
open Go.RowKit Go.GrainU

set_option maxHeartbeats 8000000 in
set_option maxRecDepth 100000 in
theorem rshape_any : ∀ t : ET, ∀ (w0 w : World) (N : Nat) (d n : Int), t.In w0 → Below w0.heap.size w0 w → w0.heap.size ≤ N → w.heap[N]? = some (.cells #[.int .i64 n] 3 (0, 0)) → 0 ≤ n → n ≤ 100 → 0 ≤ d → d ≤ 1000 →
    Calls Tryz.prog 51 #[eval t, .int .i64 d, .pointer (some ⟨N, 0, none⟩)] w fun e w' => e = .returned (.int .i64 (wr t.ex d n).1) ∧ w'.heap[N]? = some (.cells #[.int .i64 (wr t.ex d n).2] 3 (0, 0)) ∧ w.grownBy w' (some N) := by
  refine ET.ind ?_
  intro h s kids ih w0 w N d n hin hbel hN hcnt hn0 hn1 hd0 hd1
  obtain ⟨c0, t0, hlN⟩ := one_cell7 hcnt
  obtain ⟨kd, nn, rg, wd, ms, bs⟩ := h
  obtain ⟨ma, mc, ba, bc, ka, kc⟩ := s
  simp only [ET.In] at hin
  obtain ⟨⟨hM, hB, hK⟩, ⟨lM, lB, lK, lW, fM, fB, _⟩, hL⟩ := hin
  obtain ⟨R, hR⟩ : ∃ R, R = wr (ET.ex (.node ⟨kd, nn, rg, wd, ms, bs⟩ ⟨ma, mc, ba, bc, ka, kc⟩ kids)) d n := ⟨_, rfl⟩
  obtain ⟨A, hA⟩ : ∃ A, A = alone ⟨kd, nn, rg, wd, ms, bs⟩ kids.length := ⟨_, rfl⟩
  rw [← hR]
  rw [wr_of, ← hA] at hR
  show Calls Tryz.prog _ #[.agg #[.int .i64 kd, .int .i64 nn, .int .i64 rg, .string wd, .slice ma ms.length mc, .slice ba bs.length bc, .slice ka kids.length kc], .int .i64 d, .pointer (some ⟨N, 0, none⟩)] w _
  obtain ⟨ml, hml⟩ : ∃ x, x = ms.length := ⟨_, rfl⟩
  obtain ⟨bl, hbl⟩ : ∃ x, x = bs.length := ⟨_, rfl⟩
  obtain ⟨kl, hkl⟩ : ∃ x, x = kids.length := ⟨_, rfl⟩
  rw [← hkl] at lK hA ⊢
  rw [← hml] at lM ⊢
  rw [← hbl] at lB ⊢
  obtain ⟨Re, Rn⟩ := R
  have HR := hide hR
  have HA := hide hA
  have HKL := hide hkl
  have HML := hide hml
  have HBL := hide hbl
  have HFM := hide fM
  have HFB := hide fB
  clear hR hA hkl hml hbl fM fB
  obtain ⟨V, hV⟩ : ∃ V, V = (w.setCell ⟨N, 0, none⟩ (.int .i64 (n + 1))).alloc (.cells #[.int .i64 kd, .int .i64 nn, .int .i64 rg, .string wd, .slice ma ml mc, .slice ba bl bc, .slice ka kl kc] 27) := ⟨_, rfl⟩
  have gr0 : w.grownBy V (some N) := by rw [hV]; exact grown_trans grown_set1 (World.grownBy_alloc _ _ none) (fun _ hk => by cases hk)
  have FN : V.heap[N]? = some (.cells #[.int .i64 (n + 1)] 3 (0, 0)) := by rw [hV, Below.heap_alloc _ _ _ (by simpa using hlN)]; exact one_set7 hcnt _
  have F0 : V.heap[w.heap.size]? = some (.cells #[.int .i64 kd, .int .i64 nn, .int .i64 rg, .string wd, .slice ma ml mc, .slice ba bl bc, .slice ka kl kc] 27 (0, 0)) := by
    have := heap_alloc_new (w.setCell ⟨N, 0, none⟩ (.int .i64 (n + 1))) (.cells #[.int .i64 kd, .int .i64 nn, .int .i64 rg, .string wd, .slice ma ml mc, .slice ba bl bc, .slice ka kl kc] 27)
    rw [hV]; simpa using this
  have hVs : V.heap.size = w.heap.size + 1 := by rw [hV]; simp
  have HV := hide hV
  by_cases h1 : 100 < n + 1
  · have HQ : Hid (Re = 4 ∧ Rn = n + 1) := by show _ ∧ _; have := HR.out; rw [if_pos (.inl h1)] at this; simpa using this
    clear HR hV
    go_enter Tryz.func51, Tryz.ntmps51
    go_wp2_with fail
    go_ret
    exact ⟨ret_int (a := 4) HQ.out.1.symm, by rw [← HV.out, HQ.out.2]; exact FN, by rw [← HV.out]; exact gr0⟩
  by_cases h2 : 20 < d
  · have HQ : Hid (Re = 4 ∧ Rn = n + 1) := by show _ ∧ _; have := HR.out; rw [if_pos (.inr h2)] at this; simpa using this
    clear HR hV
    go_enter Tryz.func51, Tryz.ntmps51
    go_wp2_with fail
    go_ret
    exact ⟨ret_int (a := 4) HQ.out.1.symm, by rw [← HV.out, HQ.out.2]; exact FN, by rw [← HV.out]; exact gr0⟩
  rw [if_neg (by omega)] at HR
  have HE : Hid (∀ c : Int, c ≠ 0 → A = c → Re = c ∧ Rn = n + 1) := by
    intro c hc e
    have := HR.out
    rw [if_neg (by rw [e]; exact hc), e] at this
    simpa using this
  have HOK : Hid (A = 0 → (Re, Rn) = wrL (exL kids) (d + 1) (n + 1)) := by
    intro e
    have := HR.out
    rw [if_pos e] at this
    exact this
  clear HR
  obtain ⟨M, hM'⟩ : ∃ M, M = V.alloc (.map #[kme 1 0 0, kme 2 0 1, kme 3 1 2, kme 4 2 3] 4) := ⟨_, rfl⟩
  have belVM : Below V.heap.size V M := by rw [hM']; exact (Below.refl _ _).alloc (Nat.le_refl _) _
  have grM : w.grownBy M (some N) := grown_call gr0 belVM
  have FNM := below_block belVM FN
  have FM := below_block belVM F0
  have belM : Below w0.heap.size w0 M := hbel.grown grM hbel.size (fun j hj => by cases hj; exact hN)
  have HMs : Hid (M.heap.size = w.heap.size + 1 + 1) := by show _ = _; rw [hM', hV]; simp
  have HMe := hide (hM'.trans (by rw [hV]))
  have HFM0 := hide FM
  obtain ⟨i1, i2, i3, i4, i5⟩ := kmap_all hVs kd
  rw [hV] at i1 i2 i3 i4 i5
  have hmm := @run_makeMap Tryz.prog
  clear hM' hV FN F0 HV gr0 belVM hVs
  have R0 : Below M.heap.size M M := Below.refl _ _
  have R1 : Below M.heap.size M M.drew := below_drewN (Below.refl _ M) 1
  have HS : Hid (∀ w', Below M.heap.size M w' → w'.cell? ⟨w.heap.size, 3, none⟩ = some (.string wd)) := fun w' hb => (seven_cells (below_block hb FM)).2.2.2.1
  obtain ⟨p0, p1, p2, p3, p4, p5, p6⟩ := seven_cells FM
  by_cases h1' : kd = 1
  · subst h1'
    have HA1 : Hid (A = if kl = 0 then (if nn < 0 ∨ 1000000 < nn then 3 else 0) else 5) := by show _ = _; rw [HA.out, alone, if_pos rfl]
    simp only [show kidsK 1 = (0, true) from by simp [kidsK]] at i5
    clear HA
    by_cases hk : kl = 0
    · have e0 : ((kl : Int) == 0) = true := by simp [hk]
      have HA2 : Hid (A = if nn < 0 ∨ 1000000 < nn then 3 else 0) := by show _ = _; rw [HA1.out, if_pos hk]
      have HK0 := hide hk
      clear hk HA1
      by_cases g1 : nn < 0
      · have hA3 : Hid (A = 3) := by show _ = _; rw [HA2.out, if_pos (.inl g1)]
        go_enter Tryz.func51, Tryz.ntmps51
        go_wp2_with fail
        rw [← HMe.out]
        go_ret
        exact ⟨ret_int (a := 3) (HE.out 3 (by decide) hA3.out).1.symm, by rw [(HE.out 3 (by decide) hA3.out).2]; exact FNM, grM⟩
      by_cases g2 : 1000000 < nn
      · have hA3 : Hid (A = 3) := by show _ = _; rw [HA2.out, if_pos (.inr g2)]
        go_enter Tryz.func51, Tryz.ntmps51
        go_wp2_with fail
        rw [← HMe.out]
        go_ret
        exact ⟨ret_int (a := 3) (HE.out 3 (by decide) hA3.out).1.symm, by rw [(HE.out 3 (by decide) hA3.out).2]; exact FNM, grM⟩
      have hA0 : A = 0 := by rw [HA2.out, if_neg (by omega)]
      clear HA2
      go_enter Tryz.func51, Tryz.ntmps51
      go_wp2_with fail
      rw [← HMe.out]
      have HQ : Hid ((Re, Rn) = wrL (exL kids) (d + 1) (n + 1)) := HOK.out hA0
      go_loopw [137] (fun i wr => ∃ (k : Nat) (m : Int), k ≤ kl ∧ i = .int .i64 k ∧ Hid (wrL (exL (kids.take k)) (d + 1) (n + 1) = (0, m)) ∧ 0 ≤ m ∧ m ≤ 100 ∧ wr.heap[N]? = some (.cells #[.int .i64 m] 3 (0, 0)) ∧ w.grownBy wr (some N)) (fun i _ => kl - (intOf i).toNat)
      case atStart => exact ⟨0, n + 1, Nat.zero_le _, rfl, by show _ = _; simp [exL, wrL], by omega, by omega, FNM, grM⟩
      case round =>
        obtain ⟨k, m, hk, rfl, HJ, hm0, hm1, FN2, gr2⟩ := hrel
        have bel2 : Below w0.heap.size w0 wr := hbel.grown gr2 hbel.size (fun j hj => by cases hj; exact hN)
        by_cases hlt : k < kl
        · exfalso; have := HK0.out; omega
        · have HX : Hid (0 = Re ∧ m = Rn) := by
            show _ ∧ _
            have := HQ.out
            rw [wrL_end (by have := HKL.out; omega) HJ.out] at this
            simp at this
            exact ⟨this.1.symm, this.2.symm⟩
          go_wp2_with fail
          go_ret
          exact ⟨ret_int (a := 0) HX.out.1, by rw [← HX.out.2]; exact FN2, gr2⟩
    · have e0 : ((kl : Int) == 0) = false := by rw [beq_eq_false_iff_ne]; omega
      have hA3 : Hid (A = 5) := by show _ = _; rw [HA1.out, if_neg hk]
      clear hk HA1
      go_enter Tryz.func51, Tryz.ntmps51
      go_wp2_with fail
      rw [← HMe.out]
      go_ret
      exact ⟨ret_int (a := 5) (HE.out 5 (by decide) hA3.out).1.symm, by rw [(HE.out 5 (by decide) hA3.out).2]; exact FNM, grM⟩
  by_cases h2' : kd = 2
  · subst h2'
    have HA1 : Hid (A = if kl = 0 then winBad ⟨2, nn, rg, wd, ms, bs⟩ else 5) := by show _ = _; rw [HA.out, alone, if_neg (by simp), if_pos rfl]
    simp only [show kidsK 2 = (0, true) from by simp [kidsK]] at i5
    clear HA
    by_cases hk : kl = 0
    · have e0 : ((kl : Int) == 0) = true := by simp [hk]
      have HA2 : Hid (A = winBad ⟨2, nn, rg, wd, ms, bs⟩) := by show _ = _; rw [HA1.out, if_pos hk]
      have HK0 := hide hk
      clear hk HA1
      cases hw : has words8 wd with
      | false =>
        have hA3 : Hid (A = 7) := by show _ = _; rw [HA2.out]; unfold winBad; rw [if_pos hw]
        clear HA2
        go_enter Tryz.func51, Tryz.ntmps51
        go_wp2_with fail
        rw [← HMe.out]
        go_region_held3 (fun w' => w'.cell? ⟨w.heap.size, 3, none⟩ = some (.string wd)) (exact HS.out _ (by assumption))
          (first
            | (go_at_call 68; refine (rwords_any _).mono ?_; rintro e w1 ⟨g, rfl, sg, b1⟩; have R2 := below_step7 b1 (by assumption))
            | (go_at_call 67; refine (rin_any words8 wd _ 8 8 _ (by assumption) rfl (by decide)).mono ?_; intro e w2 hh; rw [hh.1, hh.2, hw]; clear hh))
        have FN1 := below_block R2 FNM
        have gr1 := grown_call grM R2
        go_wp2_with fail
        go_ret
        exact ⟨ret_int (a := 7) (HE.out 7 (by decide) hA3.out).1.symm, by rw [(HE.out 7 (by decide) hA3.out).2]; exact FN1, gr1⟩
      | true =>
        go_enter Tryz.func51, Tryz.ntmps51
        go_wp2_with fail
        rw [← HMe.out]
        go_region_held3 (fun w' => w'.cell? ⟨w.heap.size, 3, none⟩ = some (.string wd)) (exact HS.out _ (by assumption))
          (first
            | (go_at_call 68; refine (rwords_any _).mono ?_; rintro e w1 ⟨g, rfl, sg, b1⟩; have R2 := below_step7 b1 (by assumption))
            | (go_at_call 67; refine (rin_any words8 wd _ 8 8 _ (by assumption) rfl (by decide)).mono ?_; intro e w2 hh; rw [hh.1, hh.2, hw]; clear hh))
        have FN1 := below_block R2 FNM
        have gr1 := grown_call grM R2
        clear i1 i2 i3 i4 i5 p0 p1 p2 p3 p4 p5 p6 hmm
        obtain ⟨p0, p1, p2, p3, p4, p5, p6⟩ := seven_cells (below_block R2 HFM0.out)
        by_cases h5 : 5 < ml
        · have hA3 : Hid (A = 5) := by show _ = _; rw [HA2.out]; unfold winBad; rw [if_neg (by simp [hw]), if_pos (by have := HML.out; simp only; omega)]
          have h5' : (5 : Int) < (ml : Int) := by omega
          clear HA2
          go_wp2_with fail
          go_ret
          exact ⟨ret_int (a := 5) (HE.out 5 (by decide) hA3.out).1.symm, by rw [(HE.out 5 (by decide) hA3.out).2]; exact FN1, gr1⟩
        have h5' : ¬ (5 : Int) < (ml : Int) := by omega
        have HA3 : Hid (A = if msBad ms = 0 then (if rg < 1 ∨ 100000 < rg then 3 else 0) else msBad ms) := by
          show _ = _; rw [HA2.out]; unfold winBad; rw [if_neg (by simp [hw]), if_neg (by have := HML.out; simp only; omega)]
        clear HA2 HS R0 R1 hw FN1 gr1
        go_wp2_with fail
        clear p0 p1 p2 p3 p4 p5 p6
        go_loopw [76] (fun i wr => ∃ k : Nat, k ≤ ml ∧ i = .int .i64 k ∧ Hid (msBad (ms.take k) = 0) ∧ Below M.heap.size M wr) (fun i _ => ml - (intOf i).toNat)
        case atStart => exact ⟨0, Nat.zero_le _, rfl, by show _ = _; simp [msBad], R2⟩
        case round =>
          obtain ⟨k, hk, rfl, HJ, bel⟩ := hrel
          have belw : Below w0.heap.size w0 wr := belM.trans (bel.mono belM.size)
          by_cases hlt : k < ml
          · have hkl : k < ms.length := by rw [← HML.out]; exact hlt
            obtain ⟨b, off, rfl, hbl, hcell⟩ := seg_match hM hkl
            obtain ⟨m, hm⟩ : ∃ m, m = mt ms k := ⟨_, rfl⟩
            obtain ⟨q0, q1, q2⟩ := hcell k hkl
            rw [← hm] at q0 q1 q2
            have c0 := (belw.cell (p := ⟨b, off + k * 3, none⟩) (by exact hbl)).trans q0
            have c1 := (belw.cell (p := ⟨b, off + k * 3 + 1, none⟩) (by exact hbl)).trans q1
            have c2 := (belw.cell (p := ⟨b, off + k * 3 + 2, none⟩) (by exact hbl)).trans q2
            have HF2 := hide (HFM.out m (by rw [hm]; exact mt_mem hkl))
            have Hm := hide hm
            clear q0 q1 q2 hcell hm
            obtain ⟨mk, mkey, mval⟩ := m
            simp only at c0 c1 c2 HF2
            have HX : Hid (∀ c : Int, c ≠ 0 → mBad ⟨mk, mkey, mval⟩ = c → A = c) := by
              intro c hc e
              have e2 : msBad ms = c := by rw [msBad_at hkl HJ.out (by rw [← Hm.out, e]; exact hc), ← Hm.out]; exact e
              rw [HA3.out, e2, if_neg hc]
            have HJ2 : Hid (mBad ⟨mk, mkey, mval⟩ = 0 → msBad (ms.take (k + 1)) = 0) := fun e => msBad_take hkl HJ.out (by rw [← Hm.out]; exact e)
            have belX : Below M.heap.size M (wr.alloc (.cells #[.int .i64 mk, .string mkey, .string mval] 86)) := bel.alloc bel.size _
            have FX : (wr.alloc (.cells #[.int .i64 mk, .string mkey, .string mval] 86)).heap[wr.heap.size]? = some (.cells #[.int .i64 mk, .string mkey, .string mval] 86 (0, 0)) := heap_alloc_new wr _
            have HFX := hide FX
            clear FX
            by_cases g1 : mk < 1
            · have hA3 : Hid (A = 1) := HX.out 1 (by decide) (mBad_lo (.inl g1))
              go_wp2_with fail
              go_ret
              exact ⟨ret_int (a := 1) (HE.out 1 (by decide) hA3.out).1.symm, by rw [(HE.out 1 (by decide) hA3.out).2]; exact (below_block belX FNM), (grown_call grM belX)⟩
            by_cases g2 : 4 < mk
            · have hA3 : Hid (A = 1) := HX.out 1 (by decide) (mBad_lo (.inr g2))
              go_wp2_with fail
              go_ret
              exact ⟨ret_int (a := 1) (HE.out 1 (by decide) hA3.out).1.symm, by rw [(HE.out 1 (by decide) hA3.out).2]; exact (below_block belX FNM), (grown_call grM belX)⟩
            cases hnk : Grain.named mkey with
            | false =>
              have hA3 : Hid (A = 7) := HX.out 7 (by decide) (mBad_key (by omega) (by omega) hnk)
              go_wp2_with fail
              refine (rnamed_any mkey _ HF2.out.1).mono ?_
              rintro e w3 ⟨rfl, b3⟩
              rw [hnk]
              have bel3 : Below M.heap.size M w3 := belX.trans (b3.mono belX.size)
              go_wp2_with fail
              go_ret
              exact ⟨ret_int (a := 7) (HE.out 7 (by decide) hA3.out).1.symm, by rw [(HE.out 7 (by decide) hA3.out).2]; exact (below_block bel3 FNM), (grown_call grM bel3)⟩
            | true =>
              by_cases g3 : mk ≤ 2
              · cases hnv : Grain.named mval with
                | true =>
                  have HJ3 := hide (HJ2.out (by rw [mBad_val (by omega) g3 hnk, if_pos hnv]))
                  go_wp2_with fail
                  refine (rnamed_any mkey _ HF2.out.1).mono ?_
                  rintro e w3 ⟨rfl, b3⟩
                  rw [hnk]
                  have bel3 : Below M.heap.size M w3 := belX.trans (b3.mono belX.size)
                  obtain ⟨x0, x1, x2⟩ := three_cells7 (below_block b3 HFX.out)
                  go_wp2_with fail
                  refine (rnamed_any mval _ HF2.out.2).mono ?_
                  rintro e w4 ⟨rfl, b4⟩
                  rw [hnv]
                  have bel4 : Below M.heap.size M w4 := bel3.trans (b4.mono bel3.size)
                  go_wp2_with fail
                  go_roundw
                  case rel => exact ⟨k + 1, by omega, by go_num, HJ3, bel4⟩
                  case measure => simp [intOf]; omega
                | false =>
                  have hA3 : Hid (A = 7) := HX.out 7 (by decide) (by rw [mBad_val (by omega) g3 hnk, if_neg (by simp [hnv])])
                  go_wp2_with fail
                  refine (rnamed_any mkey _ HF2.out.1).mono ?_
                  rintro e w3 ⟨rfl, b3⟩
                  rw [hnk]
                  have bel3 : Below M.heap.size M w3 := belX.trans (b3.mono belX.size)
                  obtain ⟨x0, x1, x2⟩ := three_cells7 (below_block b3 HFX.out)
                  go_wp2_with fail
                  refine (rnamed_any mval _ HF2.out.2).mono ?_
                  rintro e w4 ⟨rfl, b4⟩
                  rw [hnv]
                  have bel4 : Below M.heap.size M w4 := bel3.trans (b4.mono bel3.size)
                  go_wp2_with fail
                  go_ret
                  exact ⟨ret_int (a := 7) (HE.out 7 (by decide) hA3.out).1.symm, by rw [(HE.out 7 (by decide) hA3.out).2]; exact (below_block bel4 FNM), (grown_call grM bel4)⟩
              · have HJ3 := hide (HJ2.out (mBad_has (by omega) (by omega) hnk))
                go_wp2_with fail
                refine (rnamed_any mkey _ HF2.out.1).mono ?_
                rintro e w3 ⟨rfl, b3⟩
                rw [hnk]
                have bel3 : Below M.heap.size M w3 := belX.trans (b3.mono belX.size)
                obtain ⟨x0, x1, x2⟩ := three_cells7 (below_block b3 HFX.out)
                go_wp2_with fail
                go_roundw
                case rel => exact ⟨k + 1, by omega, by go_num, HJ3, bel3⟩
                case measure => simp [intOf]; omega
          · have HX : Hid (msBad ms = 0) := msBad_end (by have := HML.out; omega) HJ.out
            obtain ⟨p0, p1, p2, p3, p4, p5, p6⟩ := seven_cells (below_block bel HFM0.out)
            have HA4 : Hid (A = if rg < 1 ∨ 100000 < rg then 3 else 0) := by show _ = _; rw [HA3.out, HX.out, if_pos rfl]
            have FN1 := below_block bel FNM
            have gr1 := grown_call grM bel
            clear HA3 HX
            by_cases g1 : rg < 1
            · have hA3 : Hid (A = 3) := by show _ = _; rw [HA4.out, if_pos (.inl g1)]
              go_wp2_with fail
              go_ret
              exact ⟨ret_int (a := 3) (HE.out 3 (by decide) hA3.out).1.symm, by rw [(HE.out 3 (by decide) hA3.out).2]; exact FN1, gr1⟩
            by_cases g2 : 100000 < rg
            · have hA3 : Hid (A = 3) := by show _ = _; rw [HA4.out, if_pos (.inr g2)]
              go_wp2_with fail
              go_ret
              exact ⟨ret_int (a := 3) (HE.out 3 (by decide) hA3.out).1.symm, by rw [(HE.out 3 (by decide) hA3.out).2]; exact FN1, gr1⟩
            have hA0 : A = 0 := by rw [HA4.out, if_neg (by omega)]
            clear HA4 HJ
            go_wp2_with fail
            clear p0 p1 p2 p3 p4 p5 p6 c0 t0 hk hlt
            have HQ : Hid ((Re, Rn) = wrL (exL kids) (d + 1) (n + 1)) := HOK.out hA0
            go_loopw [137] (fun i wr => ∃ (k : Nat) (m : Int), k ≤ kl ∧ i = .int .i64 k ∧ Hid (wrL (exL (kids.take k)) (d + 1) (n + 1) = (0, m)) ∧ 0 ≤ m ∧ m ≤ 100 ∧ wr.heap[N]? = some (.cells #[.int .i64 m] 3 (0, 0)) ∧ w.grownBy wr (some N)) (fun i _ => kl - (intOf i).toNat)
            case atStart => exact ⟨0, n + 1, Nat.zero_le _, rfl, by show _ = _; simp [exL, wrL], by omega, by omega, FN1, gr1⟩
            case round =>
              obtain ⟨k, m, hk, rfl, HJ, hm0, hm1, FN2, gr2⟩ := hrel
              have bel2 : Below w0.heap.size w0 wr := hbel.grown gr2 hbel.size (fun j hj => by cases hj; exact hN)
              by_cases hlt : k < kl
              · exfalso; have := HK0.out; omega
              · have HX : Hid (0 = Re ∧ m = Rn) := by
                  show _ ∧ _
                  have := HQ.out
                  rw [wrL_end (by have := HKL.out; omega) HJ.out] at this
                  simp at this
                  exact ⟨this.1.symm, this.2.symm⟩
                go_wp2_with fail
                go_ret
                exact ⟨ret_int (a := 0) HX.out.1, by rw [← HX.out.2]; exact FN2, gr2⟩
    · have e0 : ((kl : Int) == 0) = false := by rw [beq_eq_false_iff_ne]; omega
      have hA3 : Hid (A = 5) := by show _ = _; rw [HA1.out, if_neg hk]
      clear hk HA1
      go_enter Tryz.func51, Tryz.ntmps51
      go_wp2_with fail
      rw [← HMe.out]
      go_ret
      exact ⟨ret_int (a := 5) (HE.out 5 (by decide) hA3.out).1.symm, by rw [(HE.out 5 (by decide) hA3.out).2]; exact FNM, grM⟩
  by_cases h3' : kd = 3
  · subst h3'
    have HA1 : Hid (A = if kl = 1 then allBad ⟨3, nn, rg, wd, ms, bs⟩ else 5) := by show _ = _; rw [HA.out, alone, if_neg (by simp), if_neg (by simp), if_pos rfl]
    simp only [show kidsK 3 = (1, true) from by simp [kidsK]] at i5
    clear HA
    by_cases hk : kl = 1
    · have e0 : ((kl : Int) == 1) = true := by simp [hk]
      have HA2 : Hid (A = allBad ⟨3, nn, rg, wd, ms, bs⟩) := by show _ = _; rw [HA1.out, if_pos hk]
      clear hk HA1
      cases hw : has totals4 wd with
      | false =>
        have hA3 : Hid (A = 7) := by show _ = _; rw [HA2.out]; unfold allBad; rw [if_pos hw]
        clear HA2
        go_enter Tryz.func51, Tryz.ntmps51
        go_wp2_with fail
        rw [← HMe.out]
        go_region_held3 (fun w' => w'.cell? ⟨w.heap.size, 3, none⟩ = some (.string wd)) (exact HS.out _ (by assumption))
          (first
            | (go_at_call 69; refine (rtotals_any _).mono ?_; rintro e w1 ⟨g, rfl, sg, b1⟩; have R2 := below_step7 b1 (by assumption))
            | (go_at_call 67; refine (rin_any totals4 wd _ 4 4 _ (by assumption) rfl (by decide)).mono ?_; intro e w2 hh; rw [hh.1, hh.2, hw]; clear hh))
        have FN1 := below_block R2 FNM
        have gr1 := grown_call grM R2
        go_wp2_with fail
        go_ret
        exact ⟨ret_int (a := 7) (HE.out 7 (by decide) hA3.out).1.symm, by rw [(HE.out 7 (by decide) hA3.out).2]; exact FN1, gr1⟩
      | true =>
        go_enter Tryz.func51, Tryz.ntmps51
        go_wp2_with fail
        rw [← HMe.out]
        go_region_held3 (fun w' => w'.cell? ⟨w.heap.size, 3, none⟩ = some (.string wd)) (exact HS.out _ (by assumption))
          (first
            | (go_at_call 69; refine (rtotals_any _).mono ?_; rintro e w1 ⟨g, rfl, sg, b1⟩; have R2 := below_step7 b1 (by assumption))
            | (go_at_call 67; refine (rin_any totals4 wd _ 4 4 _ (by assumption) rfl (by decide)).mono ?_; intro e w2 hh; rw [hh.1, hh.2, hw]; clear hh))
        have FN1 := below_block R2 FNM
        have gr1 := grown_call grM R2
        clear i1 i2 i3 i4 i5 p0 p1 p2 p3 p4 p5 p6 hmm
        obtain ⟨p0, p1, p2, p3, p4, p5, p6⟩ := seven_cells (below_block R2 HFM0.out)
        by_cases h5 : 4 < bl
        · have hA3 : Hid (A = 5) := by show _ = _; rw [HA2.out]; unfold allBad; rw [if_neg (by simp [hw]), if_pos (by have := HBL.out; simp only; omega)]
          have h5' : (4 : Int) < (bl : Int) := by omega
          clear HA2
          go_wp2_with fail
          go_ret
          exact ⟨ret_int (a := 5) (HE.out 5 (by decide) hA3.out).1.symm, by rw [(HE.out 5 (by decide) hA3.out).2]; exact FN1, gr1⟩
        have h5' : ¬ (4 : Int) < (bl : Int) := by omega
        have HA3 : Hid (A = if bs.all Grain.named = true then 0 else 7) := by
          show _ = _; rw [HA2.out]; unfold allBad; rw [if_neg (by simp [hw]), if_neg (by have := HBL.out; simp only; omega)]
        clear HA2 HS R0 R1 hw FN1 gr1
        go_wp2_with fail
        clear p0 p1 p2 p3 p4 p5 p6
        go_loopw [126] (fun i wr => ∃ k : Nat, k ≤ bl ∧ i = .int .i64 k ∧ Hid ((bs.take k).all Grain.named = true) ∧ Below M.heap.size M wr) (fun i _ => bl - (intOf i).toNat)
        case atStart => exact ⟨0, Nat.zero_le _, rfl, by show _ = _; simp, R2⟩
        case round =>
          obtain ⟨k, hk, rfl, HJ, bel⟩ := hrel
          have belw : Below w0.heap.size w0 wr := belM.trans (bel.mono belM.size)
          by_cases hlt : k < bl
          · have hkl : k < bs.length := by rw [← HBL.out]; exact hlt
            obtain ⟨b, off, rfl, hbl, hcell⟩ := seg_word hB hkl
            obtain ⟨x, hx⟩ : ∃ x, x = bs.getD k ⟨#[]⟩ := ⟨_, rfl⟩
            have q0 := hcell k hkl
            rw [← hx] at q0
            have c0 := (belw.cell (p := ⟨b, off + k, none⟩) (by exact hbl)).trans q0
            have HF2 := hide (HFB.out x (by rw [hx]; exact getD_mem hkl))
            have Hm := hide hx
            clear q0 hcell hx
            cases hD : Grain.named x with
            | true =>
              have HJ' : Hid ((bs.take (k + 1)).all Grain.named = true) := all_take hkl HJ.out (by rw [← Hm.out]; exact hD)
              go_wp2_with fail
              refine (rnamed_any x _ HF2.out).mono ?_
              rintro e w3 ⟨rfl, b3⟩
              rw [hD]
              have bel3 : Below M.heap.size M w3 := bel.trans (b3.mono bel.size)
              go_wp2_with fail
              go_roundw
              case rel => exact ⟨k + 1, by omega, by go_num, HJ', bel3⟩
              case measure => simp [intOf]; omega
            | false =>
              have hA3 : Hid (A = 7) := by show _ = _; rw [HA3.out, all_at hkl (by rw [← Hm.out]; exact hD)]; rfl
              go_wp2_with fail
              refine (rnamed_any x _ HF2.out).mono ?_
              rintro e w3 ⟨rfl, b3⟩
              rw [hD]
              have bel3 : Below M.heap.size M w3 := bel.trans (b3.mono bel.size)
              go_wp2_with fail
              go_ret
              exact ⟨ret_int (a := 7) (HE.out 7 (by decide) hA3.out).1.symm, by rw [(HE.out 7 (by decide) hA3.out).2]; exact (below_block bel3 FNM), (grown_call grM bel3)⟩
          · have hA0 : A = 0 := by rw [HA3.out, all_end (by have := HBL.out; omega) HJ.out]; rfl
            obtain ⟨p0, p1, p2, p3, p4, p5, p6⟩ := seven_cells (below_block bel HFM0.out)
            have FN1 := below_block bel FNM
            have gr1 := grown_call grM bel
            clear HA3 HJ
            go_wp2_with fail
            clear p0 p1 p2 p3 p4 p5 p6 c0 t0 hk hlt
            have HQ : Hid ((Re, Rn) = wrL (exL kids) (d + 1) (n + 1)) := HOK.out hA0
            go_loopw [137] (fun i wr => ∃ (k : Nat) (m : Int), k ≤ kl ∧ i = .int .i64 k ∧ Hid (wrL (exL (kids.take k)) (d + 1) (n + 1) = (0, m)) ∧ 0 ≤ m ∧ m ≤ 100 ∧ wr.heap[N]? = some (.cells #[.int .i64 m] 3 (0, 0)) ∧ w.grownBy wr (some N)) (fun i _ => kl - (intOf i).toNat)
            case atStart => exact ⟨0, n + 1, Nat.zero_le _, rfl, by show _ = _; simp [exL, wrL], by omega, by omega, FN1, gr1⟩
            case round =>
              obtain ⟨k, m, hk, rfl, HJ, hm0, hm1, FN2, gr2⟩ := hrel
              have bel2 : Below w0.heap.size w0 wr := hbel.grown gr2 hbel.size (fun j hj => by cases hj; exact hN)
              by_cases hlt : k < kl
              · have hkl : k < kids.length := by rw [← HKL.out]; exact hlt
                obtain ⟨b, off, rfl, hbl, hcell⟩ := seg_expr hK hkl
                obtain ⟨t, ht⟩ : ∃ t, t = kids[k] := ⟨_, rfl⟩
                have hc := (hcell k hkl).below bel2
                rw [← ht] at hc
                have hmem : t ∈ kids := by rw [ht]; exact List.getElem_mem hkl
                have HT := hide (inL_mem hL t hmem)
                have Ht := hide ht
                clear ht hcell
                obtain ⟨c0, c1, c2, c3, c4, c5, c6⟩ := hc
                go_wp2_with fail
                have gr3 : w.grownBy (wr.alloc (.cells #[.int .i64 t.hd.kind, .int .i64 t.hd.n, .int .i64 t.hd.range, .string t.hd.word, .slice t.sp.ma t.hd.ms.length t.sp.mc, .slice t.sp.ba t.hd.bs.length t.sp.bc, .slice t.sp.ka t.kids.length t.sp.kc] 27)) (some N) := grown_trans gr2 (World.grownBy_alloc _ _ none) (fun _ hk => by cases hk)
                have bel3 := hbel.grown gr3 hbel.size (fun j hj => by cases hj; exact hN)
                have FN3 : (wr.alloc (.cells #[.int .i64 t.hd.kind, .int .i64 t.hd.n, .int .i64 t.hd.range, .string t.hd.word, .slice t.sp.ma t.hd.ms.length t.sp.mc, .slice t.sp.ba t.hd.bs.length t.sp.bc, .slice t.sp.ka t.kids.length t.sp.kc] 27)).heap[N]? = some (.cells #[.int .i64 m] 3 (0, 0)) := by
                  rw [Below.heap_alloc _ _ _ (one_cell7 FN2).2.2]; exact FN2
                refine (ih t hmem w0 _ N (d + 1) m HT.out bel3 hN FN3 hm0 hm1 (by omega) (by omega)).mono ?_
                rintro e w4 ⟨rfl, FN4, gr4⟩
                have gr5 : w.grownBy w4 (some N) := grown_trans gr3 gr4 (fun _ hk => .inl hk)
                obtain ⟨⟨De, Dn⟩, hD⟩ : ∃ D, D = Go.GrainU.wr t.ex (d + 1) m := ⟨_, rfl⟩
                rw [← hD] at FN4 ⊢
                simp only at FN4 ⊢
                have HD := hide hD
                clear hD gr3 gr4 gr2 FN2 FN3 bel3 bel2
                by_cases hD0 : De = 0
                · have eD : (De == 0) = true := by simp [hD0]
                  have HJ' : Hid (wrL (exL (kids.take (k + 1))) (d + 1) (n + 1) = (0, Dn)) := by
                    show _ = _
                    rw [wrL_take hkl _ HJ.out (by rw [← Ht.out, ← HD.out]; exact hD0), ← Ht.out, ← HD.out]
                  have HM : Hid (0 ≤ Dn ∧ Dn ≤ 100) := by
                    show _ ∧ _
                    obtain ⟨_, q2, q3, _⟩ := wr_ok t.ex (d + 1) m hm0 (by rw [← HD.out]; exact hD0)
                    rw [← HD.out] at q2
                    simp only at q2
                    omega
                  clear hD0
                  go_wp2_with fail
                  go_roundw
                  case rel => exact ⟨k + 1, Dn, by omega, by go_num, HJ', HM.out.1, HM.out.2, FN4, gr5⟩
                  case measure => simp [intOf]; omega
                · have eD : (De == 0) = false := by simp [hD0]
                  have HX2 : Hid (De = Re ∧ Dn = Rn) := by
                    show _ ∧ _
                    have := HQ.out
                    rw [wrL_at hkl _ HJ.out (by rw [← Ht.out, ← HD.out]; exact hD0), ← Ht.out, ← HD.out] at this
                    simp at this
                    exact ⟨this.1.symm, this.2.symm⟩
                  go_wp2_with fail
                  go_ret
                  exact ⟨ret_int (a := De) HX2.out.1, by rw [← HX2.out.2]; exact FN4, gr5⟩
              · have HX : Hid (0 = Re ∧ m = Rn) := by
                  show _ ∧ _
                  have := HQ.out
                  rw [wrL_end (by have := HKL.out; omega) HJ.out] at this
                  simp at this
                  exact ⟨this.1.symm, this.2.symm⟩
                go_wp2_with fail
                go_ret
                exact ⟨ret_int (a := 0) HX.out.1, by rw [← HX.out.2]; exact FN2, gr2⟩
    · have e0 : ((kl : Int) == 1) = false := by rw [beq_eq_false_iff_ne]; omega
      have hA3 : Hid (A = 5) := by show _ = _; rw [HA1.out, if_neg hk]
      clear hk HA1
      go_enter Tryz.func51, Tryz.ntmps51
      go_wp2_with fail
      rw [← HMe.out]
      go_ret
      exact ⟨ret_int (a := 5) (HE.out 5 (by decide) hA3.out).1.symm, by rw [(HE.out 5 (by decide) hA3.out).2]; exact FNM, grM⟩
  by_cases h4' : kd = 4
  · subst h4'
    have HA1 : Hid (A = if kl = 2 then (if has signs3 wd = true then 0 else 7) else 5) := by show _ = _; rw [HA.out, alone, if_neg (by simp), if_neg (by simp), if_neg (by simp), if_pos rfl]
    simp only [show kidsK 4 = (2, true) from by simp [kidsK]] at i5
    clear HA
    by_cases hk : kl = 2
    · have e0 : ((kl : Int) == 2) = true := by simp [hk]
      have HA2 : Hid (A = if has signs3 wd = true then 0 else 7) := by show _ = _; rw [HA1.out, if_pos hk]
      clear hk HA1
      go_enter Tryz.func51, Tryz.ntmps51
      go_wp2_with fail
      rw [← HMe.out]
      have belS : Below M.heap.size M (M.alloc (.cells #[.string ⟨#[43]⟩, .string ⟨#[45]⟩, .string ⟨#[42]⟩] 9)) := (Below.refl _ _).alloc (Nat.le_refl _) _
      have sgS : Seg (M.alloc (.cells #[.string ⟨#[43]⟩, .string ⟨#[45]⟩, .string ⟨#[42]⟩] 9)) (some ⟨w.heap.size + 1 + 1, 0, none⟩) (wcells signs3) := by rw [← HMs.out]; exact seg_words rfl
      refine (rin_any signs3 wd (some ⟨w.heap.size + 1 + 1, 0, none⟩) 3 3 (M.alloc (.cells #[.string ⟨#[43]⟩, .string ⟨#[45]⟩, .string ⟨#[42]⟩] 9)) sgS rfl (by decide)).mono ?_
      intro e w2 hh
      rw [hh.1, hh.2]
      clear hh i1 i2 i3 i4 i5 p0 p1 p2 p3 p4 p5 p6 hmm
      obtain ⟨p0, p1, p2, p3, p4, p5, p6⟩ := seven_cells (below_block belS HFM0.out)
      have FN1 := below_block belS FNM
      have gr1 := grown_call grM belS
      cases hw : has signs3 wd with
      | false =>
        have hA3 : Hid (A = 7) := by show _ = _; rw [HA2.out, if_neg (by simp [hw])]
        go_wp2_with fail
        go_ret
        exact ⟨ret_int (a := 7) (HE.out 7 (by decide) hA3.out).1.symm, by rw [(HE.out 7 (by decide) hA3.out).2]; exact FN1, gr1⟩
      | true =>
        have hA0 : A = 0 := by rw [HA2.out, if_pos hw]
        clear HA2
        go_wp2_with fail
        clear p0 p1 p2 p3 p4 p5 p6 c0 t0
        have HQ : Hid ((Re, Rn) = wrL (exL kids) (d + 1) (n + 1)) := HOK.out hA0
        go_loopw [137] (fun i wr => ∃ (k : Nat) (m : Int), k ≤ kl ∧ i = .int .i64 k ∧ Hid (wrL (exL (kids.take k)) (d + 1) (n + 1) = (0, m)) ∧ 0 ≤ m ∧ m ≤ 100 ∧ wr.heap[N]? = some (.cells #[.int .i64 m] 3 (0, 0)) ∧ w.grownBy wr (some N)) (fun i _ => kl - (intOf i).toNat)
        case atStart => exact ⟨0, n + 1, Nat.zero_le _, rfl, by show _ = _; simp [exL, wrL], by omega, by omega, FN1, gr1⟩
        case round =>
          obtain ⟨k, m, hk, rfl, HJ, hm0, hm1, FN2, gr2⟩ := hrel
          have bel2 : Below w0.heap.size w0 wr := hbel.grown gr2 hbel.size (fun j hj => by cases hj; exact hN)
          by_cases hlt : k < kl
          · have hkl : k < kids.length := by rw [← HKL.out]; exact hlt
            obtain ⟨b, off, rfl, hbl, hcell⟩ := seg_expr hK hkl
            obtain ⟨t, ht⟩ : ∃ t, t = kids[k] := ⟨_, rfl⟩
            have hc := (hcell k hkl).below bel2
            rw [← ht] at hc
            have hmem : t ∈ kids := by rw [ht]; exact List.getElem_mem hkl
            have HT := hide (inL_mem hL t hmem)
            have Ht := hide ht
            clear ht hcell
            obtain ⟨c0, c1, c2, c3, c4, c5, c6⟩ := hc
            go_wp2_with fail
            have gr3 : w.grownBy (wr.alloc (.cells #[.int .i64 t.hd.kind, .int .i64 t.hd.n, .int .i64 t.hd.range, .string t.hd.word, .slice t.sp.ma t.hd.ms.length t.sp.mc, .slice t.sp.ba t.hd.bs.length t.sp.bc, .slice t.sp.ka t.kids.length t.sp.kc] 27)) (some N) := grown_trans gr2 (World.grownBy_alloc _ _ none) (fun _ hk => by cases hk)
            have bel3 := hbel.grown gr3 hbel.size (fun j hj => by cases hj; exact hN)
            have FN3 : (wr.alloc (.cells #[.int .i64 t.hd.kind, .int .i64 t.hd.n, .int .i64 t.hd.range, .string t.hd.word, .slice t.sp.ma t.hd.ms.length t.sp.mc, .slice t.sp.ba t.hd.bs.length t.sp.bc, .slice t.sp.ka t.kids.length t.sp.kc] 27)).heap[N]? = some (.cells #[.int .i64 m] 3 (0, 0)) := by
              rw [Below.heap_alloc _ _ _ (one_cell7 FN2).2.2]; exact FN2
            refine (ih t hmem w0 _ N (d + 1) m HT.out bel3 hN FN3 hm0 hm1 (by omega) (by omega)).mono ?_
            rintro e w4 ⟨rfl, FN4, gr4⟩
            have gr5 : w.grownBy w4 (some N) := grown_trans gr3 gr4 (fun _ hk => .inl hk)
            obtain ⟨⟨De, Dn⟩, hD⟩ : ∃ D, D = Go.GrainU.wr t.ex (d + 1) m := ⟨_, rfl⟩
            rw [← hD] at FN4 ⊢
            simp only at FN4 ⊢
            have HD := hide hD
            clear hD gr3 gr4 gr2 FN2 FN3 bel3 bel2
            by_cases hD0 : De = 0
            · have eD : (De == 0) = true := by simp [hD0]
              have HJ' : Hid (wrL (exL (kids.take (k + 1))) (d + 1) (n + 1) = (0, Dn)) := by
                show _ = _
                rw [wrL_take hkl _ HJ.out (by rw [← Ht.out, ← HD.out]; exact hD0), ← Ht.out, ← HD.out]
              have HM : Hid (0 ≤ Dn ∧ Dn ≤ 100) := by
                show _ ∧ _
                obtain ⟨_, q2, q3, _⟩ := wr_ok t.ex (d + 1) m hm0 (by rw [← HD.out]; exact hD0)
                rw [← HD.out] at q2
                simp only at q2
                omega
              clear hD0
              go_wp2_with fail
              go_roundw
              case rel => exact ⟨k + 1, Dn, by omega, by go_num, HJ', HM.out.1, HM.out.2, FN4, gr5⟩
              case measure => simp [intOf]; omega
            · have eD : (De == 0) = false := by simp [hD0]
              have HX2 : Hid (De = Re ∧ Dn = Rn) := by
                show _ ∧ _
                have := HQ.out
                rw [wrL_at hkl _ HJ.out (by rw [← Ht.out, ← HD.out]; exact hD0), ← Ht.out, ← HD.out] at this
                simp at this
                exact ⟨this.1.symm, this.2.symm⟩
              go_wp2_with fail
              go_ret
              exact ⟨ret_int (a := De) HX2.out.1, by rw [← HX2.out.2]; exact FN4, gr5⟩
          · have HX : Hid (0 = Re ∧ m = Rn) := by
              show _ ∧ _
              have := HQ.out
              rw [wrL_end (by have := HKL.out; omega) HJ.out] at this
              simp at this
              exact ⟨this.1.symm, this.2.symm⟩
            go_wp2_with fail
            go_ret
            exact ⟨ret_int (a := 0) HX.out.1, by rw [← HX.out.2]; exact FN2, gr2⟩
    · have e0 : ((kl : Int) == 2) = false := by rw [beq_eq_false_iff_ne]; omega
      have hA3 : Hid (A = 5) := by show _ = _; rw [HA1.out, if_neg hk]
      clear hk HA1
      go_enter Tryz.func51, Tryz.ntmps51
      go_wp2_with fail
      rw [← HMe.out]
      go_ret
      exact ⟨ret_int (a := 5) (HE.out 5 (by decide) hA3.out).1.symm, by rw [(HE.out 5 (by decide) hA3.out).2]; exact FNM, grM⟩
  have hA3 : Hid (A = 1) := by show _ = _; rw [HA.out, alone, if_neg h1', if_neg h2', if_neg h3', if_neg h4']
  simp only [show kidsK kd = (0, false) from by simp [kidsK, h1', h2', h3', h4']] at i5
  clear HA
  go_enter Tryz.func51, Tryz.ntmps51
  go_wp2_with fail
  rw [← HMe.out]
  go_ret
  exact ⟨ret_int (a := 1) (HE.out 1 (by decide) hA3.out).1.symm, by rw [(HE.out 1 (by decide) hA3.out).2]; exact FNM, grM⟩

/-- what is wrong -/
theorem rwrong_any (t : ET) (w : World) (hin : t.In w) :
    Calls Tryz.prog 28 #[eval t] w fun e w' => e = .returned (.int .i64 (wr t.ex 1 0).1) ∧ Below w.heap.size w w' := by
  have HP := hide (rshape_any t)
  have HIN := hide hin
  clear hin
  obtain ⟨R, hR⟩ : ∃ R, R = wr t.ex 1 0 := ⟨_, rfl⟩
  rw [← hR]
  have HR := hide hR
  clear hR
  unfold eval at HP ⊢
  generalize t.hd.ms.length = ml at *
  generalize t.hd.bs.length = bl at *
  generalize t.kids.length = kl at *
  obtain ⟨V, hV⟩ : ∃ V, V = (w.alloc (.cells #[.int .i64 t.hd.kind, .int .i64 t.hd.n, .int .i64 t.hd.range, .string t.hd.word, .slice t.sp.ma ml t.sp.mc, .slice t.sp.ba bl t.sp.bc, .slice t.sp.ka kl t.sp.kc] 27)).alloc (.cells #[.int .i64 0] 3) := ⟨_, rfl⟩
  have belV : Below w.heap.size w V := by rw [hV]; exact ((Below.refl _ _).alloc (Nat.le_refl _) _).alloc (by simp) _
  have FN : V.heap[w.heap.size + 1]? = some (.cells #[.int .i64 0] 3 (0, 0)) := by
    have := heap_alloc_new (w.alloc (.cells #[.int .i64 t.hd.kind, .int .i64 t.hd.n, .int .i64 t.hd.range, .string t.hd.word, .slice t.sp.ma ml t.sp.mc, .slice t.sp.ba bl t.sp.bc, .slice t.sp.ka kl t.sp.kc] 27)) (.cells #[.int .i64 0] 3)
    rw [hV]; simpa using this
  have HV := hide hV
  clear hV
  go_enter Tryz.func28, Tryz.ntmps28
  go_wp2_with fail
  rw [← HV.out]
  refine (HP.out w V (w.heap.size + 1) 1 0 HIN.out belV (by omega) FN (by omega) (by omega) (by omega) (by omega)).mono ?_
  rintro e w1 ⟨rfl, _, gr⟩
  rw [← HR.out]
  have bel1 : Below w.heap.size w w1 := belV.grown gr belV.size (fun j hj => by cases hj; omega)
  go_wp2_with fail
  go_ret
  exact ⟨rfl, bel1⟩

end Go.Proofs.YthohkokhimdamaaGreat
