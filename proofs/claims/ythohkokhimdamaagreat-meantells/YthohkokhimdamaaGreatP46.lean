/-
  The document's Eval, whatever the expression; the document's Ask.
-/
import Derived.Test.YthohkokhimdamaaGreatP45
import Derived.Deep.CutRange
import Derived.Test.YthohkokhimdamaaGreatP15
/-
  The document's Eval: two things and a sign.
-/
namespace Go.GrainU
open Go.RowKit

/-- what the pairs come to, i cells and j of the next one's behind us -/
def itR (x y : Bool) (w : ByteArray) (a b : List CT) (i j : Nat) : List (Cl × Bool) := binR x y w (cls (a.take i)) (cls b) ++ (cls (b.take j)).flatMap (pairR x y w (ct a i).cl)

theorem itR_zero (x y : Bool) (w : ByteArray) (a b : List CT) : itR x y w a b 0 0 = [] := by simp [itR, binR, cls]
theorem itR_step {x y : Bool} {w : ByteArray} {a b : List CT} {i j : Nat} (h : j < b.length) : itR x y w a b i (j + 1) = itR x y w a b i j ++ pairR x y w (ct a i).cl (ct b j).cl := by
  unfold itR
  rw [take_ct h]
  simp [cls]
theorem itR_next {x y : Bool} {w : ByteArray} {a b : List CT} {i : Nat} (h : i < a.length) : itR x y w a b i b.length = itR x y w a b (i + 1) 0 := by
  unfold itR
  rw [take_ct h, List.take_of_length_le (Nat.le_refl b.length)]
  simp [cls, binR]
theorem itR_end (x y : Bool) (w : ByteArray) (a b : List CT) : itR x y w a b a.length 0 = binR x y w (cls a) (cls b) := by
  unfold itR
  rw [List.take_of_length_le (Nat.le_refl a.length)]
  simp [cls]

theorem pairR_skip {x y : Bool} {w : ByteArray} {c d : Cl} (h : (x && y && !decide (c.1 = d.1)) = true) : pairR x y w c d = [] := by
  unfold pairR
  simp at h
  rw [if_pos ⟨h.1.1, h.1.2, h.2⟩]
theorem pairR_take {x y : Bool} {w : ByteArray} {c d : Cl} (h : (x && y && !decide (c.1 = d.1)) = false) : pairR x y w c d = [((if y = true then d.1 else c.1, (opR w c.2 d.2).1), (opR w c.2 d.2).2)] := by
  unfold pairR
  rw [if_neg]
  rintro ⟨h1, h2, h3⟩
  rw [h1, h2] at h
  simp at h
  exact h3 h

/-- the row so far, and whether all was small enough -/
structure BiI (U wr : World) (co : Option Addr) (N d m : Nat) (cts : List CT) (G : Bool) (it : List (Cl × Bool)) : Prop where
  row : RowR U wr co N d cts
  cs : cls cts = it.map fun i => i.1
  good : G = it.all fun i => i.2
  few : N ≤ m

theorem BiI.call {U wr w' : World} {co : Option Addr} {N d m : Nat} {cts : List CT} {G : Bool} {it : List (Cl × Bool)} (I : BiI U wr co N d m cts G it) (hb : Below wr.heap.size wr w') : BiI U w' co N d m cts G it := ⟨I.row.call hb, I.cs, I.good, I.few⟩

end Go.GrainU
namespace Go.Proofs.YthohkokhimdamaaGreat
open Go.RowKit Go.GrainU

set_option maxRecDepth 100000 in
set_option maxHeartbeats 16000000 in
theorem rev_bin (t1 t2 : ET) (O1 O2 : Option Mn) (en rg time : Int) (wd : ByteArray) (ma ba : Option Addr) (b off ml mc bl bc kc : Nat) (look : Value) (w : World) (hc1 : Cells7 w b off t1) (hc2 : Cells7 w b (off + 7) t2) (hb : b < w.heap.size) (hG1 : ∀ m, O1 = some m → GrainU.Good m) (hG2 : ∀ m, O2 = some m → GrainU.Good m)
    (PI : ∀ w', Below w.heap.size w w' → Calls Tryz.prog 15 #[eval t1, .int .i64 time, look] w' fun e w'' => EPost O1 e w'' ∧ Below w'.heap.size w' w'')
    (PJ : ∀ w', Below w.heap.size w w' → Calls Tryz.prog 15 #[eval t2, .int .i64 time, look] w' fun e w'' => EPost O2 e w'' ∧ Below w'.heap.size w' w'') :
    Calls Tryz.prog 15 #[.agg #[.int .i64 4, .int .i64 en, .int .i64 rg, .string wd, .slice ma ml mc, .slice ba bl bc, .slice (some ⟨b, off, none⟩) 2 kc], .int .i64 time, look] w fun e w' => EPost (O1.bind fun m => O2.bind fun m' => binM m m' wd) e w' ∧ Below w.heap.size w w' := by
  obtain ⟨i0, hi, hz0, hz1, hz2⟩ := info_parts Tryz.infoCell
  obtain ⟨W, hW⟩ : ∃ W, W = w.alloc (.cells #[.int .i64 4, .int .i64 en, .int .i64 rg, .string wd, .slice ma ml mc, .slice ba bl bc, .slice (some ⟨b, off, none⟩) 2 kc] 27) := ⟨_, rfl⟩
  obtain ⟨E0, hE0⟩ : ∃ E, E = w.heap.size := ⟨_, rfl⟩
  have bel0 : Below w.heap.size w W := by rw [hW]; exact (Below.refl _ _).alloc (Nat.le_refl _) _
  have F0 : W.heap[E0]? = some (.cells #[.int .i64 4, .int .i64 en, .int .i64 rg, .string wd, .slice ma ml mc, .slice ba bl bc, .slice (some ⟨b, off, none⟩) 2 kc] 27 (0, 0)) := by rw [hW, hE0]; exact heap_alloc_new w _
  have P1 := hide (PI W bel0)
  have P2 := hide PJ
  have HW := hide hW
  have HE0 := hide hE0
  have HG1 := hide hG1
  have HG2 := hide hG2
  have HC2 := hide hc2
  obtain ⟨RES, hRES⟩ : ∃ R : Option Mn, R = O1.bind fun m => O2.bind fun m' => binM m m' wd := ⟨_, rfl⟩
  rw [← hRES]
  have HRES := hide hRES
  obtain ⟨c0, c1, c2, c3, c4, c5, c6⟩ := hc1
  unfold eval at P1 P2
  clear hW PI PJ hG1 hG2 hRES hc2
  go_enter Tryz.func15, Tryz.ntmps15
  go_wp2_with fail
  rw [← HW.out]
  refine P1.out.mono ?_
  rintro e w1 ⟨hp, b1⟩
  rw [← HE0.out]
  have F1 := below_block b1 F0
  have bw := below_step b1 bel0
  have HP := hide hp
  clear hp c0 c1 c2 c3 c4 c5 c6 P1 HW HE0 hE0
  obtain ⟨e0, e1, e2, e3, e4, e5, e6⟩ := seven_cells F1
  have lE : E0 < w1.heap.size := lt_of_block F1
  rcases HP.out with ⟨ho, rfl⟩ | ⟨nb, xs, ao, M, da, rfl, ho, hM, hA⟩
  · have HE : Hid (RES = none) := by show _ = _; rw [HRES.out, ho]; rfl
    clear HP ho HRES
    go_wp2
    exact bodyPost_ret (v := .tuple #[.slice none 0 0, .bool false, .int .i64 3]) (by simp [results, Tryz.results15, go_sem]) rfl ⟨.inl ⟨HE.out, rfl⟩, bw⟩
  have HE : Hid (RES = O2.bind fun m' => binM ⟨nb, cls xs⟩ m' wd) := by show _ = _; rw [HRES.out, ho]; rfl
  have HGa := hide (HG1.out _ ho)
  obtain ⟨c0, c1, c2, c3, c4, c5, c6⟩ := HC2.out.below bw
  have lb : b < w1.heap.size := Nat.lt_of_lt_of_le hb bw.size
  have PJ := hide (P2.out w1 bw)
  have HM := hide hM
  have HA := hide hA
  clear HP ho HRES HG1 P2 hM hA HC2
  go_wp2_with fail
  refine PJ.out.mono ?_
  rintro e U ⟨hp, bU⟩
  have FU := below_block bU F1
  have belU := below_step bU bw
  have HP := hide hp
  clear hp c0 c1 c2 c3 c4 c5 c6 e0 e1 e2 e3 e4 e5 e6 PJ lb lE bw
  obtain ⟨e0, e1, e2, e3, e4, e5, e6⟩ := seven_cells FU
  have lE : E0 < U.heap.size := lt_of_block FU
  rcases HP.out with ⟨ho, rfl⟩ | ⟨nb2, bs, bo, K, db, rfl, ho, hK, hB⟩
  · have HE2 : Hid (RES = none) := by show _ = _; rw [HE.out, ho]; rfl
    clear HP ho HE
    go_wp2
    exact bodyPost_ret (v := .tuple #[.slice none 0 0, .bool false, .int .i64 3]) (by simp [results, Tryz.results15, go_sem]) rfl ⟨.inl ⟨HE2.out, rfl⟩, belU⟩
  have HE2 : Hid (RES = binM ⟨nb, cls xs⟩ ⟨nb2, cls bs⟩ wd) := by show _ = _; rw [HE.out, ho]; rfl
  have HGb := hide (HG2.out _ ho)
  have hAU := HA.out.below bU
  obtain ⟨X, hX⟩ : ∃ X, X = !nb := ⟨_, rfl⟩
  obtain ⟨Y, hY⟩ : ∃ Y, Y = !nb2 := ⟨_, rfl⟩
  rw [← hX, ← hY]
  have HX := hide hX
  have HY := hide hY
  have HK := hide hK
  have hM8 : M ≤ 8 := by rw [HM.out, ← cls_len]; exact HGa.out.len
  have hK8 : K ≤ 8 := by rw [HK.out, ← cls_len]; exact HGb.out.len
  clear HP ho HE HG2 hK HA hX hY bU F1
  go_wp2
  go_loopw [26, 27, 143] (fun out g i wr => ∃ (k N d : Nat) (G : Bool) (co : Option Addr) (cts : List CT), k ≤ M ∧ i = .int .i64 k ∧ out = .slice co N d ∧ g = .bool G ∧ BiI U wr co N d (8 * k) cts G (itR X Y wd xs bs k 0)) (fun _ _ i _ => M - (intOf i).toNat)
  case atStart => exact ⟨0, 0, 0, true, none, [], Nat.zero_le _, rfl, rfl, rfl, ⟨RowR.start U, by rw [itR_zero]; rfl, by rw [itR_zero]; rfl, Nat.zero_le _⟩⟩
  case round =>
    obtain ⟨k, N, d, G, co, cts, hk, rfl, rfl, rfl, I⟩ := hrel
    by_cases hlt : k < M
    · have hkl : k < xs.length := by rw [← HM.out]; exact hlt
      obtain ⟨ab, aoff, hao, hab, hcell⟩ := seg_cell hAU.seg hkl
      obtain ⟨c, hc⟩ : ∃ c, c = ct xs k := ⟨_, rfl⟩
      obtain ⟨cn, hcn⟩ : ∃ cn, cn = c.ser.length := ⟨_, rfl⟩
      have segc : Seg U c.sa (lcells c.ser) := by rw [hc]; exact hAU.ser _ (ct_mem hkl)
      have c0 : wr.cell? ⟨ab, aoff + k * 2, none⟩ = some (.slice c.sa cn c.sc) := by rw [hcn, hc]; exact (I.row.bel.cell (by exact hab)).trans (hcell k hkl).1
      have c1 : wr.cell? ⟨ab, aoff + k * 2 + 1, none⟩ = some (.int .i64 c.v) := by rw [hc]; exact (I.row.bel.cell (by exact hab)).trans (hcell k hkl).2
      have fc : Fine c.cl := HGa.out.fine _ (by rw [hc]; exact List.mem_map_of_mem (ct_mem hkl))
      obtain ⟨V, hV⟩ : ∃ V, V = wr.alloc (.cells #[.slice c.sa cn c.sc, .int .i64 c.v] 57) := ⟨_, rfl⟩
      obtain ⟨XB, hXB⟩ : ∃ X, X = wr.heap.size := ⟨_, rfl⟩
      have F1 : V.heap[XB]? = some (.cells #[.slice c.sa cn c.sc, .int .i64 c.v] 57 (0, 0)) := by rw [hV, hXB]; exact heap_alloc_new wr _
      have bV : Below wr.heap.size wr V := by rw [hV]; exact (Below.refl _ _).alloc (Nat.le_refl _) _
      have IV := I.call bV
      have hne0 : (Value.slice co N d).ownBlock ≠ some XB := fun e => by have := (own_base I.row.own XB e).2; omega
      have cn4 : cn ≤ 4 := by rw [hcn]; exact fc.2.2
      have hcv : -MC ≤ c.v ∧ c.v ≤ MC := ⟨fc.1, fc.2.1⟩
      have HNx : Hid (itR X Y wd xs bs k bs.length = itR X Y wd xs bs (k + 1) 0) := itR_next hkl
      have HSt : Hid (∀ j, j < bs.length → itR X Y wd xs bs k (j + 1) = itR X Y wd xs bs k j ++ pairR X Y wd c.cl (ct bs j).cl) := fun j hj => by rw [hc]; exact itR_step hj
      have HV := hide hV
      have HXB := hide hXB
      have HCN := hide hcn
      have k2 : (k : Int) < (M : Int) := by omega
      clear hV hcn hc hkl hcell I bV fc
      subst hao
      go_wp2_with fail
      rw [← HV.out, ← HXB.out]
      clear HV HXB hXB c0 c1
      go_loopw [26, 27, 149] (fun out g j wq => ∃ (q N d : Nat) (G : Bool) (co : Option Addr) (cts : List CT), q ≤ K ∧ j = .int .i64 q ∧ out = .slice co N d ∧ g = .bool G ∧ BiI U wq co N d (8 * k + q) cts G (itR X Y wd xs bs k q) ∧ wq.heap[XB]? = some (.cells #[.slice c.sa cn c.sc, .int .i64 c.v] 57 (0, 0)) ∧ (Value.slice co N d).ownBlock ≠ some XB) (fun _ _ j _ => K - (intOf j).toNat)
      case atStart => exact ⟨0, N, d, G, co, cts, Nat.zero_le _, rfl, rfl, rfl, IV, F1, hne0⟩
      case round =>
        obtain ⟨q, N, d, G, co, cts, hq, rfl, rfl, rfl, J, FX, hne⟩ := hrel
        by_cases hlq : q < K
        · have hql : q < bs.length := by rw [← HK.out]; exact hlq
          obtain ⟨bb, boff, hbo, hbb, hcell2⟩ := seg_cell hB.seg hql
          obtain ⟨z, hz⟩ : ∃ z, z = ct bs q := ⟨_, rfl⟩
          obtain ⟨zn, hzn⟩ : ∃ zn, zn = z.ser.length := ⟨_, rfl⟩
          have segz : Seg U z.sa (lcells z.ser) := by rw [hz]; exact hB.ser _ (ct_mem hql)
          have d0 : wr.cell? ⟨bb, boff + q * 2, none⟩ = some (.slice z.sa zn z.sc) := by rw [hzn, hz]; exact (J.row.bel.cell (by exact hbb)).trans (hcell2 q hql).1
          have d1 : wr.cell? ⟨bb, boff + q * 2 + 1, none⟩ = some (.int .i64 z.v) := by rw [hz]; exact (J.row.bel.cell (by exact hbb)).trans (hcell2 q hql).2
          have fz : Fine z.cl := HGb.out.fine _ (by rw [hz]; exact List.mem_map_of_mem (ct_mem hql))
          have hzv : -MC ≤ z.v ∧ z.v ≤ MC := ⟨fz.1, fz.2.1⟩
          have HIt : Hid (itR X Y wd xs bs k (q + 1) = itR X Y wd xs bs k q ++ pairR X Y wd c.cl z.cl) := by show _ = _; rw [hz]; exact HSt.out q hql
          obtain ⟨V2, hV2⟩ : ∃ V, V = wr.alloc (.cells #[.slice z.sa zn z.sc, .int .i64 z.v] 57) := ⟨_, rfl⟩
          obtain ⟨ZB, hZB⟩ : ∃ X, X = wr.heap.size := ⟨_, rfl⟩
          have G1 : V2.heap[ZB]? = some (.cells #[.slice z.sa zn z.sc, .int .i64 z.v] 57 (0, 0)) := by rw [hV2, hZB]; exact heap_alloc_new wr _
          have bV2 : Below wr.heap.size wr V2 := by rw [hV2]; exact (Below.refl _ _).alloc (Nat.le_refl _) _
          have J2 := J.call bV2
          have FX2 := below_block bV2 FX
          have FE2 := below_block J2.row.bel FU
          obtain ⟨SK, hSK⟩ : ∃ S, S = (X && Y && !decide (c.ser = z.ser)) := ⟨_, rfl⟩
          have PS : Hid (Calls Tryz.prog 19 #[.slice c.sa cn c.sc, .slice z.sa zn z.sc] V2 fun e w'' => e = .returned (.bool (decide (c.ser = z.ser))) ∧ Below V2.heap.size V2 w'') := sames_any c.ser z.ser c.sa z.sa cn zn c.sc z.sc V2 (segc.below J2.row.bel) (segz.below J2.row.bel) HCN.out hzn (by omega)
          have HSK := hide hSK
          have HV2 := hide hV2
          have HZB := hide hZB
          have HZN := hide hzn
          have q2 : (q : Int) < (K : Int) := by omega
          have hN64 : N ≤ 100 := by have := J.few; omega
          clear hV2 hzn hz hql hcell2 J bV2 fz hSK
          subst hbo
          go_upto_region 39 with fail
          rw [← HV2.out, ← HZB.out]
          clear HV2 HZB hZB d0 d1
          obtain ⟨x0, x1, _, _⟩ := two_cells FX2
          obtain ⟨z0, z1, _, _⟩ := two_cells G1
          go_cut [164] from 153 to 164 (fun c164 wx => c164 = .bool SK ∧ Below V2.heap.size V2 wx)
          case first =>
            obtain ⟨DS, hDS⟩ : ∃ D, D = decide (c.ser = z.ser) := ⟨_, rfl⟩
            rw [← hDS] at PS HSK
            clear hDS
            cases X with
            | false =>
              have h1 : Hid (SK = false) := by show _ = _; rw [HSK.out]; rfl
              go_wp2_with fail
              go_meet
              exact ⟨by rw [h1.out], Below.refl _ _⟩
            | true =>
              cases Y with
              | false =>
                have h1 : Hid (SK = false) := by show _ = _; rw [HSK.out]; rfl
                go_wp2_with fail
                go_meet
                exact ⟨by rw [h1.out], Below.refl _ _⟩
              | true =>
                have h1 : Hid (SK = !DS) := by show _ = _; rw [HSK.out]; rfl
                clear HSK
                go_wp2_with fail
                refine PS.out.mono ?_
                rintro e w3 ⟨rfl, b3⟩
                cases DS with
                | false =>
                  go_wp2_with fail
                  go_meet
                  exact ⟨by rw [h1.out]; rfl, b3⟩
                | true =>
                  go_wp2_with fail
                  go_meet
                  exact ⟨by rw [h1.out]; rfl, b3⟩
          case rest =>
          obtain ⟨rfl, bx⟩ := hcut
          obtain ⟨Z, rfl⟩ : ∃ Z, Z = wc := ⟨_, rfl⟩
          have J3 := J2.call bx
          have FX3 := below_block bx FX2
          have G3 := below_block bx G1
          have FE3 := below_block bx FE2
          clear J2 FX2 G1 FE2 x0 x1 z0 z1 PS
          obtain ⟨x0, x1, _, _⟩ := two_cells FX3
          obtain ⟨z0, z1, _, _⟩ := two_cells G3
          obtain ⟨f0, f1, f2, f3, f4, f5, f6⟩ := seven_cells FE3
          have lX : XB < Z.heap.size := lt_of_block FX3
          have lZ : ZB < Z.heap.size := lt_of_block G3
          have lE3 : E0 < Z.heap.size := lt_of_block FE3
          cases SK with
          | true =>
            have hp0 : pairR X Y wd c.cl z.cl = [] := pairR_skip HSK.out.symm
            have J4 : BiI U Z co N d (8 * k + (q + 1)) cts G (itR X Y wd xs bs k (q + 1)) := by
              rw [HIt.out, hp0, List.append_nil]
              exact ⟨J3.row, J3.cs, J3.good, by have := J3.few; omega⟩
            clear hp0 HIt HSK J3
            go_wp2
            go_roundw
            case rel => exact ⟨q + 1, N, d, G, co, cts, by omega, by go_num, rfl, rfl, J4, FX3, hne⟩
            case measure => simp [intOf]; omega
          | false =>
            obtain ⟨nn, hnn⟩ : ∃ n, n = (opR wd c.v z.v).1 := ⟨_, rfl⟩
            obtain ⟨ok, hok⟩ : ∃ n, n = (opR wd c.v z.v).2 := ⟨_, rfl⟩
            obtain ⟨s, hs⟩ : ∃ s : CT, s = if Y = true then ⟨z.ser, nn, z.sa, z.sc⟩ else ⟨c.ser, nn, c.sa, c.sc⟩ := ⟨_, rfl⟩
            obtain ⟨sl, hsl⟩ : ∃ n, n = s.ser.length := ⟨_, rfl⟩
            have HIt2 : Hid (itR X Y wd xs bs k (q + 1) = itR X Y wd xs bs k q ++ [(s.cl, ok)]) := by
              show _ = _
              rw [HIt.out, pairR_take HSK.out.symm, hs, hnn, hok]
              cases Y <;> rfl
            have segs : Seg U s.sa (lcells s.ser) := by
              rw [hs]
              cases Y
              · exact segc
              · exact segz
            have hsv : s.v = nn := by rw [hs]; cases Y <;> rfl
            have PO : Hid (∀ w', Calls Tryz.prog 41 #[.string wd, .int .i64 c.v, .int .i64 z.v] w' fun e w'' => e = .returned (.tuple #[.int .i64 nn, .bool ok]) ∧ w'' = w') := fun w' => by rw [hnn, hok]; exact rop_any wd c.v z.v w' hcv hzv
            have HSL := hide hsl
            have HSV := hide hsv
            have HS := hide hs
            clear HIt HSK hnn hok hsl hsv hs
            go_upto_if 167 with fail
            go_cut [32] from 168 to 169 (fun v32 wx => v32 = .slice s.sa sl s.sc ∧ wx = Z)
            case first =>
              cases Y with
              | true =>
                have h1 : s = ⟨z.ser, nn, z.sa, z.sc⟩ := by rw [HS.out]; rfl
                have h2 : zn = sl := by rw [HSL.out, h1]; exact HZN.out
                have h3 : s.sa = z.sa ∧ s.sc = z.sc := by rw [h1]; exact ⟨rfl, rfl⟩
                have H3 := hide h3
                clear h1 h3 HS HSL
                subst h2
                go_wp2_with fail
                go_meet
                exact ⟨by rw [H3.out.1, H3.out.2], rfl⟩
              | false =>
                have h1 : s = ⟨c.ser, nn, c.sa, c.sc⟩ := by rw [HS.out]; rfl
                have h2 : cn = sl := by rw [HSL.out, h1]; exact HCN.out
                have h3 : s.sa = c.sa ∧ s.sc = c.sc := by rw [h1]; exact ⟨rfl, rfl⟩
                have H3 := hide h3
                clear h1 h3 HS HSL
                subst h2
                go_wp2_with fail
                go_meet
                exact ⟨by rw [H3.out.1, H3.out.2], rfl⟩
            case rest =>
            obtain ⟨rfl, hwc⟩ := hcut
            rw [hwc]
            clear hwc HS
            go_wp2_with fail
            refine (PO.out Z).mono ?_
            rintro e w4 ⟨rfl, hw4⟩
            rw [hw4]
            clear PO hw4 w4
            go_upto_region 44 with fail
            go_cut [27] from 180 to 183 (fun v27 wx => v27 = .bool (G && ok) ∧ wx = Z)
            case first =>
              cases G with
              | true =>
                cases ok <;> (go_wp2_with fail; go_meet; exact ⟨rfl, rfl⟩)
              | false =>
                go_wp2_with fail
                go_meet
                exact ⟨rfl, rfl⟩
            case rest =>
            obtain ⟨rfl, hwc⟩ := hcut
            rw [hwc]
            clear hwc x0 x1 z0 z1 f0 f1 f2 f3 f4 f5 f6
            have bA : Below Z.heap.size Z (Z.alloc (.cells #[.slice s.sa sl s.sc, .int .i64 nn] 57)) := (Below.refl _ _).alloc (Nat.le_refl _) _
            have J4 := J3.call bA
            have FX4 := below_block bA FX3
            clear J3
            go_wp2_with (at_builtin; refine wpList_append_lies _ rfl _ _ 28 rfl U.heap.size 57 i0 (.agg #[.slice none 0 0, .int .i64 0]) 2 32 Tryz.underlying28 hi hz0 hz1 hz2 rfl (by decide) _ _ _ rfl J4.row.own ⟨Z.heap.size, 0, none⟩ 1 1 [.slice s.sa sl s.sc, .int .i64 nn] rfl rfl (news_two rfl _ _ _) (by simp [Value.oneCell']) (by decide) (by unfold maxLen; omega) (by omega) J4.row.bel.size (Z.heap.size + 1) (by simp) ?_)
            intro g' cp' w5 own5 gr5 hat5 hlt5
            obtain ⟨co5, d5, hv5, I5⟩ := J4.row.push s segs (by rw [← HSL.out, HSV.out]; exact own5) gr5
            injection hv5 with hv1 hv2 hv3
            subst hv1 hv3
            have FX5 : w5.heap[XB]? = some (.cells #[.slice c.sa cn c.sc, .int .i64 c.v] 57 (0, 0)) := by rw [gr5.block XB (lt_of_block FX4) (fun e => hne e.symm)]; exact FX4
            have hne5 : (Value.slice (some ⟨g', 0, none⟩) (N + 1) cp').ownBlock ≠ some XB := fun e => by
              simp [Value.ownBlock] at e
              rcases hat5 with h | h
              · exact hne (by rw [h, e])
              · omega
            have J5 : BiI U w5 (some ⟨g', 0, none⟩) (N + 1) cp' (8 * k + (q + 1)) (cts ++ [s]) (G && ok) (itR X Y wd xs bs k (q + 1)) := by
              rw [HIt2.out]
              exact ⟨I5, by rw [cls_append, J4.cs]; simp [cls], by rw [List.all_append, ← J4.good]; simp, by have := J4.few; omega⟩
            clear own5 gr5 hat5 hlt5 J4 I5 bA FX4 HIt2
            go_wp2
            go_roundw
            case rel => exact ⟨q + 1, N + 1, cp', G && ok, _, _, by omega, by go_num, rfl, rfl, J5, FX5, hne5⟩
            case measure => simp [intOf]; omega
        · have he : q = K := by omega
          subst he
          have J5 : BiI U wr co N d (8 * (k + 1)) cts G (itR X Y wd xs bs (k + 1) 0) := by
            rw [← HNx.out, ← HK.out]
            exact ⟨J.row, J.cs, J.good, by have := J.few; omega⟩
          clear J HNx HSt
          go_wp2
          go_roundw
          case rel => exact ⟨k + 1, N, d, G, co, cts, by omega, by go_num, rfl, rfl, J5⟩
          case measure => simp [intOf]; omega
    · have he : k = M := by omega
      subst he
      have hb2 : binM ⟨nb, cls xs⟩ ⟨nb2, cls bs⟩ wd = if (binR X Y wd (cls xs) (cls bs)).all (fun i => i.2) = true then some ⟨nb && nb2, (binR X Y wd (cls xs) (cls bs)).map (fun i => i.1)⟩ else none := by rw [HX.out, HY.out]; exact binR_bin HGa.out HGb.out wd
      have hfin : itR X Y wd xs bs k 0 = binR X Y wd (cls xs) (cls bs) := by rw [HM.out]; exact itR_end X Y wd xs bs
      have HE3 : Hid (RES = if G = true then some ⟨nb && nb2, cls cts⟩ else none) := by show _ = _; rw [HE2.out, hb2, ← hfin, ← I.good, ← I.cs]
      have HXY : Hid ((!(nb && nb2)) = (X || Y)) := by show _ = _; rw [HX.out, HY.out]; cases nb <;> cases nb2 <;> rfl
      have HNl := hide I.row.len
      have csr := I.row.csR
      have bel := below_step I.row.bel belU
      clear I hb2 hfin HE2
      cases G with
      | false =>
        have HE4 : Hid (RES = none) := HE3.out
        clear HE3
        go_wp2
        exact bodyPost_ret (v := .tuple #[.slice none 0 0, .bool false, .int .i64 3]) (by simp [results, Tryz.results15, go_sem]) rfl ⟨.inl ⟨HE4.out, rfl⟩, bel⟩
      | true =>
        have HE4 : Hid (RES = some ⟨nb && nb2, cls cts⟩) := HE3.out
        clear HE3 HX HY
        cases X with
        | true =>
          go_wp2
          exact bodyPost_ret (v := .tuple #[.slice co N d, .bool true, .int .i64 0]) (by simp [results, Tryz.results15, go_sem]) rfl ⟨.inr ⟨nb && nb2, cts, co, N, d, by rw [HXY.out]; rfl, HE4.out, HNl.out, csr⟩, bel⟩
        | false =>
          cases Y with
          | true =>
            go_wp2
            exact bodyPost_ret (v := .tuple #[.slice co N d, .bool true, .int .i64 0]) (by simp [results, Tryz.results15, go_sem]) rfl ⟨.inr ⟨nb && nb2, cts, co, N, d, by rw [HXY.out]; rfl, HE4.out, HNl.out, csr⟩, bel⟩
          | false =>
            go_wp2
            exact bodyPost_ret (v := .tuple #[.slice co N d, .bool false, .int .i64 0]) (by simp [results, Tryz.results15, go_sem]) rfl ⟨.inr ⟨nb && nb2, cts, co, N, d, by rw [HXY.out]; rfl, HE4.out, HNl.out, csr⟩, bel⟩

end Go.Proofs.YthohkokhimdamaaGreat

/-
  The document's Eval, whatever the expression; the document's Ask.
-/
namespace Go.GrainU
open Go.RowKit

theorem win_facts {h : Hd} (e : winBad h = 0) : 1 ≤ h.range ∧ h.range ≤ 100000 := by
  unfold winBad at e
  split at e
  · omega
  · split at e
    · omega
    · split at e
      · split at e
        · omega
        · omega
      · rename_i hx; exact absurd e hx

theorem all_facts {h : Hd} (e : allBad h = 0) : has totals4 h.word = true ∧ h.bs.length ≤ 4 := by
  unfold allBad at e
  split at e
  · omega
  · rename_i h1
    split at e
    · omega
    · exact ⟨by simpa using h1, by omega⟩

end Go.GrainU
namespace Go.Proofs.YthohkokhimdamaaGreat
open Go.RowKit Go.GrainU

set_option maxRecDepth 100000 in
theorem reval_any (l : List LT) (time : Int) (ao : Option Addr) (n cap C1 : Nat) (h0 : (wrLn (lns l)).1 = 0) (hn : n = l.length) (ht0 : 0 ≤ time) (ht1 : time ≤ 1000000) :
    ∀ t : ET, ∀ w : World, LkOk w l ao n cap C1 → t.In w → Rt t.ex →
    Calls Tryz.prog 15 #[eval t, .int .i64 time, .func (.func 16) #[] #[.pointer (some ⟨C1, 0, none⟩)]] w fun e w' => EPost (ev (lns l) time t.ex) e w' ∧ Below w.heap.size w w' := by
  obtain ⟨h8, hR⟩ := right_lines h0
  have hls : LS (lns l) := ls_of h0
  have hln : ∀ x ∈ lns l, x.1.length ≤ 4 ∧ Grain.Right x.2 := fun x hx => by
    obtain ⟨y, hy, rfl⟩ := List.mem_map.1 hx
    exact ⟨(hR y hy).ser, (hR y hy).smp⟩
  have hl8 : (lns l).length ≤ 8 := by rw [lns_len]; exact h8
  refine ET.ind ?_
  intro h s kids ih w hk hin hrt
  obtain ⟨kd, en, rg, wd, ms, bs⟩ := h
  obtain ⟨ma, mc, ba, bc, ka, kc⟩ := s
  have hin0 := hin
  simp only [ET.In] at hin
  obtain ⟨⟨sm, sb, sk⟩, ⟨lm, lb, lk, -⟩, hkin⟩ := hin
  obtain ⟨halone, hkr⟩ := Rt.parts (show Rt (.mk ⟨kd, en, rg, wd, ms, bs⟩ (exL kids)) from hrt)
  rw [exL_length] at halone
  show Calls Tryz.prog _ #[.agg #[.int .i64 kd, .int .i64 en, .int .i64 rg, .string wd, .slice ma ms.length mc, .slice ba bs.length bc, .slice ka kids.length kc], _, _] w _
  rcases alone_cases halone with ⟨e, k0, n0, n1⟩ | ⟨e, k0, wb⟩ | ⟨e, k0, ab⟩ | ⟨e, k0, sg⟩
  · have hev : ev (lns l) time (ET.node ⟨kd, en, rg, wd, ms, bs⟩ ⟨ma, mc, ba, bc, ka, kc⟩ kids).ex = some ⟨true, [([], en)]⟩ := ev_num e
    rw [hev]
    simp only at e
    subst e
    exact rev_num en rg time wd ma ba ka _ mc _ bc _ kc _ w
  · obtain ⟨r0, r1⟩ := win_facts wb
    have hev : ev (lns l) time (ET.node ⟨kd, en, rg, wd, ms, bs⟩ ⟨ma, mc, ba, bc, ka, kc⟩ kids).ex = some ⟨false, valsR wd (lookR (lns l) ms (max 0 (time - rg)) time)⟩ := by
      rw [show (ET.node ⟨kd, en, rg, wd, ms, bs⟩ ⟨ma, mc, ba, bc, ka, kc⟩ kids).ex = .mk ⟨kd, en, rg, wd, ms, bs⟩ (exL kids) from rfl, ev_win e]
      rw [← vals_win ⟨kd, en, rg, wd, ms, bs⟩ time (lns l) (fun x hx => (hln x hx).2)]
    rw [hev]
    simp only at e
    subst e
    exact rev_win l ms en rg time wd ao ma ba ka n cap C1 _ mc _ bc _ kc w hk hR hn (by rw [hn]; exact h8) sm rfl lm ht0 ht1 r0 r1
  · match kids, k0, sk, hkin, hkr, ih with
    | [k], _, sk, hkin, hkr, ih =>
      obtain ⟨a0, a1⟩ := all_facts ab
      have hev : ev (lns l) time (ET.node ⟨kd, en, rg, wd, ms, bs⟩ ⟨ma, mc, ba, bc, ka, kc⟩ [k]).ex = (ev (lns l) time k.ex).bind fun m => (allA wd bs [] m.cs).map fun c => ⟨false, c⟩ := ev_all e
      rw [hev]
      simp only at e
      subst e
      obtain ⟨b, off, rfl, hb, hcell⟩ := seg_expr sk (k := 0) (by simp)
      have hc7 : Cells7 w b off k := by simpa using hcell 0 (by simp)
      have hrk := hkr k.ex (by simp [exL])
      exact rev_all k bs _ en rg time wd ma ba b off _ mc _ bc kc _ w hc7 hb sb rfl lb a0 (fun m hm => ev_gd hln hl8 time k.ex hrk m hm) (fun w' hb' => ih k (by simp) w' (hk.below hb') (ET.In.below hb' k (inL_mem hkin k (by simp))) hrk)
  · match kids, k0, sk, hkin, hkr, ih with
    | [k, j], _, sk, hkin, hkr, ih =>
      have hev : ev (lns l) time (ET.node ⟨kd, en, rg, wd, ms, bs⟩ ⟨ma, mc, ba, bc, ka, kc⟩ [k, j]).ex = (ev (lns l) time k.ex).bind fun m => (ev (lns l) time j.ex).bind fun m' => binM m m' wd := ev_bin e
      rw [hev]
      simp only at e
      subst e
      obtain ⟨b, off, rfl, hb, hcell⟩ := seg_expr sk (k := 0) (by simp)
      have hc7 : Cells7 w b off k := by simpa using hcell 0 (by simp)
      have hd7 : Cells7 w b (off + 7) j := by simpa using hcell 1 (by simp)
      have hrk := hkr k.ex (by simp [exL])
      have hrj := hkr j.ex (by simp [exL])
      exact rev_bin k j _ _ en rg time wd ma ba b off _ mc _ bc kc _ w hc7 hd7 hb (fun m hm => ev_good hln hl8 hls time hrk hm) (fun m hm => ev_good hln hl8 hls time hrj hm) (fun w' hb' => ih k (by simp) w' (hk.below hb') (ET.In.below hb' k (inL_mem hkin k (by simp))) hrk) (fun w' hb' => ih j (by simp) w' (hk.below hb') (ET.In.below hb' j (inL_mem hkin j (by simp))) hrj)

set_option maxRecDepth 100000 in
set_option maxHeartbeats 4000000 in
theorem rask_any (l : List LT) (t : ET) (time : Int) (ao : Option Addr) (n cap : Nat) (w : World) (hs : Seg w ao (tcells l)) (hl : LnsIn w l) (hin : t.In w) (hn : n = l.length) :
    Calls Tryz.prog 5 #[.slice ao n cap, eval t, .int .i64 time] w fun e w' => ∃ cts co N d, e = .returned (.tuple #[.slice co N d, .int .i64 (GrainU.ask (lns l) t.ex time).2]) ∧ cls cts = (GrainU.ask (lns l) t.ex time).1 ∧ N = cts.length ∧ CsR w' co cts ∧ Below w.heap.size w w' := by
  obtain ⟨E, hE⟩ : ∃ E, E = (wrLn (lns l)).1 := ⟨_, rfl⟩
  obtain ⟨A, hA⟩ : ∃ A, A = (wrLn (lns l)).2 := ⟨_, rfl⟩
  obtain ⟨C, hC⟩ : ∃ C, C = chk t.ex time := ⟨_, rfl⟩
  obtain ⟨O, hO⟩ : ∃ O, O = ev (lns l) time t.ex := ⟨_, rfl⟩
  obtain ⟨R, hR⟩ : ∃ R, R = GrainU.ask (lns l) t.ex time := ⟨_, rfl⟩
  have HR : Hid (R = if E = 0 then (if C = 0 then askOf O else ([], C)) else ([], E)) := by
    show _ = _
    rw [hR, hE, hC, hO]; rfl
  have PW := hide (fun w' (hb : Below w.heap.size w w') => rlines_any l ao n cap w' (hs.below hb) (hl.below hb) hn)
  rw [← hE, ← hA] at PW
  have PC := hide (fun w' (hb : Below w.heap.size w w') => rcheck_any t time w' (ET.In.below hb t hin))
  rw [← hC] at PC
  have PE := hide (fun (e0 : E = 0) (c0 : C = 0) (C1 : Nat) w' (hb : Below w.heap.size w w') (k1 : w'.cell? ⟨C1, 0, none⟩ = some (.slice ao n cap)) => reval_any l time ao n cap C1 (hE.symm.trans e0) hn (chk_zero (hC.symm.trans c0)).2.1 (chk_zero (hC.symm.trans c0)).2.2 t w' ⟨k1, hs.below hb, hl.below hb⟩ (ET.In.below hb t hin) (chk_zero (hC.symm.trans c0)).1)
  rw [← hO] at PE
  rw [← hR]
  clear hR hE hA hC hO hs hl hin hn
  unfold eval at PE PC ⊢
  generalize t.hd.ms.length = ml at PE PC ⊢
  generalize t.hd.bs.length = bl at PE PC ⊢
  generalize t.kids.length = kl at PE PC ⊢
  obtain ⟨W, hW⟩ : ∃ W, W = (w.alloc (.cells #[.slice ao n cap] 22)).alloc (.cells #[.int .i64 t.hd.kind, .int .i64 t.hd.n, .int .i64 t.hd.range, .string t.hd.word, .slice t.sp.ma ml t.sp.mc, .slice t.sp.ba bl t.sp.bc, .slice t.sp.ka kl t.sp.kc] 27) := ⟨_, rfl⟩
  have bel0 : Below w.heap.size w W := by rw [hW]; exact ((Below.refl _ _).alloc (Nat.le_refl _) _).alloc (by simp) _
  have A0 : W.heap[w.heap.size]? = some (.cells #[.slice ao n cap] 22 (0, 0)) := by rw [hW, Below.heap_alloc _ _ _ (by simp)]; exact heap_alloc_new w _
  have F0 : W.heap[w.heap.size + 1]? = some (.cells #[.int .i64 t.hd.kind, .int .i64 t.hd.n, .int .i64 t.hd.range, .string t.hd.word, .slice t.sp.ma ml t.sp.mc, .slice t.sp.ba bl t.sp.bc, .slice t.sp.ka kl t.sp.kc] 27 (0, 0)) := by
    have := heap_alloc_new (w.alloc (.cells #[.slice ao n cap] 22)) (.cells #[.int .i64 t.hd.kind, .int .i64 t.hd.n, .int .i64 t.hd.range, .string t.hd.word, .slice t.sp.ma ml t.sp.mc, .slice t.sp.ba bl t.sp.bc, .slice t.sp.ka kl t.sp.kc] 27)
    rw [hW]; simpa using this
  have HW := hide hW
  clear hW
  go_enter Tryz.func5, Tryz.ntmps5
  go_wp2_with fail
  rw [← HW.out]
  refine (PW.out W bel0).mono ?_
  rintro e w1 ⟨rfl, b1⟩
  have A1 := below_block b1 A0
  have F1 := below_block b1 F0
  have bw : Below w.heap.size w w1 := bel0.trans (b1.mono bel0.size)
  obtain ⟨V, hV⟩ : ∃ V, V = w1.alloc (.cells #[.int .i64 E, .int .i64 A] 34) := ⟨_, rfl⟩
  have bV : Below w1.heap.size w1 V := by rw [hV]; exact (Below.refl _ _).alloc (Nat.le_refl _) _
  have bW : Below w.heap.size w V := bw.trans (bV.mono bw.size)
  have HV := hide hV
  clear hV PW A0 F0
  by_cases h0 : E = 0
  · have HR1 : Hid (R = if C = 0 then askOf O else ([], C)) := by show _ = _; rw [HR.out, if_pos h0]
    have PE1 := hide (PE.out h0)
    have PCV := hide (PC.out V bW)
    subst h0
    have F2 := below_block bV F1
    have A2 := below_block bV A1
    obtain ⟨p0, p1, p2, p3, p4, p5, p6⟩ := seven_cells F1
    have l0 : w.heap.size + 1 < w1.heap.size := lt_of_block F1
    clear HR PC PE
    go_wp2_with fail
    rw [← HV.out]
    refine PCV.out.mono ?_
    rintro e w2 ⟨rfl, b2⟩
    have F3 := below_block b2 F2
    have A3 := below_block b2 A2
    have bX := below_step b2 bW
    clear PCV F2 A2 bV p0 p1 p2 p3 p4 p5 p6 l0
    by_cases h1 : C = 0
    · have HR2 : Hid (R = askOf O) := by show _ = _; rw [HR1.out, if_pos h1]
      have k4 : w2.cell? ⟨w.heap.size, 0, none⟩ = some (.slice ao n cap) := by simp [World.cell?, A3]
      have PE2 := hide (PE1.out h1 w.heap.size w2 bX k4)
      subst h1
      obtain ⟨p0, p1, p2, p3, p4, p5, p6⟩ := seven_cells F3
      clear HR1 PE1 k4
      go_wp2_with fail
      refine PE2.out.mono ?_
      rintro e w3 ⟨hp, b3⟩
      have bY := below_step b3 bX
      have HP := hide hp
      clear hp PE2 p0 p1 p2 p3 p4 p5 p6
      rcases HP.out with ⟨ho, rfl⟩ | ⟨nb, cts, co, N, d, rfl, ho, hN, hC⟩
      · have HR3 : Hid (R = ([], 3)) := by show _ = _; rw [HR2.out, ho]; rfl
        clear HP ho HR2
        go_wp2
        go_ret2
        exact ⟨[], none, 0, 0, by rw [HR3.out]; rfl, by rw [HR3.out]; rfl, rfl, ⟨.inl rfl, fun c hc => (by cases hc)⟩, bY⟩
      · have HR3 : Hid (R = (cls cts, 0)) := by show _ = _; rw [HR2.out, ho]; rfl
        have HN := hide hN
        clear HP ho HR2 hN
        go_wp2
        go_ret2
        exact ⟨cts, co, N, d, by rw [HR3.out]; rfl, by rw [HR3.out], HN.out, hC, bY⟩
    · have HR2 : Hid (R = ([], C)) := by show _ = _; rw [HR1.out, if_neg h1]
      have hd : (C != 0) = true := by simpa using h1
      clear h1 HR1 PE1
      go_wp2
      go_ret2
      exact ⟨[], none, 0, 0, by rw [HR2.out]; rfl, by rw [HR2.out]; rfl, rfl, ⟨.inl rfl, fun c hc => (by cases hc)⟩, bX⟩
  · have HR1 : Hid (R = ([], E)) := by show _ = _; rw [HR.out, if_neg h0]
    have hd : (E != 0) = true := by simpa using h0
    clear h0 HR PE PC
    go_wp2
    go_quiet (fail)
    go_wp2
    go_ret2
    exact ⟨[], none, 0, 0, by rw [HR1.out]; rfl, by rw [HR1.out]; rfl, rfl, ⟨.inl rfl, fun c hc => (by cases hc)⟩, by first | exact below_drewN (bw.alloc bw.size _) _ | exact (below_drewN bw _).alloc (below_drewN bw _).size _⟩

end Go.Proofs.YthohkokhimdamaaGreat
