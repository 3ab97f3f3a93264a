/-
  The walk of the document's look at lines.
-/
import Derived.Test.YthohkokhimdamaaGreatRows
import Derived.Test.YthohkokhimdamaaGreatP04
import Derived.Test.YthohkokhimdamaaGreatP41
import Derived.Deep.CutRange
/-
  The walk of the document's Matches.
-/
namespace Go.Proofs.YthohkokhimdamaaGreat
open Go.RowKit Go.GrainU

theorem three_cells {w : World} {B : Nat} {x0 x1 x2 : Value} {t : TypeId} {fr : Nat × Nat} (h : w.heap[B]? = some (.cells #[x0, x1, x2] t fr)) :
    w.cell? ⟨B, 0, none⟩ = some x0 ∧ w.cell? ⟨B, 1, none⟩ = some x1 ∧ w.cell? ⟨B, 2, none⟩ = some x2 := by
  simp [World.cell?, h]

set_option maxHeartbeats 4000000 in
theorem rmatch_any (s : List (ByteArray × ByteArray)) (l : List Mt) (ao bo : Option Addr) (n m c c' : Nat) (w : World) (ha : Seg w ao (lcells s)) (hb : Seg w bo (mcells l)) (hn : n = s.length) (hm : m = l.length) (hc : n ≤ 9223372036854775807) (hc' : m ≤ 9223372036854775806) :
    Calls Tryz.prog 17 #[.slice ao n c, .slice bo m c'] w fun e w' => e = .returned (.bool (says s l)) ∧ Below w.heap.size w w' := by
  have HN := hide hn
  have HM := hide hm
  clear hn hm
  go_enter Tryz.func17, Tryz.ntmps17
  go_wp2
  go_loopw [12] (fun i wr => ∃ k : Nat, k ≤ m ∧ i = .int .i64 k ∧ Hid (says s (l.take k) = true) ∧ Below w.heap.size w wr) (fun i _ => m - (intOf i).toNat)
  case atStart => exact ⟨0, Nat.zero_le _, rfl, rfl, Below.refl _ _⟩
  case round =>
    obtain ⟨k, hk, rfl, HS, bel⟩ := hrel
    have hsz := bel.size
    by_cases hlt : k < m
    · have hkl : k < l.length := by rw [← HM.out]; exact hlt
      obtain ⟨b, off, rfl, hbl, hcell⟩ := seg_match hb hkl
      obtain ⟨M, hMt⟩ : ∃ M, M = mt l k := ⟨_, rfl⟩
      obtain ⟨q0, q1, q2⟩ := hcell k hkl
      rw [← hMt] at q0 q1 q2
      have c0 : wr.cell? ⟨b, off + k * 3, none⟩ = some (.int .i64 M.kind) := (bel.cell (by exact hbl)).trans q0
      have c1 : wr.cell? ⟨b, off + k * 3 + 1, none⟩ = some (.string M.key) := (bel.cell (by exact hbl)).trans q1
      have c2 : wr.cell? ⟨b, off + k * 3 + 2, none⟩ = some (.string M.val) := (bel.cell (by exact hbl)).trans q2
      have NO : Hid (sayM (find s M.key) M = false → says s l = false) := fun h => says_no hkl (by rw [← hMt]; exact h)
      have YES : Hid (sayM (find s M.key) M = true → says s (l.take (k + 1)) = true) := fun h => by rw [says_take hkl, HS.out, ← hMt, h]; rfl
      clear hMt hcell hkl q0 q1 q2 HS
      obtain ⟨kind, key, val⟩ := M
      simp only at c0 c1 c2 NO YES
      obtain ⟨V, hV⟩ : ∃ V, V = wr.alloc (.cells #[.int .i64 kind, .string key, .string val] 86) := ⟨_, rfl⟩
      obtain ⟨X, hX⟩ : ∃ X, X = wr.heap.size := ⟨_, rfl⟩
      have F : V.heap[X]? = some (.cells #[.int .i64 kind, .string key, .string val] 86 (0, 0)) := by rw [hV, hX]; exact heap_alloc_new wr _
      have bel1 : Below w.heap.size w V := by rw [hV]; exact bel.alloc hsz _
      have HV := hide hV
      have HX := hide hX
      clear hV hX
      go_wp2
      rw [← HV.out, ← HX.out]
      clear HV HX bel hsz c0 c1 c2
      go_loopw [7, 8, 9] (fun v o i wq => ∃ (j : Nat) (ok : Bool) (y : ByteArray), j ≤ n ∧ v = .string y ∧ o = .bool ok ∧ i = .int .i64 ((j : Int) - 1) ∧ Hid (find (s.drop j) key = if ok = true then some y else none) ∧ wq.heap[X]? = some (.cells #[.int .i64 kind, .string key, .string val] 86 (0, 0)) ∧ Below w.heap.size w wq) (fun _ _ i _ => (intOf i + 1).toNat)
      case atStart => exact ⟨n, false, _, Nat.le_refl _, rfl, rfl, rfl, by show find (s.drop n) key = _; rw [List.drop_of_length_le (by rw [← HN.out]; omega)]; rfl, F, bel1⟩
      case round =>
        clear F bel1
        obtain ⟨j, ok, y, hj, rfl, rfl, rfl, HF, F, belq⟩ := hrel
        obtain ⟨f0, f1, f2⟩ := three_cells F
        rcases Nat.eq_zero_or_pos j with hj0 | hj0
        · subst hj0
          rw [List.drop_zero] at HF
          rw [show (((0 : Nat) : Int) - 1) = -1 from rfl]
          cases ok with
          | false =>
            simp only [Bool.false_eq_true, if_false] at HF
            by_cases g1 : kind = 1
            · subst g1
              have hy := hide (NO.out (by rw [HF.out]; simp [sayM]))
              clear YES NO HF
              go_wp2
              go_ret
              exact ⟨ret_bool hy.out.symm, belq⟩
            · have b1 : (kind == 1) = false := by simpa using g1
              by_cases g2 : kind = 2
              · subst g2
                have hy := hide (YES.out (by rw [HF.out]; simp [sayM]))
                clear YES NO HF
                go_wp2
                go_roundw
                case rel => exact ⟨k + 1, by omega, by go_num, hy, belq⟩
                case measure => simp [intOf]; omega
              · have b2 : (kind == 2) = false := by simpa using g2
                by_cases g3 : kind = 3
                · subst g3
                  have hy := hide (NO.out (by rw [HF.out]; simp [sayM]))
                  clear YES NO HF
                  go_wp2
                  go_ret
                  exact ⟨ret_bool hy.out.symm, belq⟩
                · have b3 : (kind == 3) = false := by simpa using g3
                  by_cases g4 : kind = 4
                  · subst g4
                    have hy := hide (YES.out (by rw [HF.out]; simp [sayM]))
                    clear YES NO HF
                    go_wp2
                    go_roundw
                    case rel => exact ⟨k + 1, by omega, by go_num, hy, belq⟩
                    case measure => simp [intOf]; omega
                  · have b4 : (kind == 4) = false := by simpa using g4
                    have hy := hide (NO.out (by rw [HF.out]; simp [sayM, g1, g2, g3, g4]))
                    clear YES NO HF
                    go_wp2
                    go_ret
                    exact ⟨ret_bool hy.out.symm, belq⟩
          | true =>
            simp only [if_true] at HF
            by_cases he : y = val
            · subst he
              obtain ⟨v1, v2⟩ := word_self y
              by_cases g1 : kind = 1
              · subst g1
                have hy := hide (YES.out (by rw [HF.out]; simp [sayM]))
                clear YES NO HF
                go_wp2
                go_roundw
                case rel => exact ⟨k + 1, by omega, by go_num, hy, belq⟩
                case measure => simp [intOf]; omega
              · have b1 : (kind == 1) = false := by simpa using g1
                by_cases g2 : kind = 2
                · subst g2
                  have hy := hide (NO.out (by rw [HF.out]; simp [sayM]))
                  clear YES NO HF
                  go_wp2
                  go_ret
                  exact ⟨ret_bool hy.out.symm, belq⟩
                · have b2 : (kind == 2) = false := by simpa using g2
                  by_cases g3 : kind = 3
                  · subst g3
                    have hy := hide (YES.out (by rw [HF.out]; simp [sayM]))
                    clear YES NO HF
                    go_wp2
                    go_roundw
                    case rel => exact ⟨k + 1, by omega, by go_num, hy, belq⟩
                    case measure => simp [intOf]; omega
                  · have b3 : (kind == 3) = false := by simpa using g3
                    by_cases g4 : kind = 4
                    · subst g4
                      have hy := hide (NO.out (by rw [HF.out]; simp [sayM]))
                      clear YES NO HF
                      go_wp2
                      go_ret
                      exact ⟨ret_bool hy.out.symm, belq⟩
                    · have b4 : (kind == 4) = false := by simpa using g4
                      have hy := hide (NO.out (by rw [HF.out]; simp [sayM, g1, g2, g3, g4]))
                      clear YES NO HF
                      go_wp2
                      go_ret
                      exact ⟨ret_bool hy.out.symm, belq⟩
            · obtain ⟨v1, v2⟩ := word_ne he
              by_cases g1 : kind = 1
              · subst g1
                have hy := hide (NO.out (by rw [HF.out]; simp [sayM, he]))
                clear YES NO HF
                go_wp2
                go_ret
                exact ⟨ret_bool hy.out.symm, belq⟩
              · have b1 : (kind == 1) = false := by simpa using g1
                by_cases g2 : kind = 2
                · subst g2
                  have hy := hide (YES.out (by rw [HF.out]; simp [sayM, he]))
                  clear YES NO HF
                  go_wp2
                  go_roundw
                  case rel => exact ⟨k + 1, by omega, by go_num, hy, belq⟩
                  case measure => simp [intOf]; omega
                · have b2 : (kind == 2) = false := by simpa using g2
                  by_cases g3 : kind = 3
                  · subst g3
                    have hy := hide (YES.out (by rw [HF.out]; simp [sayM]))
                    clear YES NO HF
                    go_wp2
                    go_roundw
                    case rel => exact ⟨k + 1, by omega, by go_num, hy, belq⟩
                    case measure => simp [intOf]; omega
                  · have b3 : (kind == 3) = false := by simpa using g3
                    by_cases g4 : kind = 4
                    · subst g4
                      have hy := hide (NO.out (by rw [HF.out]; simp [sayM]))
                      clear YES NO HF
                      go_wp2
                      go_ret
                      exact ⟨ret_bool hy.out.symm, belq⟩
                    · have b4 : (kind == 4) = false := by simpa using g4
                      have hy := hide (NO.out (by rw [HF.out]; simp [sayM, g1, g2, g3, g4]))
                      clear YES NO HF
                      go_wp2
                      go_ret
                      exact ⟨ret_bool hy.out.symm, belq⟩
        · obtain ⟨i, rfl⟩ : ∃ i, j = i + 1 := ⟨j - 1, by omega⟩
          have hil : i < s.length := by rw [← HN.out]; omega
          obtain ⟨p, off', rfl, hpl, hcell⟩ := seg_label ha hil
          obtain ⟨z, hz⟩ : ∃ z, z = lk s i := ⟨_, rfl⟩
          obtain ⟨u, hu⟩ : ∃ u, u = lv s i := ⟨_, rfl⟩
          have d0 : wr.cell? ⟨p, off' + i * 2, none⟩ = some (.string z) := by rw [hz]; exact (belq.cell (by exact hpl)).trans (hcell i hil).1
          have d1 : wr.cell? ⟨p, off' + i * 2 + 1, none⟩ = some (.string u) := by rw [hu]; exact (belq.cell (by exact hpl)).trans (hcell i hil).2
          have HD : Hid (find (s.drop i) key = if z = key then some u else if ok = true then some y else none) := by
            show _ = _
            rw [find_drop hil, HF.out, hz, hu]
          rw [show (((i + 1 : Nat) : Int) - 1) = (i : Int) from by omega]
          clear hz hu hcell hil HF
          by_cases ez : z = key
          · subst ez
            obtain ⟨v1, v2⟩ := word_self z
            have HD' : Hid (find (s.drop i) z = if true = true then some u else none) := by
              show _ = _
              rw [HD.out]; simp
            clear HD YES NO
            go_wp2
            go_quiet (fail)
            go_wp2
            go_roundw
            case rel => exact ⟨i, true, u, by omega, rfl, rfl, by go_num, HD', F, below_drewN belq _⟩
            case measure => simp [intOf]
          · obtain ⟨v1, v2⟩ := word_ne ez
            have HD' : Hid (find (s.drop i) key = if ok = true then some y else none) := by
              show _ = _
              rw [HD.out, if_neg ez]
            clear HD ez YES NO
            go_wp2
            go_quiet (fail)
            go_wp2
            go_roundw
            case rel => exact ⟨i, ok, y, by omega, rfl, rfl, by go_num, HD', F, below_drewN belq _⟩
            case measure => simp [intOf]
    · have he : k = m := by omega
      subst he
      have hT : Hid (says s l = true) := by
        show _ = _
        have := HS.out
        rwa [List.take_of_length_le (by rw [← HM.out]; omega)] at this
      clear HS
      go_wp2
      go_ret
      exact ⟨ret_bool hT.out.symm, bel⟩

end Go.Proofs.YthohkokhimdamaaGreat

/-
  The walk of the document's look at lines.
-/
namespace Go.Proofs.YthohkokhimdamaaGreat
open Go.RowKit Go.GrainU

/-- what look's loop keeps -/
structure LkI (w wr : World) (co so : Option Addr) (K d e k : Nat) (qs : List QT) : Prop where
  cown : wr.ownsRow w.heap.size 57 2 (.slice co K d) K (ccells (qs.map QT.ct))
  sown : wr.ownsRow w.heap.size 46 7 (.slice so K e) K (ucells qs)
  ser : ∀ q ∈ qs, Seg w q.sa (lcells q.ser)
  len : K ≤ k
  bel : Below w.heap.size w wr

theorem LkI.call {w wr w' : World} {co so : Option Addr} {K d e k : Nat} {qs : List QT} (I : LkI w wr co so K d e k qs) (hb : Below wr.heap.size wr w') : LkI w w' co so K d e k qs :=
  ⟨own_below I.cown hb, own_below I.sown hb, I.ser, I.len, below_step hb I.bel⟩

theorem LkI.cnt {w wr : World} {co so : Option Addr} {K d e k : Nat} {qs : List QT} (I : LkI w wr co so K d e k qs) : K = qs.length := by
  have := I.sown.1; rw [ucells_length] at this; omega

/-- the samples of a window, so far -/
structure InI (V wr : World) (io : Option Addr) (M d j : Nat) (s : List (Int × Int)) : Prop where
  own : wr.ownsRow V.heap.size 54 2 (.slice io M d) M (scells s)
  len : M ≤ j
  bel : Below V.heap.size V wr

theorem InI.call {V wr w' : World} {io : Option Addr} {M d j : Nat} {s : List (Int × Int)} (I : InI V wr io M d j s) (hb : Below wr.heap.size wr w') : InI V w' io M d j s :=
  ⟨own_below I.own hb, I.len, below_step hb I.bel⟩

set_option maxRecDepth 100000 in
set_option maxHeartbeats 8000000 in
theorem rlook_any (l : List LT) (ms : List Mt) (ao mo : Option Addr) (n cap C1 m mc : Nat) (a b : Int) (w : World) (k1 : w.cell? ⟨C1, 0, none⟩ = some (.slice ao n cap)) (hs : Seg w ao (tcells l)) (hl : LnsIn w l) (hR : ∀ x ∈ l, LnRt x) (hn : n = l.length) (h8 : n ≤ 8) (hms : Seg w mo (mcells ms)) (hm : m = ms.length) (hM : m ≤ 9223372036854775806) :
    Calls Tryz.prog 16 #[.slice mo m mc, .int .i64 a, .int .i64 b, .pointer (some ⟨C1, 0, none⟩)] w fun e w' => ∃ (qs : List QT) (co so : Option Addr) (K d d' : Nat), e = .returned (.tuple #[.slice co K d, .slice so K d', .int .i64 0]) ∧ qs.map QT.lk = lookR (lns l) ms a b ∧ K = qs.length ∧ K ≤ 8 ∧ CsR w' co (qs.map QT.ct) ∧ Seg w' so (ucells qs) ∧ Below w.heap.size w w' := by
  obtain ⟨i0, hi, hz0, hz1, hz2⟩ := info_parts Tryz.infoCell
  obtain ⟨j0, hj, hy0, hy1, hy2⟩ := info_parts Tryz.infoSum7
  obtain ⟨s0, hsm, hx0, hx1, hx2⟩ := info_parts Tryz.infoSmp2
  have HN := hide hn
  have HI := hide hl
  have HRT := hide hR
  have HMs := hide hms
  have HMl := hide hm
  have lC : C1 < w.heap.size := World.block_lt_of_cell? w _ k1
  clear hn hl hR hms hm
  go_enter Tryz.func16, Tryz.ntmps16
  go_wp2
  go_loopw [10, 11, 19] (fun cs ss i wr => ∃ (k K d e : Nat) (co so : Option Addr) (qs : List QT), k ≤ n ∧ i = .int .i64 k ∧ cs = .slice co K d ∧ ss = .slice so K e ∧ Hid (qs.map QT.lk = lookR (lns (l.take k)) ms a b) ∧ LkI w wr co so K d e k qs) (fun _ _ i _ => n - (intOf i).toNat)
  case atStart => exact ⟨0, 0, 0, 0, none, none, [], Nat.zero_le _, rfl, rfl, rfl, rfl, ⟨World.ownsRow_nil _ _ _ _, World.ownsRow_nil _ _ _ _, fun q hq => (by cases hq), Nat.le_refl _, Below.refl _ _⟩⟩
  case round =>
    obtain ⟨k, K, d, e, co, so, qs, hk, rfl, rfl, rfl, HQ, I⟩ := hrel
    by_cases hlt : k < n
    · have hkl : k < l.length := by rw [← HN.out]; exact hlt
      obtain ⟨B, off, rfl, hb, hcell⟩ := seg_line hs hkl
      obtain ⟨x, hx⟩ : ∃ x, x = lt l k := ⟨_, rfl⟩
      obtain ⟨sn, hsn⟩ : ∃ sn, sn = x.ser.length := ⟨_, rfl⟩
      obtain ⟨pn, hpn⟩ : ∃ pn, pn = x.smp.length := ⟨_, rfl⟩
      have okx : LnOk w x := by rw [hx]; exact HI.out _ (lt_mem hkl)
      have rtx : LnRt x := by rw [hx]; exact HRT.out _ (lt_mem hkl)
      have c0 : wr.cell? ⟨B, off + k * 2, none⟩ = some (.slice x.sa sn x.sc) := by rw [hsn, hx]; exact (I.bel.cell (by exact hb)).trans (hcell k hkl).1
      have c1 : wr.cell? ⟨B, off + k * 2 + 1, none⟩ = some (.slice x.pa pn x.pc) := by rw [hpn, hx]; exact (I.bel.cell (by exact hb)).trans (hcell k hkl).2
      have HLk : Hid (lookR (lns (l.take (k + 1))) ms a b = if says x.ser ms = true then lookR (lns (l.take k)) ms a b ++ [(x.ser, Grain.of (Grain.win x.smp a b))] else lookR (lns (l.take k)) ms a b) := by show _ = _; rw [hx]; exact lookR_take hkl
      obtain ⟨V, hV⟩ : ∃ V, V = wr.alloc (.cells #[.slice x.sa sn x.sc, .slice x.pa pn x.pc] 43) := ⟨_, rfl⟩
      obtain ⟨X, hX⟩ : ∃ X, X = wr.heap.size := ⟨_, rfl⟩
      have F1 : V.heap[X]? = some (.cells #[.slice x.sa sn x.sc, .slice x.pa pn x.pc] 43 (0, 0)) := by rw [hV, hX]; exact heap_alloc_new wr _
      have bV : Below wr.heap.size wr V := by rw [hV]; exact (Below.refl _ _).alloc (Nat.le_refl _) _
      have IV := I.call bV
      have hp5 : pn ≤ 500 := by rw [hpn]; exact rtx.smp.few
      have hs4 : sn ≤ 4 := by rw [hsn]; exact rtx.ser
      have HV := hide hV
      have HX := hide hX
      have HSN := hide hsn
      have HPN := hide hpn
      have k2 : (k : Int) < (n : Int) := by omega
      clear hV hsn hpn hcell hx I bV hkl
      go_wp2_with fail
      rw [← HV.out, ← HX.out]
      clear HV HX hX c0 c1
      go_loopw [14, 26] (fun io j wq => ∃ (q M di : Nat) (ia : Option Addr), q ≤ pn ∧ io = .slice ia M di ∧ j = .int .i64 q ∧ InI V wq ia M di q (Grain.win (x.smp.take q) a b)) (fun _ j _ => pn - (intOf j).toNat)
      case atStart => exact ⟨0, 0, 0, none, Nat.zero_le _, rfl, rfl, ⟨by simpa [Grain.win, scells] using World.ownsRow_nil V V.heap.size _ _, Nat.le_refl _, Below.refl _ _⟩⟩
      case round =>
        obtain ⟨q, M, di, ia, hq, rfl, rfl, J⟩ := hrel
        have bw : Below w.heap.size w wr := below_step J.bel IV.bel
        by_cases hlq : q < pn
        · have hql : q < x.smp.length := by rw [← HPN.out]; exact hlq
          obtain ⟨b2, off2, hpa, hcell2⟩ := okx.smp.sample hql
          have hb2 : b2 < w.heap.size := World.block_lt_of_cell? w ⟨b2, off2 + q * 2, none⟩ (hcell2 q hql).1
          obtain ⟨T, hT⟩ : ∃ T, T = Grain.tm x.smp q := ⟨_, rfl⟩
          obtain ⟨U, hU⟩ : ∃ U, U = Grain.vl x.smp q := ⟨_, rfl⟩
          have e0 : wr.cell? ⟨b2, off2 + q * 2, none⟩ = some (.int .i64 T) := by rw [hT]; exact (bw.cell (by exact hb2)).trans (hcell2 q hql).1
          have e1 : wr.cell? ⟨b2, off2 + q * 2 + 1, none⟩ = some (.int .i64 U) := by rw [hU]; exact (bw.cell (by exact hb2)).trans (hcell2 q hql).2
          have HTk : Hid (Grain.win (x.smp.take (q + 1)) a b = if a ≤ T ∧ T < b then Grain.win (x.smp.take q) a b ++ [(T, U)] else Grain.win (x.smp.take q) a b) := by
            show _ = _
            rw [hT, hU, Grain.take_tm hql, Grain.win_snoc]
          have q2 : (q : Int) < (pn : Int) := by omega
          clear hT hU hcell2 hql
          obtain ⟨W1, hW1⟩ : ∃ W, W = wr.alloc (.cells #[.int .i64 T, .int .i64 U] 54) := ⟨_, rfl⟩
          obtain ⟨Y, hY⟩ : ∃ Y, Y = wr.heap.size := ⟨_, rfl⟩
          have hbW1 : Below wr.heap.size wr W1 := by rw [hW1]; exact (Below.refl _ _).alloc (Nat.le_refl _) _
          have J1 := J.call hbW1
          have S1 : W1.heap[Y]? = some (.cells #[.int .i64 T, .int .i64 U] 54 (0, 0)) := by rw [hW1, hY]; exact heap_alloc_new wr _
          obtain ⟨g0, g1, _, _⟩ := two_cells S1
          have hM5 : M ≤ 500 := by have := J.len; omega
          have HW1 := hide hW1
          have HY := hide hY
          rw [hpa]
          clear hW1 hY hbW1 J
          by_cases hT : a ≤ T ∧ T < b
          · have HTk' : Hid (Grain.win (x.smp.take (q + 1)) a b = Grain.win (x.smp.take q) a b ++ [(T, U)]) := by show _ = _; rw [HTk.out, if_pos hT]
            obtain ⟨hT0, hT1⟩ := hT
            have hvs := J1.bel.size
            have W1s : Y < W1.heap.size := lt_of_block S1
            have bA : Below W1.heap.size W1 (W1.alloc (.cells #[.int .i64 T, .int .i64 U] 54)) := (Below.refl _ _).alloc (Nat.le_refl _) _
            have JA := J1.call bA
            clear HTk
            go_upto_region 11 with fail
            rw [← HW1.out, ← HY.out]
            go_wp2_with (at_builtin; refine append_seg rfl _ _ 41 rfl V.heap.size 54 s0 (.agg #[.int .i64 0, .int .i64 0]) 2 16 Tryz.underlying41 hsm hx0 hx1 hx2 rfl (by decide) _ _ _ rfl JA.own (some ⟨W1.heap.size, 0, none⟩) 1 1 [.int .i64 T, .int .i64 U] rfl (fun h => by cases h) (seg_new W1 _ _) rfl (by simp [Value.oneCell']) (by unfold maxLen; omega) (by omega) JA.bel.size ?_)
            intro v5 w5 own5 gr5
            obtain ⟨ia5, d5, rfl, -, -⟩ := own_open own5
            have J5 : InI V w5 ia5 (M + 1) d5 (q + 1) (Grain.win (x.smp.take (q + 1)) a b) := by
              refine ⟨?_, by have := J1.len; omega, JA.bel.grown gr5 JA.bel.size (fun g hg => (own_base JA.own g hg).1)⟩
              rw [HTk'.out, scells_append]; exact own5
            clear own5 gr5 JA J1 bA HTk'
            go_wp2
            go_roundw
            case rel => exact ⟨q + 1, M + 1, d5, ia5, by omega, rfl, by go_num, J5⟩
            case measure => simp [intOf]; omega
          · have HTk' : Hid (Grain.win (x.smp.take (q + 1)) a b = Grain.win (x.smp.take q) a b) := by show _ = _; rw [HTk.out, if_neg hT]
            have J5 : InI V W1 ia M di (q + 1) (Grain.win (x.smp.take (q + 1)) a b) := by
              rw [HTk'.out]
              exact ⟨J1.own, by have := J1.len; omega, J1.bel⟩
            clear HTk HTk' J1
            by_cases hT0 : a ≤ T
            · have hT1 : ¬ (T < b) := fun h => hT ⟨hT0, h⟩
              clear hT
              go_wp2_with fail
              rw [← HW1.out]
              go_roundw
              case rel => exact ⟨q + 1, M, di, ia, by omega, rfl, by go_num, J5⟩
              case measure => simp [intOf]; omega
            · clear hT
              go_wp2_with fail
              rw [← HW1.out]
              go_roundw
              case rel => exact ⟨q + 1, M, di, ia, by omega, rfl, by go_num, J5⟩
              case measure => simp [intOf]; omega
        · have he : q = pn := by omega
          subst he
          have hall : x.smp.take q = x.smp := List.take_of_length_le (by rw [← HPN.out]; exact Nat.le_refl _)
          rw [hall] at J
          have F2 := below_block J.bel F1
          obtain ⟨p0, p1, _, _⟩ := two_cells F2
          have I2 := IV.call J.bel
          have Xs : X < wr.heap.size := lt_of_block F2
          clear IV F1 hall hlq
          go_wp2_with fail
          refine (rmatch_any x.ser ms x.sa mo sn m x.sc mc wr (okx.ser.below I2.bel) (HMs.out.below I2.bel) HSN.out HMl.out (by omega) hM).mono ?_
          rintro e w2 ⟨rfl, b2⟩
          obtain ⟨S, hS⟩ : ∃ S, S = says x.ser ms := ⟨_, rfl⟩
          rw [← hS]
          have I3 := I2.call b2
          have J3 := J.call b2
          have F3 := below_block b2 F2
          have HSy := hide hS
          clear I2 J F2 p0 p1 hS b2 Xs bw
          obtain ⟨p0, p1, _, _⟩ := two_cells F3
          have Xs : X < w2.heap.size := lt_of_block F3
          cases S with
          | false =>
            have HQ2 : Hid (qs.map QT.lk = lookR (lns (l.take (k + 1))) ms a b) := by show _ = _; rw [HLk.out, ← HSy.out]; exact HQ.out
            clear HQ HLk J3
            go_wp2
            go_roundw
            case rel => exact ⟨k + 1, K, d, e, co, so, qs, by omega, by go_num, rfl, rfl, HQ2, ⟨I3.cown, I3.sown, I3.ser, by have := I3.len; omega, I3.bel⟩⟩
            case measure => simp [intOf]; omega
          | true =>
            obtain ⟨JJ, hJJ⟩ : ∃ J, J = Grain.of (Grain.win x.smp a b) := ⟨_, rfl⟩
            obtain ⟨Q, hQ⟩ : ∃ Q : QT, Q = ⟨x.ser, JJ, x.sa, x.sc⟩ := ⟨_, rfl⟩
            have HQ2 : Hid ((qs ++ [Q]).map QT.lk = lookR (lns (l.take (k + 1))) ms a b) := by
              show _ = _
              rw [HLk.out, if_pos HSy.out.symm, ← HQ.out, List.map_append, hQ, ← hJJ]; rfl
            have HK := hide I3.cnt
            have HM5 : Hid (M = (Grain.win x.smp a b).length) := by have := J3.own.1; rw [scells_length] at this; show _ = _; omega
            have bA : Below w2.heap.size w2 (w2.alloc (.cells #[.slice x.sa sn x.sc, .int .i64 0] 57)) := (Below.refl _ _).alloc (Nat.le_refl _) _
            have I4 := I3.call bA
            have J4 := J3.call bA
            have hK8 : K ≤ 8 := by have := I3.len; omega
            have hone : ∀ u ∈ [Value.slice x.sa sn x.sc, .int .i64 0], u.oneCell' = true := by
              intro u hu
              simp only [List.mem_cons, List.not_mem_nil, or_false] at hu
              rcases hu with e | e <;> (subst e; rfl)
            have HJJ := hide hJJ
            clear HQ HLk hJJ J3 I3
            go_wp2_with (at_builtin; refine append_seg rfl _ _ 28 rfl w.heap.size 57 i0 (.agg #[.slice none 0 0, .int .i64 0]) 2 32 Tryz.underlying28 hi hz0 hz1 hz2 rfl (by decide) _ _ _ rfl I4.cown (some ⟨w2.heap.size, 0, none⟩) 1 1 [.slice x.sa sn x.sc, .int .i64 0] rfl (fun h => by cases h) (seg_new w2 _ _) rfl hone (by unfold maxLen; omega) (by omega) I4.bel.size ?_)
            intro v5 w5 own5 gr5
            obtain ⟨co5, d5, rfl, -, -⟩ := own_open own5
            have b5 : Below w.heap.size w w5 := I4.bel.grown gr5 I4.bel.size (fun g hg => (own_base I4.cown g hg).1)
            have so5 := tk_keep I4.sown gr5 (tk_types I4.sown I4.cown (by decide))
            have sg5 : w5.ownsRow w.heap.size 57 2 (.slice co5 (K + 1) d5) (K + 1) (ccells ((qs ++ [Q]).map QT.ct)) := by
              rw [List.map_append, ccells_append, hQ]
              show w5.ownsRow _ _ 2 _ _ (_ ++ [.slice x.sa x.ser.length x.sc, .int .i64 0])
              rw [← HSN.out]; exact own5
            have in5 := tk_keep J4.own gr5 (tk_types J4.own I4.cown (by decide))
            obtain ⟨ia', di', hv', sgi, -⟩ := own_open in5
            simp only [Value.slice.injEq] at hv'
            obtain ⟨rfl, -, rfl⟩ := hv'
            have PF := hide (rof_l (Grain.win x.smp a b) ia M di w5 sgi HM5.out (by have := J4.len; omega) (fun j hj => by
              have hjl : j < (Grain.win x.smp a b).length := by rw [← HM5.out]; exact hj
              have := Grain_win_val rtx.smp a b _ (List.getElem_mem hjl)
              simp only [Grain.vl, List.getD, List.getElem?_eq_getElem hjl, Option.getD_some]
              omega) JJ HJJ.out)
            have HSe := hide I4.ser
            have HLe := hide I4.len
            clear own5 gr5 in5 sgi I4 J4 bA HM5 p0 p1 F3 Xs
            go_wp2_with fail
            refine PF.out.mono ?_
            rintro e w6 ⟨rfl, b6⟩
            have bel6 := below_step b6 b5
            have bB : Below w6.heap.size w6 (w6.alloc (.cells #[.int .i64 JJ.c, .int .i64 JJ.t, .int .i64 JJ.mn, .int .i64 JJ.mx, .int .i64 JJ.f, .int .i64 JJ.l, .int .i64 JJ.r] 46)) := (Below.refl _ _).alloc (Nat.le_refl _) _
            have so6 := own_below (own_below so5 b6) bB
            have co6 := own_below (own_below sg5 b6) bB
            have bel7 := below_step bB bel6
            have hone7 : ∀ u ∈ [Value.int .i64 JJ.c, .int .i64 JJ.t, .int .i64 JJ.mn, .int .i64 JJ.mx, .int .i64 JJ.f, .int .i64 JJ.l, .int .i64 JJ.r], u.oneCell' = true := by
              intro u hu
              simp only [List.mem_cons, List.not_mem_nil, or_false] at hu
              rcases hu with e | e | e | e | e | e | e <;> (subst e; rfl)
            clear PF so5 sg5 b5 b6 bB
            go_wp2_with (at_builtin; refine append_seg rfl _ _ 52 rfl w.heap.size 46 j0 (.agg #[.int .i64 0, .int .i64 0, .int .i64 0, .int .i64 0, .int .i64 0, .int .i64 0, .int .i64 0]) 7 56 Tryz.underlying52 hj hy0 hy1 hy2 rfl (by decide) _ _ _ rfl so6 (some ⟨w6.heap.size, 0, none⟩) 1 1 [.int .i64 JJ.c, .int .i64 JJ.t, .int .i64 JJ.mn, .int .i64 JJ.mx, .int .i64 JJ.f, .int .i64 JJ.l, .int .i64 JJ.r] rfl (fun h => by cases h) (seg_new w6 _ _) rfl hone7 (by unfold maxLen; omega) (by omega) bel7.size ?_)
            intro v7 w7 own7 gr7
            obtain ⟨so7, e7, rfl, -, -⟩ := own_open own7
            have co7 := tk_keep co6 gr7 (tk_types co6 so6 (by decide))
            have I7 : LkI w w7 co5 so7 (K + 1) d5 e7 (k + 1) (qs ++ [Q]) := by
              refine ⟨co7, ?_, fun y hy => ?_, by have := HLe.out; omega, bel7.grown gr7 bel7.size (fun g hg => (own_base so6 g hg).1)⟩
              · rw [ucells_append, hQ]; exact own7
              · rcases List.mem_append.1 hy with h | h
                · exact HSe.out y h
                · simp at h
                  rw [h, hQ]; exact okx.ser
            clear own7 gr7 co7 so6 co6 bel6 bel7 hone7 hone
            go_wp2
            go_roundw
            case rel => exact ⟨k + 1, K + 1, d5, e7, co5, so7, qs ++ [Q], by omega, by go_num, rfl, rfl, HQ2, I7⟩
            case measure => simp [intOf]; omega
    · have he : k = n := by omega
      subst he
      have HK := I.cnt
      have hK8 : K ≤ 8 := by have := I.len; omega
      have hall : l.take k = l := List.take_of_length_le (by rw [← HN.out]; exact Nat.le_refl _)
      rw [hall] at HQ
      obtain ⟨co', d', hv', sgc, -⟩ := own_open I.cown
      simp only [Value.slice.injEq] at hv'
      obtain ⟨rfl, -, rfl⟩ := hv'
      obtain ⟨so', d', hv', sgs, -⟩ := own_open I.sown
      simp only [Value.slice.injEq] at hv'
      obtain ⟨rfl, -, rfl⟩ := hv'
      have hcr : CsR wr co (qs.map QT.ct) := ⟨sgc, fun c hc => by
        obtain ⟨q, hq, rfl⟩ := List.mem_map.1 hc
        exact (I.ser q hq).below I.bel⟩
      have bel := I.bel
      clear I sgc hall hlt
      go_wp2
      exact bodyPost_ret (v := .tuple #[.slice co K d, .slice so K e, .int .i64 0]) (by simp [results, Tryz.results16, go_sem]) rfl ⟨qs, co, so, K, d, e, rfl, HQ.out, HK, hK8, hcr, sgs, bel⟩

end Go.Proofs.YthohkokhimdamaaGreat
