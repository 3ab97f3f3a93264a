/-
  The walk of the document's Matches.
-/
import Derived.Test.YtfbipefllabefacRows
import Derived.Test.YtfbipefllabefacMatchM
namespace Go.Proofs.Ytfbipefllabefac
open Go.RowKit Go.GrainU

theorem three_cells {w : World} {B : Nat} {x0 x1 x2 : Value} {t : TypeId} {fr : Nat × Nat} (h : w.heap[B]? = some (.cells #[x0, x1, x2] t fr)) :
    w.cell? ⟨B, 0, none⟩ = some x0 ∧ w.cell? ⟨B, 1, none⟩ = some x1 ∧ w.cell? ⟨B, 2, none⟩ = some x2 := by
  simp [World.cell?, h]

set_option maxHeartbeats 4000000 in
theorem rmatch_any (s : List (ByteArray × ByteArray)) (l : List Mt) (ao bo : Option Addr) (n m c c' : Nat) (w : World) (ha : Seg w ao (lcells s)) (hb : Seg w bo (mcells l)) (hn : n = s.length) (hm : m = l.length) (hc : n ≤ 9223372036854775807) (hc' : m ≤ 9223372036854775806) :
    Calls Try.prog 18 #[.slice ao n c, .slice bo m c'] w fun e w' => e = .returned (.bool (says s l)) ∧ Below w.heap.size w w' := by
  have HN := hide hn
  have HM := hide hm
  clear hn hm
  go_enter Try.func18, Try.ntmps18
  go_wp2
  go_loopw [12] (fun i wr => ∃ k : Nat, k ≤ m ∧ i = .int .i64 k ∧ Hid (says s (l.take k) = true) ∧ Below w.heap.size w wr) (fun i _ => m - (intOf i).toNat)
  case atStart => exact ⟨0, Nat.zero_le _, rfl, rfl, Below.refl _ _⟩
  case round =>
    obtain ⟨k, hk, rfl, HS, bel⟩ := hrel
    have hsz := bel.size
    by_cases hlt : k < m
    · have hkl : k < l.length := by rw [← HM.out]; exact hlt
      obtain ⟨b, off, rfl, hbl, hcell⟩ := seg_match hb hkl
      obtain ⟨M, hMt⟩ : ∃ M, M = mt l k := ⟨_, rfl⟩
      obtain ⟨q0, q1, q2⟩ := hcell k hkl
      rw [← hMt] at q0 q1 q2
      have c0 : wr.cell? ⟨b, off + k * 3, none⟩ = some (.int .i64 M.kind) := (bel.cell (by exact hbl)).trans q0
      have c1 : wr.cell? ⟨b, off + k * 3 + 1, none⟩ = some (.string M.key) := (bel.cell (by exact hbl)).trans q1
      have c2 : wr.cell? ⟨b, off + k * 3 + 2, none⟩ = some (.string M.val) := (bel.cell (by exact hbl)).trans q2
      have NO : Hid (sayM (find s M.key) M = false → says s l = false) := fun h => says_no hkl (by rw [← hMt]; exact h)
      have YES : Hid (sayM (find s M.key) M = true → says s (l.take (k + 1)) = true) := fun h => by rw [says_take hkl, HS.out, ← hMt, h]; rfl
      clear hMt hcell hkl q0 q1 q2 HS
      obtain ⟨kind, key, val⟩ := M
      simp only at c0 c1 c2 NO YES
      obtain ⟨V, hV⟩ : ∃ V, V = wr.alloc (.cells #[.int .i64 kind, .string key, .string val] 53) := ⟨_, rfl⟩
      obtain ⟨X, hX⟩ : ∃ X, X = wr.heap.size := ⟨_, rfl⟩
      have F : V.heap[X]? = some (.cells #[.int .i64 kind, .string key, .string val] 53 (0, 0)) := by rw [hV, hX]; exact heap_alloc_new wr _
      have bel1 : Below w.heap.size w V := by rw [hV]; exact bel.alloc hsz _
      have HV := hide hV
      have HX := hide hX
      clear hV hX
      go_wp2
      rw [← HV.out, ← HX.out]
      clear HV HX bel hsz c0 c1 c2
      go_loopw [7, 8, 9] (fun v o i wq => ∃ (j : Nat) (ok : Bool) (y : ByteArray), j ≤ n ∧ v = .string y ∧ o = .bool ok ∧ i = .int .i64 ((j : Int) - 1) ∧ Hid (find (s.drop j) key = if ok = true then some y else none) ∧ wq.heap[X]? = some (.cells #[.int .i64 kind, .string key, .string val] 53 (0, 0)) ∧ Below w.heap.size w wq) (fun _ _ i _ => (intOf i + 1).toNat)
      case atStart => exact ⟨n, false, _, Nat.le_refl _, rfl, rfl, rfl, by show find (s.drop n) key = _; rw [List.drop_of_length_le (by rw [← HN.out]; omega)]; rfl, F, bel1⟩
      case round =>
        clear F bel1
        obtain ⟨j, ok, y, hj, rfl, rfl, rfl, HF, F, belq⟩ := hrel
        obtain ⟨f0, f1, f2⟩ := three_cells F
        rcases Nat.eq_zero_or_pos j with hj0 | hj0
        · subst hj0
          rw [List.drop_zero] at HF
          rw [show (((0 : Nat) : Int) - 1) = -1 from rfl]
          cases ok with
          | false =>
            simp only [Bool.false_eq_true, if_false] at HF
            by_cases g1 : kind = 1
            · subst g1
              have hy := hide (NO.out (by rw [HF.out]; simp [sayM]))
              clear YES NO HF
              go_wp2
              go_ret
              exact ⟨ret_bool hy.out.symm, belq⟩
            · have b1 : (kind == 1) = false := by simpa using g1
              by_cases g2 : kind = 2
              · subst g2
                have hy := hide (YES.out (by rw [HF.out]; simp [sayM]))
                clear YES NO HF
                go_wp2
                go_roundw
                case rel => exact ⟨k + 1, by omega, by go_num, hy, belq⟩
                case measure => simp [intOf]; omega
              · have b2 : (kind == 2) = false := by simpa using g2
                by_cases g3 : kind = 3
                · subst g3
                  have hy := hide (NO.out (by rw [HF.out]; simp [sayM]))
                  clear YES NO HF
                  go_wp2
                  go_ret
                  exact ⟨ret_bool hy.out.symm, belq⟩
                · have b3 : (kind == 3) = false := by simpa using g3
                  by_cases g4 : kind = 4
                  · subst g4
                    have hy := hide (YES.out (by rw [HF.out]; simp [sayM]))
                    clear YES NO HF
                    go_wp2
                    go_roundw
                    case rel => exact ⟨k + 1, by omega, by go_num, hy, belq⟩
                    case measure => simp [intOf]; omega
                  · have b4 : (kind == 4) = false := by simpa using g4
                    have hy := hide (NO.out (by rw [HF.out]; simp [sayM, g1, g2, g3, g4]))
                    clear YES NO HF
                    go_wp2
                    go_ret
                    exact ⟨ret_bool hy.out.symm, belq⟩
          | true =>
            simp only [if_true] at HF
            by_cases he : y = val
            · subst he
              obtain ⟨v1, v2⟩ := word_self y
              by_cases g1 : kind = 1
              · subst g1
                have hy := hide (YES.out (by rw [HF.out]; simp [sayM]))
                clear YES NO HF
                go_wp2
                go_roundw
                case rel => exact ⟨k + 1, by omega, by go_num, hy, belq⟩
                case measure => simp [intOf]; omega
              · have b1 : (kind == 1) = false := by simpa using g1
                by_cases g2 : kind = 2
                · subst g2
                  have hy := hide (NO.out (by rw [HF.out]; simp [sayM]))
                  clear YES NO HF
                  go_wp2
                  go_ret
                  exact ⟨ret_bool hy.out.symm, belq⟩
                · have b2 : (kind == 2) = false := by simpa using g2
                  by_cases g3 : kind = 3
                  · subst g3
                    have hy := hide (YES.out (by rw [HF.out]; simp [sayM]))
                    clear YES NO HF
                    go_wp2
                    go_roundw
                    case rel => exact ⟨k + 1, by omega, by go_num, hy, belq⟩
                    case measure => simp [intOf]; omega
                  · have b3 : (kind == 3) = false := by simpa using g3
                    by_cases g4 : kind = 4
                    · subst g4
                      have hy := hide (NO.out (by rw [HF.out]; simp [sayM]))
                      clear YES NO HF
                      go_wp2
                      go_ret
                      exact ⟨ret_bool hy.out.symm, belq⟩
                    · have b4 : (kind == 4) = false := by simpa using g4
                      have hy := hide (NO.out (by rw [HF.out]; simp [sayM, g1, g2, g3, g4]))
                      clear YES NO HF
                      go_wp2
                      go_ret
                      exact ⟨ret_bool hy.out.symm, belq⟩
            · obtain ⟨v1, v2⟩ := word_ne he
              by_cases g1 : kind = 1
              · subst g1
                have hy := hide (NO.out (by rw [HF.out]; simp [sayM, he]))
                clear YES NO HF
                go_wp2
                go_ret
                exact ⟨ret_bool hy.out.symm, belq⟩
              · have b1 : (kind == 1) = false := by simpa using g1
                by_cases g2 : kind = 2
                · subst g2
                  have hy := hide (YES.out (by rw [HF.out]; simp [sayM, he]))
                  clear YES NO HF
                  go_wp2
                  go_roundw
                  case rel => exact ⟨k + 1, by omega, by go_num, hy, belq⟩
                  case measure => simp [intOf]; omega
                · have b2 : (kind == 2) = false := by simpa using g2
                  by_cases g3 : kind = 3
                  · subst g3
                    have hy := hide (YES.out (by rw [HF.out]; simp [sayM]))
                    clear YES NO HF
                    go_wp2
                    go_roundw
                    case rel => exact ⟨k + 1, by omega, by go_num, hy, belq⟩
                    case measure => simp [intOf]; omega
                  · have b3 : (kind == 3) = false := by simpa using g3
                    by_cases g4 : kind = 4
                    · subst g4
                      have hy := hide (NO.out (by rw [HF.out]; simp [sayM]))
                      clear YES NO HF
                      go_wp2
                      go_ret
                      exact ⟨ret_bool hy.out.symm, belq⟩
                    · have b4 : (kind == 4) = false := by simpa using g4
                      have hy := hide (NO.out (by rw [HF.out]; simp [sayM, g1, g2, g3, g4]))
                      clear YES NO HF
                      go_wp2
                      go_ret
                      exact ⟨ret_bool hy.out.symm, belq⟩
        · obtain ⟨i, rfl⟩ : ∃ i, j = i + 1 := ⟨j - 1, by omega⟩
          have hil : i < s.length := by rw [← HN.out]; omega
          obtain ⟨p, off', rfl, hpl, hcell⟩ := seg_label ha hil
          obtain ⟨z, hz⟩ : ∃ z, z = lk s i := ⟨_, rfl⟩
          obtain ⟨u, hu⟩ : ∃ u, u = lv s i := ⟨_, rfl⟩
          have d0 : wr.cell? ⟨p, off' + i * 2, none⟩ = some (.string z) := by rw [hz]; exact (belq.cell (by exact hpl)).trans (hcell i hil).1
          have d1 : wr.cell? ⟨p, off' + i * 2 + 1, none⟩ = some (.string u) := by rw [hu]; exact (belq.cell (by exact hpl)).trans (hcell i hil).2
          have HD : Hid (find (s.drop i) key = if z = key then some u else if ok = true then some y else none) := by
            show _ = _
            rw [find_drop hil, HF.out, hz, hu]
          rw [show (((i + 1 : Nat) : Int) - 1) = (i : Int) from by omega]
          clear hz hu hcell hil HF
          by_cases ez : z = key
          · subst ez
            obtain ⟨v1, v2⟩ := word_self z
            have HD' : Hid (find (s.drop i) z = if true = true then some u else none) := by
              show _ = _
              rw [HD.out]; simp
            clear HD YES NO
            go_wp2
            go_quiet (fail)
            go_wp2
            go_roundw
            case rel => exact ⟨i, true, u, by omega, rfl, rfl, by go_num, HD', F, below_drewN belq _⟩
            case measure => simp [intOf]
          · obtain ⟨v1, v2⟩ := word_ne ez
            have HD' : Hid (find (s.drop i) key = if ok = true then some y else none) := by
              show _ = _
              rw [HD.out, if_neg ez]
            clear HD ez YES NO
            go_wp2
            go_quiet (fail)
            go_wp2
            go_roundw
            case rel => exact ⟨i, ok, y, by omega, rfl, rfl, by go_num, HD', F, below_drewN belq _⟩
            case measure => simp [intOf]
    · have he : k = m := by omega
      subst he
      have hT : Hid (says s l = true) := by
        show _ = _
        have := HS.out
        rwa [List.take_of_length_le (by rw [← HM.out]; omega)] at this
      clear HS
      go_wp2
      go_ret
      exact ⟨ret_bool hT.out.symm, bel⟩

end Go.Proofs.Ytfbipefllabefac
