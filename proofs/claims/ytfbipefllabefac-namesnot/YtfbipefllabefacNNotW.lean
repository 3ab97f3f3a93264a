/-
  The walk of NamesNot.
-/
import Derived.Test.YtfbipefllabefacNAlive
namespace Go.GrainU
open Go.RowKit

/-- the opposite kind; 0, if there is none -/
def opp (k : Int) : Int := if k = 1 then 2 else if k = 2 then 1 else if k = 3 then 4 else if k = 4 then 3 else 0

theorem say_opp (f : Option ByteArray) {k : Int} (key val : ByteArray) (h : k = 1 ∨ k = 2 ∨ k = 3 ∨ k = 4) : sayM f ⟨opp k, key, val⟩ = !sayM f ⟨k, key, val⟩ := by
  rcases h with rfl | rfl | rfl | rfl
  · simp [sayM, opp]
  · simp [sayM, opp]
  · cases f <;> simp [sayM, opp]
  · cases f <;> simp [sayM, opp]

theorem says_one (s : List (ByteArray × ByteArray)) (x : Mt) : says s [x] = sayM (find s x.key) x := by simp [says]

end Go.GrainU
namespace Go.Proofs.Ytfbipefllabefac
open Go.RowKit Go.GrainU

theorem not_world {w wr V : World} (a b : Int) (key val : ByteArray) (bel : Below w.heap.size w wr)
    (hV : V = ((wr.alloc (.cells #[.int .i64 a, .string key, .string val] 53)).alloc (.cells #[.int .i64 b, .string key, .string val] 53)).alloc (.cells #[.int .i64 a, .string key, .string val] 53)) :
    V.heap[wr.heap.size + 1]? = some (.cells #[.int .i64 b, .string key, .string val] 53 (0, 0)) ∧ Seg V (some ⟨wr.heap.size + 1 + 1, 0, none⟩) (mcells [⟨a, key, val⟩]) ∧ Below w.heap.size w V := by
  subst hV
  have hsz := bel.size
  refine ⟨?_, ?_, ((bel.alloc hsz _).alloc (by simp; omega) _).alloc (by simp; omega) _⟩
  · rw [Below.heap_alloc _ _ _ (by simp)]
    have := heap_alloc_new (wr.alloc (.cells #[.int .i64 a, .string key, .string val] 53)) (.cells #[.int .i64 b, .string key, .string val] 53)
    simpa using this
  · have := seg_new ((wr.alloc (.cells #[.int .i64 a, .string key, .string val] 53)).alloc (.cells #[.int .i64 b, .string key, .string val] 53)) #[.int .i64 a, .string key, .string val] 53
    simpa [mcells] using this

set_option maxHeartbeats 4000000 in
theorem nnot_any (s : List (ByteArray × ByteArray)) (l : List Mt) (ao bo : Option Addr) (n c m c' : Nat) (w : World) (ha : Seg w ao (lcells s)) (hb : Seg w bo (mcells l)) (hn : n = s.length) (hm : m = l.length) (hc : n ≤ 9223372036854775807) (hc' : m ≤ 9223372036854775807) :
    Calls Try.prog 6 #[.slice ao n c, .slice bo m c'] w fun e w' => e = .returned (.bool true) ∧ Below w.heap.size w w' := by
  have HN := hide hn
  have HM := hide hm
  clear hn hm
  go_enter Try.func6, Try.ntmps6
  go_wp2_with fail
  refine (alive_any w).mono ?_
  rintro e w1 ⟨rfl, k1⟩
  go_wp2
  go_loopw [5, 14] (fun q i wr => ∃ (k : Nat) (A : Bool), k ≤ m ∧ q = .bool A ∧ i = .int .i64 k ∧ Hid (says s (l.take k) = A) ∧ Below w.heap.size w wr) (fun _ i _ => m - (intOf i).toNat)
  case atStart => exact ⟨0, true, Nat.zero_le _, rfl, rfl, by show says s (l.take 0) = true; simp [says], k1⟩
  case round =>
    clear k1
    obtain ⟨k, A, hk, rfl, rfl, HW, bel⟩ := hrel
    have hsz := bel.size
    by_cases hlt : k < m
    · have hka : k < l.length := by rw [← HM.out]; exact hlt
      obtain ⟨p, off, rfl, hbl, hcell⟩ := seg_match hb hka
      obtain ⟨kind, hkd⟩ : ∃ x, x = (mt l k).kind := ⟨_, rfl⟩
      obtain ⟨key, hky⟩ : ∃ x, x = (mt l k).key := ⟨_, rfl⟩
      obtain ⟨val, hvl⟩ : ∃ x, x = (mt l k).val := ⟨_, rfl⟩
      have c0 : wr.cell? ⟨p, off + k * 3, none⟩ = some (.int .i64 kind) := by rw [hkd]; exact (bel.cell (by exact hbl)).trans (hcell k hka).1
      have c1 : wr.cell? ⟨p, off + k * 3 + 1, none⟩ = some (.string key) := by rw [hky]; exact (bel.cell (by exact hbl)).trans (hcell k hka).2.1
      have c2 : wr.cell? ⟨p, off + k * 3 + 2, none⟩ = some (.string val) := by rw [hvl]; exact (bel.cell (by exact hbl)).trans (hcell k hka).2.2
      have hmt : (⟨kind, key, val⟩ : Mt) = mt l k := by rw [hkd, hky, hvl]
      obtain ⟨D, hD⟩ : ∃ D, D = sayM (find s key) ⟨kind, key, val⟩ := ⟨_, rfl⟩
      have ST : Hid (says s (l.take (k + 1)) = (A && D)) := by
        show _ = _
        rw [says_take hka, HW.out, ← hmt, ← hD]
      have NO : Hid (¬ (kind = 1 ∨ kind = 2 ∨ kind = 3 ∨ kind = 4) → says s l = false) := by
        intro h
        refine says_no hka ?_
        rw [← hmt]
        simp only [not_or] at h
        simp [sayM, h.1, h.2.1, h.2.2.1, h.2.2.2]
      have HD := hide hD
      clear hkd hky hvl hcell hka HW hD hmt
      have blt : p < wr.heap.size := World.block_lt_of_cell? wr _ c0
      by_cases hkk : kind = 1 ∨ kind = 2 ∨ kind = 3 ∨ kind = 4
      · have HO : Hid (sayM (find s key) ⟨opp kind, key, val⟩ = !D) := by
          show _ = _
          rw [HD.out]
          exact say_opp _ _ _ hkk
        have HDo : Hid (says s [⟨kind, key, val⟩] = D) := by show _ = _; rw [says_one, HD.out]
        have HOo : Hid (says s [⟨opp kind, key, val⟩] = !D) := by show _ = _; rw [says_one]; exact HO.out
        have hop : kind = 1 ∧ opp kind = 2 ∨ kind = 2 ∧ opp kind = 1 ∨ kind = 3 ∧ opp kind = 4 ∨ kind = 4 ∧ opp kind = 3 := by
          rcases hkk with rfl | rfl | rfl | rfl <;> simp [opp]
        obtain ⟨K', hK'⟩ : ∃ K', K' = opp kind := ⟨_, rfl⟩
        rw [← hK'] at HOo hop
        clear hK' HO hkk NO HD
        rcases hop with ⟨rfl, rfl⟩ | ⟨rfl, rfl⟩ | ⟨rfl, rfl⟩ | ⟨rfl, rfl⟩
        · obtain ⟨V, hV⟩ : ∃ V, V = ((wr.alloc (.cells #[.int .i64 1, .string key, .string val] 53)).alloc (.cells #[.int .i64 2, .string key, .string val] 53)).alloc (.cells #[.int .i64 1, .string key, .string val] 53) := ⟨_, rfl⟩
          obtain ⟨F, sg, belV⟩ := not_world 1 2 key val bel hV
          have zV := belV.size
          have HV := hide hV
          clear hV
          go_wp2_with fail
          rw [← HV.out]
          refine (nmatches_any s [⟨1, key, val⟩] ao _ n c 1 1 V (ha.below belV) sg HN.out rfl hc (by decide)).mono ?_
          rintro e w2 ⟨rfl, k2⟩
          rw [HDo.out]
          have F2 := below_block k2 F
          obtain ⟨f0, f1, f2⟩ := three_cells F2
          have K2 : Below w.heap.size w w2 := belV.trans (k2.mono zV)
          have z2 := K2.size
          have b3 : Below w.heap.size w (w2.alloc (.cells #[.int .i64 2, .string key, .string val] 53)) := K2.alloc z2 _
          have s3 := seg_new w2 #[.int .i64 2, .string key, .string val] 53
          clear k2 belV zV sg F bel hsz c0 c1 c2 HV F2 HDo K2
          go_wp2_with fail
          refine (nmatches_any s [⟨2, key, val⟩] ao _ n c 1 1 _ (ha.below b3) s3 HN.out rfl hc (by decide)).mono ?_
          rintro e w3 ⟨rfl, k3⟩
          rw [HOo.out]
          have K3 : Below w.heap.size w w3 := b3.trans (k3.mono b3.size)
          clear k3 b3 s3 HOo f0 f1 f2 z2
          cases D with
          | false =>
            cases A with
            | false =>
              go_wp2
              go_roundw
              case rel => exact ⟨k + 1, false, by omega, rfl, by go_num, ST, K3⟩
              case measure => simp [intOf]; omega
            | true =>
              go_wp2
              go_roundw
              case rel => exact ⟨k + 1, false, by omega, rfl, by go_num, ST, K3⟩
              case measure => simp [intOf]; omega
          | true =>
            cases A with
            | false =>
              go_wp2
              go_roundw
              case rel => exact ⟨k + 1, false, by omega, rfl, by go_num, ST, K3⟩
              case measure => simp [intOf]; omega
            | true =>
              go_wp2
              go_roundw
              case rel => exact ⟨k + 1, true, by omega, rfl, by go_num, ST, K3⟩
              case measure => simp [intOf]; omega
        · obtain ⟨V, hV⟩ : ∃ V, V = ((wr.alloc (.cells #[.int .i64 2, .string key, .string val] 53)).alloc (.cells #[.int .i64 1, .string key, .string val] 53)).alloc (.cells #[.int .i64 2, .string key, .string val] 53) := ⟨_, rfl⟩
          obtain ⟨F, sg, belV⟩ := not_world 2 1 key val bel hV
          have zV := belV.size
          have HV := hide hV
          clear hV
          go_wp2_with fail
          rw [← HV.out]
          refine (nmatches_any s [⟨2, key, val⟩] ao _ n c 1 1 V (ha.below belV) sg HN.out rfl hc (by decide)).mono ?_
          rintro e w2 ⟨rfl, k2⟩
          rw [HDo.out]
          have F2 := below_block k2 F
          obtain ⟨f0, f1, f2⟩ := three_cells F2
          have K2 : Below w.heap.size w w2 := belV.trans (k2.mono zV)
          have z2 := K2.size
          have b3 : Below w.heap.size w (w2.alloc (.cells #[.int .i64 1, .string key, .string val] 53)) := K2.alloc z2 _
          have s3 := seg_new w2 #[.int .i64 1, .string key, .string val] 53
          clear k2 belV zV sg F bel hsz c0 c1 c2 HV F2 HDo K2
          go_wp2_with fail
          refine (nmatches_any s [⟨1, key, val⟩] ao _ n c 1 1 _ (ha.below b3) s3 HN.out rfl hc (by decide)).mono ?_
          rintro e w3 ⟨rfl, k3⟩
          rw [HOo.out]
          have K3 : Below w.heap.size w w3 := b3.trans (k3.mono b3.size)
          clear k3 b3 s3 HOo f0 f1 f2 z2
          cases D with
          | false =>
            cases A with
            | false =>
              go_wp2
              go_roundw
              case rel => exact ⟨k + 1, false, by omega, rfl, by go_num, ST, K3⟩
              case measure => simp [intOf]; omega
            | true =>
              go_wp2
              go_roundw
              case rel => exact ⟨k + 1, false, by omega, rfl, by go_num, ST, K3⟩
              case measure => simp [intOf]; omega
          | true =>
            cases A with
            | false =>
              go_wp2
              go_roundw
              case rel => exact ⟨k + 1, false, by omega, rfl, by go_num, ST, K3⟩
              case measure => simp [intOf]; omega
            | true =>
              go_wp2
              go_roundw
              case rel => exact ⟨k + 1, true, by omega, rfl, by go_num, ST, K3⟩
              case measure => simp [intOf]; omega
        · obtain ⟨V, hV⟩ : ∃ V, V = ((wr.alloc (.cells #[.int .i64 3, .string key, .string val] 53)).alloc (.cells #[.int .i64 4, .string key, .string val] 53)).alloc (.cells #[.int .i64 3, .string key, .string val] 53) := ⟨_, rfl⟩
          obtain ⟨F, sg, belV⟩ := not_world 3 4 key val bel hV
          have zV := belV.size
          have HV := hide hV
          clear hV
          go_wp2_with fail
          rw [← HV.out]
          refine (nmatches_any s [⟨3, key, val⟩] ao _ n c 1 1 V (ha.below belV) sg HN.out rfl hc (by decide)).mono ?_
          rintro e w2 ⟨rfl, k2⟩
          rw [HDo.out]
          have F2 := below_block k2 F
          obtain ⟨f0, f1, f2⟩ := three_cells F2
          have K2 : Below w.heap.size w w2 := belV.trans (k2.mono zV)
          have z2 := K2.size
          have b3 : Below w.heap.size w (w2.alloc (.cells #[.int .i64 4, .string key, .string val] 53)) := K2.alloc z2 _
          have s3 := seg_new w2 #[.int .i64 4, .string key, .string val] 53
          clear k2 belV zV sg F bel hsz c0 c1 c2 HV F2 HDo K2
          go_wp2_with fail
          refine (nmatches_any s [⟨4, key, val⟩] ao _ n c 1 1 _ (ha.below b3) s3 HN.out rfl hc (by decide)).mono ?_
          rintro e w3 ⟨rfl, k3⟩
          rw [HOo.out]
          have K3 : Below w.heap.size w w3 := b3.trans (k3.mono b3.size)
          clear k3 b3 s3 HOo f0 f1 f2 z2
          cases D with
          | false =>
            cases A with
            | false =>
              go_wp2
              go_roundw
              case rel => exact ⟨k + 1, false, by omega, rfl, by go_num, ST, K3⟩
              case measure => simp [intOf]; omega
            | true =>
              go_wp2
              go_roundw
              case rel => exact ⟨k + 1, false, by omega, rfl, by go_num, ST, K3⟩
              case measure => simp [intOf]; omega
          | true =>
            cases A with
            | false =>
              go_wp2
              go_roundw
              case rel => exact ⟨k + 1, false, by omega, rfl, by go_num, ST, K3⟩
              case measure => simp [intOf]; omega
            | true =>
              go_wp2
              go_roundw
              case rel => exact ⟨k + 1, true, by omega, rfl, by go_num, ST, K3⟩
              case measure => simp [intOf]; omega
        · obtain ⟨V, hV⟩ : ∃ V, V = ((wr.alloc (.cells #[.int .i64 4, .string key, .string val] 53)).alloc (.cells #[.int .i64 3, .string key, .string val] 53)).alloc (.cells #[.int .i64 4, .string key, .string val] 53) := ⟨_, rfl⟩
          obtain ⟨F, sg, belV⟩ := not_world 4 3 key val bel hV
          have zV := belV.size
          have HV := hide hV
          clear hV
          go_wp2_with fail
          rw [← HV.out]
          refine (nmatches_any s [⟨4, key, val⟩] ao _ n c 1 1 V (ha.below belV) sg HN.out rfl hc (by decide)).mono ?_
          rintro e w2 ⟨rfl, k2⟩
          rw [HDo.out]
          have F2 := below_block k2 F
          obtain ⟨f0, f1, f2⟩ := three_cells F2
          have K2 : Below w.heap.size w w2 := belV.trans (k2.mono zV)
          have z2 := K2.size
          have b3 : Below w.heap.size w (w2.alloc (.cells #[.int .i64 3, .string key, .string val] 53)) := K2.alloc z2 _
          have s3 := seg_new w2 #[.int .i64 3, .string key, .string val] 53
          clear k2 belV zV sg F bel hsz c0 c1 c2 HV F2 HDo K2
          go_wp2_with fail
          refine (nmatches_any s [⟨3, key, val⟩] ao _ n c 1 1 _ (ha.below b3) s3 HN.out rfl hc (by decide)).mono ?_
          rintro e w3 ⟨rfl, k3⟩
          rw [HOo.out]
          have K3 : Below w.heap.size w w3 := b3.trans (k3.mono b3.size)
          clear k3 b3 s3 HOo f0 f1 f2 z2
          cases D with
          | false =>
            cases A with
            | false =>
              go_wp2
              go_roundw
              case rel => exact ⟨k + 1, false, by omega, rfl, by go_num, ST, K3⟩
              case measure => simp [intOf]; omega
            | true =>
              go_wp2
              go_roundw
              case rel => exact ⟨k + 1, false, by omega, rfl, by go_num, ST, K3⟩
              case measure => simp [intOf]; omega
          | true =>
            cases A with
            | false =>
              go_wp2
              go_roundw
              case rel => exact ⟨k + 1, false, by omega, rfl, by go_num, ST, K3⟩
              case measure => simp [intOf]; omega
            | true =>
              go_wp2
              go_roundw
              case rel => exact ⟨k + 1, true, by omega, rfl, by go_num, ST, K3⟩
              case measure => simp [intOf]; omega
      · have HF := hide (NO.out hkk)
        simp only [not_or] at hkk
        obtain ⟨g1, g2, g3, g4⟩ := hkk
        have b1 : (kind == 1) = false := by simpa using g1
        have b2 : (kind == 2) = false := by simpa using g2
        have b3 : (kind == 3) = false := by simpa using g3
        have b4 : (kind == 4) = false := by simpa using g4
        have belV : Below w.heap.size w ((wr.alloc (.cells #[.int .i64 kind, .string key, .string val] 53)).alloc (.cells #[.int .i64 kind, .string key, .string val] 53)) := (bel.alloc hsz _).alloc (by simp; omega) _
        clear NO ST HD g1 g2 g3 g4
        go_wp2_with fail
        refine (nmatches_any s l ao (some ⟨p, off, none⟩) n c m c' _ (ha.below belV) (hb.below belV) HN.out HM.out hc hc').mono ?_
        rintro e w2 ⟨rfl, k2⟩
        rw [HF.out]
        have K2 : Below w.heap.size w w2 := belV.trans (k2.mono belV.size)
        clear k2 belV
        go_wp2
        go_ret
        exact ⟨rfl, K2⟩
    · have he : k = m := by omega
      subst he
      have hw : Hid (says s l = A) := by
        show _ = _
        have := HW.out
        rwa [List.take_of_length_le (by rw [← HM.out]; omega)] at this
      clear HW
      go_wp2_with fail
      refine (nmatches_any s l ao bo n c k c' wr (ha.below bel) (hb.below bel) HN.out HM.out hc hc').mono ?_
      rintro e w2 ⟨rfl, k2⟩
      rw [hw.out]
      have K2 : Below w.heap.size w w2 := bel.trans (k2.mono hsz)
      clear k2
      go_wp2
      go_ret
      exact ⟨ret_bool (by simp), K2⟩

end Go.Proofs.Ytfbipefllabefac
