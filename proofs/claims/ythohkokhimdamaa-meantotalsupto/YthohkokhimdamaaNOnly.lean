/-
  The walk of names.Only.
-/
import Derived.Test.YthohkokhimdamaaRefOnly
import Derived.Test.YthohkokhimdamaaNCont
namespace Go.Proofs.Ythohkokhimdamaa
open Go.RowKit Go.GrainU

theorem nonly1_any (ks : List ByteArray) (x y : ByteArray) (B : Nat) (bo : Option Addr) (m c : Nat) (w : World) (hb : Seg w bo (wcells ks)) (hB : w.cell? ⟨B, 0, none⟩ = some (.slice bo m c)) (hm : m = ks.length) (hM : m ≤ 9223372036854775807) :
    Calls Try.prog 64 #[.agg #[.string x, .string y], .pointer (some ⟨B, 0, none⟩)] w fun e w' => e = .returned (.bool (has ks x)) ∧ w' = w.alloc (.cells #[.string x, .string y] 40) := by
  have hl : B < w.heap.size := World.block_lt_of_cell? w _ hB
  have bel : Below w.heap.size w (w.alloc (.cells #[.string x, .string y] 40)) := (Below.refl _ _).alloc (Nat.le_refl _) _
  have hbV := hb.below bel
  have HM := hide hm
  clear hm
  obtain ⟨D, hD⟩ : ∃ D, D = has ks x := ⟨_, rfl⟩
  rw [← hD]
  have HD := hide hD
  clear hD
  go_enter Try.func64, Try.ntmps64
  go_wp2_with fail
  refine (ncont_any ks x bo m c _ hbV HM.out hM).mono ?_
  rintro e w1 ⟨rfl, hw⟩
  rw [hw]
  rw [← HD.out]
  go_wp2
  go_ret
  exact ⟨rfl, rfl⟩

set_option maxHeartbeats 2000000 in
theorem nkept_any (l : List (ByteArray × ByteArray)) (ks : List ByteArray) (B : Nat) (ao bo : Option Addr) (n cap m c : Nat) (w : World) (hs : Seg w ao (lcells l)) (hn : n = l.length) (hL : n * 32 ≤ 140737488351232) (hb : Seg w bo (wcells ks)) (hB : w.cell? ⟨B, 0, none⟩ = some (.slice bo m c)) (hm : m = ks.length) (hM : m ≤ 9223372036854775807) :
    Calls Try.prog 63 #[.slice ao n cap, .func (.func 64) #[] #[.pointer (some ⟨B, 0, none⟩)]] w fun e w' => ∃ co N d, e = .returned (.slice co N d) ∧ w'.ownsRow w.heap.size 40 2 (.slice co N d) N (lcells (only l ks)) ∧ Below w.heap.size w w' := by
  obtain ⟨i0, hi, hz0, hz1, hz2⟩ := info_parts Try.infoLabel
  have hl : B < w.heap.size := World.block_lt_of_cell? w _ hB
  have HN := hide hn
  have HM := hide hm
  clear hn hm
  go_enter Try.func63, Try.ntmps63
  go_wp2
  go_loopw [5, 10] (fun out i wr => ∃ (k N d : Nat) (co : Option Addr), k ≤ n ∧ i = .int .i64 k ∧ out = .slice co N d ∧ N ≤ k ∧ wr.ownsRow w.heap.size 40 2 (.slice co N d) N (lcells (only (l.take k) ks)) ∧ Below w.heap.size w wr) (fun _ i _ => n - (intOf i).toNat)
  case atStart => exact ⟨0, 0, 0, none, Nat.zero_le _, rfl, rfl, Nat.le_refl _, World.ownsRow_nil _ _ _ _, Below.refl _ _⟩
  case round =>
    obtain ⟨k, N, d, co, hk, rfl, rfl, hNk, own, bel⟩ := hrel
    have hsz := bel.size
    by_cases hlt : k < n
    · have hkl : k < l.length := by rw [← HN.out]; exact hlt
      obtain ⟨b, off, rfl, hbl, hcell⟩ := seg_label hs hkl
      obtain ⟨x, hx⟩ : ∃ x, x = lk l k := ⟨_, rfl⟩
      obtain ⟨y, hy⟩ : ∃ y, y = lv l k := ⟨_, rfl⟩
      have c0 : wr.cell? ⟨b, off + k * 2, none⟩ = some (.string x) := by rw [hx]; exact (bel.cell (by exact hbl)).trans (hcell k hkl).1
      have c1 : wr.cell? ⟨b, off + k * 2 + 1, none⟩ = some (.string y) := by rw [hy]; exact (bel.cell (by exact hbl)).trans (hcell k hkl).2
      have HU : Hid (only (l.take (k + 1)) ks = if has ks x = true then only (l.take k) ks ++ [(x, y)] else only (l.take k) ks) := by rw [hx, hy]; exact only_take hkl
      clear hx hy hcell hkl
      obtain ⟨V, hV⟩ : ∃ V, V = wr.alloc (.cells #[.string x, .string y] 40) := ⟨_, rfl⟩
      obtain ⟨X, hX⟩ : ∃ X, X = wr.heap.size := ⟨_, rfl⟩
      have F1 : V.heap[X]? = some (.cells #[.string x, .string y] 40 (0, 0)) := by rw [hV, hX]; exact heap_alloc_new wr _
      have own1 : V.ownsRow w.heap.size 40 2 (.slice co N d) N (lcells (only (l.take k) ks)) := by rw [hV]; exact own.alloc _
      have bel1 : Below w.heap.size w V := by rw [hV]; exact bel.alloc hsz _
      have hs1 := bel1.size
      have cB : V.cell? ⟨B, 0, none⟩ = some (.slice bo m c) := (bel1.cell (by exact hl)).trans hB
      have hbV := hb.below bel1
      have HV := hide hV
      have HX := hide hX
      clear hV own
      go_wp2_with fail
      rw [← HV.out, ← HX.out]
      refine (nonly1_any ks x y B bo m c V hbV cB HM.out hM).mono ?_
      rintro e w1 ⟨rfl, hw1⟩
      have F2 : w1.heap[X]? = some (.cells #[.string x, .string y] 40 (0, 0)) := by
        rw [hw1, Below.heap_alloc _ _ _ (lt_of_block F1)]; exact F1
      have own2 : w1.ownsRow w.heap.size 40 2 (.slice co N d) N (lcells (only (l.take k) ks)) := by rw [hw1]; exact own1.alloc _
      have bel2 : Below w.heap.size w w1 := by rw [hw1]; exact bel1.alloc hs1 _
      have hs2 := bel2.size
      obtain ⟨p0, p1, _, _⟩ := two_cells F2
      clear hw1 own1 bel1 bel HV HX F1 hX cB hbV c0 c1 hsz hs1
      cases hh : has ks x with
      | true =>
        have HE : Hid (only (l.take (k + 1)) ks = only (l.take k) ks ++ [(x, y)]) := by
          show _ = _
          rw [HU.out, if_pos hh]
        clear HU hh
        go_wp2_with (at_builtin; refine wpList_append_lies _ rfl _ _ 35 rfl w.heap.size 40 i0 (.agg #[.string ⟨#[]⟩, .string ⟨#[]⟩]) 2 32 Try.underlying35 hi hz0 hz1 hz2 rfl (by decide) _ _ _ rfl (own2.alloc _) ⟨w1.heap.size, 0, none⟩ 1 1 [.string x, .string y] rfl rfl (news_two rfl _ _ _) (by simp [Value.oneCell']) (by decide) (by unfold maxLen; omega) (by omega) (by simp; omega) (w1.heap.size + 1) (by simp) ?_)
        intro g' cp' w5 own5 gr5 hat5 hlt5
        have own6 : w5.ownsRow w.heap.size 40 2 (.slice (some ⟨g', 0, none⟩) (N + 1) cp') (N + 1) (lcells (only (l.take (k + 1)) ks)) := by
          rw [HE.out, lcells_append]; exact own5
        have bel5 : Below w.heap.size w w5 := (bel2.alloc hs2 _).grown gr5 (by simp; omega) (fun j hj => (own2.lt j hj).1)
        clear own5 gr5 hat5 hlt5 own2 HE
        go_wp2
        go_roundw
        case rel => exact ⟨k + 1, N + 1, cp', _, by omega, by go_num, rfl, by omega, own6, bel5⟩
        case measure => simp [intOf]; omega
      | false =>
        have HE : Hid (only (l.take (k + 1)) ks = only (l.take k) ks) := by
          show _ = _
          rw [HU.out, hh, if_neg (by decide)]
        rw [← HE.out] at own2
        clear HU HE hh
        go_wp2
        go_roundw
        case rel => exact ⟨k + 1, N, d, co, by omega, by go_num, rfl, by omega, own2, bel2⟩
        case measure => simp [intOf]; omega
    · have he : k = n := by omega
      subst he
      have HT := hide (List.take_of_length_le (i := k) (l := l) (by rw [← HN.out]; omega))
      rw [HT.out] at own
      clear HT HN
      go_wp2
      go_ret
      exact ⟨co, N, d, rfl, own, bel⟩

set_option maxHeartbeats 1000000 in
theorem nonly_any (l : List (ByteArray × ByteArray)) (ks : List ByteArray) (ao bo : Option Addr) (n cap m c : Nat) (w : World) (hs : Seg w ao (lcells l)) (hn : n = l.length) (hL : n * 32 ≤ 140737488351232) (hb : Seg w bo (wcells ks)) (hm : m = ks.length) (hM : m ≤ 9223372036854775807) :
    Calls Try.prog 47 #[.slice ao n cap, .slice bo m c] w fun e w' => ∃ co N d, e = .returned (.slice co N d) ∧ Seg w' co (lcells (only l ks)) ∧ N = (only l ks).length ∧ Below w.heap.size w w' := by
  obtain ⟨V, hV⟩ : ∃ V, V = w.alloc (.cells #[.slice bo m c] 24) := ⟨_, rfl⟩
  have bel : Below w.heap.size w V := by rw [hV]; exact (Below.refl _ _).alloc (Nat.le_refl _) _
  have cB : V.cell? ⟨w.heap.size, 0, none⟩ = some (.slice bo m c) := by rw [hV]; simp
  have hsz := bel.size
  have HV := hide hV
  have HN := hide hn
  have HM := hide hm
  clear hV hn hm
  have haV := hs.below bel
  have hbV := hb.below bel
  go_enter Try.func47, Try.ntmps47
  go_wp2_with fail
  rw [← HV.out]
  refine (nkept_any l ks w.heap.size ao bo n cap m c V haV HN.out hL hbV cB HM.out hM).mono ?_
  rintro e w1 ⟨co, N, d, rfl, own, hb1⟩
  have bel1 : Below w.heap.size w w1 := bel.trans (hb1.mono hsz)
  obtain ⟨ao', c', hv, hseg, _⟩ := own_open own
  have hlen := own_llen own
  simp only [Value.slice.injEq] at hv
  obtain ⟨rfl, -, rfl⟩ := hv
  clear hb1 own
  have HL := hide hlen
  clear hlen
  go_wp2
  go_ret
  exact ⟨co, N, d, rfl, hseg, HL.out, bel1⟩

end Go.Proofs.Ythohkokhimdamaa
