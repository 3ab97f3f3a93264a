/-
  The walks of the document's most, least and later.
-/
import Derived.Test.YtfgablhgjbjbkaeShC
import Derived.Deep.CutRange
namespace Go.Proofs.Ytfgablhgjbjbkae
open Go.RowKit Go.GrainU

theorem most_any (a b : Int) (w : World) : Calls Try.prog 65 #[.int .i64 a, .int .i64 b] w fun e w' => e = .returned (.int .i64 (max b a)) ∧ w' = w := by
  by_cases h : b < a
  · have hd : decide (b < a) = true := by simpa using h
    have hm : Hid (max b a = a) := by show _ = _; omega
    go_enter Try.func65, Try.ntmps65
    go_wp2
    go_ret
    exact ⟨by rw [hm.out]; rfl, rfl⟩
  · have hd : decide (b < a) = false := by simpa using h
    have hm : Hid (max b a = b) := by show _ = _; omega
    go_enter Try.func65, Try.ntmps65
    go_wp2
    go_ret
    exact ⟨by rw [hm.out]; rfl, rfl⟩

theorem least_any (a b : Int) (w : World) : Calls Try.prog 66 #[.int .i64 a, .int .i64 b] w fun e w' => e = .returned (.int .i64 (min a b)) ∧ w' = w := by
  by_cases h : a < b
  · have hd : decide (a < b) = true := by simpa using h
    have hm : Hid (min a b = a) := by show _ = _; omega
    go_enter Try.func66, Try.ntmps66
    go_wp2
    go_ret
    exact ⟨by rw [hm.out]; rfl, rfl⟩
  · have hd : decide (a < b) = false := by simpa using h
    have hm : Hid (min a b = b) := by show _ = _; omega
    go_enter Try.func66, Try.ntmps66
    go_wp2
    go_ret
    exact ⟨by rw [hm.out]; rfl, rfl⟩

set_option maxHeartbeats 2000000 in
theorem later_any (l : List Grain.Bk) (A : Int) (ao : Option Addr) (n c : Nat) (w : World) (hs : Seg w ao (kcells l)) (hn : n = l.length) (hL : n ≤ 1000000) :
    Calls Try.prog 67 #[.slice ao n c, .int .i64 A] w fun e w' => ∃ co N d, e = .returned (.slice co N d) ∧ w'.ownsRow w.heap.size 90 8 (.slice co N d) N (kcells (l.filter fun x => decide (A ≤ x.a))) ∧ Below w.heap.size w w' := by
  obtain ⟨i0, hi, hz0, hz1, hz2⟩ := sinfo_parts Try.infoBucket
  have HN := hide hn
  clear hn
  go_enter Try.func67, Try.ntmps67
  go_wp2
  go_loopw [5, 10] (fun out i wr => ∃ (k N d : Nat) (co : Option Addr), k ≤ n ∧ i = .int .i64 k ∧ out = .slice co N d ∧ N ≤ k ∧ wr.ownsRow w.heap.size 90 8 (.slice co N d) N (kcells ((l.take k).filter fun x => decide (A ≤ x.a))) ∧ Below w.heap.size w wr) (fun _ i _ => n - (intOf i).toNat)
  case atStart => exact ⟨0, 0, 0, none, Nat.zero_le _, rfl, rfl, Nat.le_refl _, World.ownsRow_nil _ _ _ _, Below.refl _ _⟩
  case round =>
    obtain ⟨k, N, d, co, hk, rfl, rfl, hNk, own, bel⟩ := hrel
    have hsz := bel.size
    by_cases hlt : k < n
    · have hkl : k < l.length := by rw [← HN.out]; exact hlt
      obtain ⟨b, off, rfl, hbl, hcell⟩ := seg_bucket hs hkl
      obtain ⟨K, hK⟩ : ∃ K, K = Grain.bk l k := ⟨_, rfl⟩
      have q := (hcell k hkl).below bel hbl
      rw [← hK] at q
      obtain ⟨c0, c1, c2, c3, c4, c5, c6, c7⟩ := q
      have HU : Hid (((l.take (k + 1)).filter fun x => decide (A ≤ x.a)) = if decide (A ≤ K.a) = true then ((l.take k).filter fun x => decide (A ≤ x.a)) ++ [K] else (l.take k).filter fun x => decide (A ≤ x.a)) := by
        show _ = _
        rw [filter_take _ hkl, hK, Grain.bk_get hkl]
      clear hK hcell hkl
      obtain ⟨V, hV⟩ : ∃ V, V = wr.alloc (ko K) := ⟨_, rfl⟩
      obtain ⟨X, hX⟩ : ∃ X, X = wr.heap.size := ⟨_, rfl⟩
      have F2 : V.heap[X]? = some (ko K) := by rw [hV, hX]; exact heap_alloc_new wr _
      have own2 : V.ownsRow w.heap.size 90 8 (.slice co N d) N (kcells ((l.take k).filter fun x => decide (A ≤ x.a))) := by rw [hV]; exact own.alloc _
      have bel2 : Below w.heap.size w V := by rw [hV]; exact bel.alloc hsz _
      have hs2 := bel2.size
      have HV : Hid (V = wr.alloc (.cells #[.int .i64 K.a, .int .i64 K.s.c, .int .i64 K.s.t, .int .i64 K.s.mn, .int .i64 K.s.mx, .int .i64 K.s.f, .int .i64 K.s.l, .int .i64 K.s.r] 90)) := hV
      have HX := hide hX
      clear hV own
      go_upto_region 5 with fail
      rw [← HV.out, ← HX.out]
      obtain ⟨p0, p1, p2, p3, p4, p5, p6, p7⟩ := eight_cells F2
      clear bel HV HX hX c0 c1 c2 c3 c4 c5 c6 c7 hsz
      cases hh : decide (A ≤ K.a) with
      | true =>
        have HE : Hid (((l.take (k + 1)).filter fun x => decide (A ≤ x.a)) = ((l.take k).filter fun x => decide (A ≤ x.a)) ++ [K]) := by
          show _ = _
          rw [HU.out, if_pos hh]
        clear HU
        go_wp2_with (at_builtin; refine wpList_append_lies _ rfl _ _ 42 rfl w.heap.size 90 i0 (.agg #[.int .i64 0, .int .i64 0, .int .i64 0, .int .i64 0, .int .i64 0, .int .i64 0, .int .i64 0, .int .i64 0]) 8 64 Try.underlying42 hi hz0 hz1 hz2 rfl (by decide) _ _ _ rfl (own2.alloc _) ⟨V.heap.size, 0, none⟩ 1 1 (kc K) rfl rfl (World.news_of_block (cs := #[.int .i64 K.a, .int .i64 K.s.c, .int .i64 K.s.t, .int .i64 K.s.mn, .int .i64 K.s.mx, .int .i64 K.s.f, .int .i64 K.s.l, .int .i64 K.s.r]) (t := 90) (fr := (0, 0)) (by simpa using heap_alloc_new V _)) (by simp [kc, Value.oneCell']) (by decide) (by unfold maxLen; omega) (by omega) (by simp; omega) (V.heap.size + 1) (by simp) ?_)
        intro g' cp' w5 own5 gr5 hat5 hlt5
        have own6 : w5.ownsRow w.heap.size 90 8 (.slice (some ⟨g', 0, none⟩) (N + 1) cp') (N + 1) (kcells ((l.take (k + 1)).filter fun x => decide (A ≤ x.a))) := by
          rw [HE.out, kcells_snoc]; exact own5
        have bel5 : Below w.heap.size w w5 := (bel2.alloc hs2 _).grown gr5 (by simp; omega) (fun j hj => (own2.lt j hj).1)
        clear own5 gr5 hat5 hlt5 own2 HE hh
        go_wp2
        go_roundw
        case rel => exact ⟨k + 1, N + 1, cp', _, by omega, by go_num, rfl, by omega, own6, bel5⟩
        case measure => simp [intOf]; omega
      | false =>
        have HE : Hid (((l.take (k + 1)).filter fun x => decide (A ≤ x.a)) = (l.take k).filter fun x => decide (A ≤ x.a)) := by
          show _ = _
          rw [HU.out, if_neg (by rw [hh]; decide)]
        clear HU
        rw [← HE.out] at own2
        go_wp2
        go_roundw
        case rel => exact ⟨k + 1, N, d, co, by omega, by go_num, rfl, by omega, own2, bel2⟩
        case measure => simp [intOf]; omega
    · have he : k = n := by omega
      subst he
      have HT := hide (List.take_of_length_le (i := k) (l := l) (by rw [← HN.out]; omega))
      rw [HT.out] at own
      clear HT HN
      go_wp2
      go_ret
      exact ⟨co, N, d, rfl, own, bel⟩

end Go.Proofs.Ytfgablhgjbjbkae
