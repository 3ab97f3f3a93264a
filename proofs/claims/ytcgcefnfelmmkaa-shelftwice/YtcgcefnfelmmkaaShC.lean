/-
  The walks of IndexFunc, ContainsFunc, kept and copied over buckets, at whatever function is handed in.
-/
import Derived.Test.YtcgcefnfelmmkaaShB
import Derived.Test.YtcgcefnfelmmkaaShU
import Derived.Test.YtcgcefnfelmmkaaRollWrong
namespace Go.Proofs.Ytcgcefnfelmmkaa
open Go.RowKit Go.GrainU

set_option maxRecDepth 20000 in
set_option maxHeartbeats 1000000 in
theorem kidx_any (l : List Grain.Bk) (p : Grain.Bk → Bool) (F : Nat) (caps : Array Value) (ao : Option Addr) (n c : Nat) (w : World) (ha : Seg w ao (kcells l)) (hn : n = l.length) (hc : n ≤ 9223372036854775807)
    (hE : Hid (∀ (args : Array Value) (W : World), (callFunc F args).run Try.prog W = .ok (.enter F args) W))
    (hF : ∀ W K, Below w.heap.size w W → Calls Try.prog F (#[kv K] ++ caps) W fun e W' => e = .returned (.bool (p K)) ∧ Below W.heap.size W W') :
    Calls Try.prog 57 #[.slice ao n c, .func (.func F) #[] caps] w fun e w' => (∃ i, e = .returned (.int .i64 i) ∧ decide (0 ≤ i) = l.any fun x => p x) ∧ Below w.heap.size w w' := by
  have HN := hide hn
  have HF := hide hF
  clear hn hF
  go_enter Try.func57, Try.ntmps57
  go_wp2
  go_loopw [8] (fun i wr => ∃ k : Nat, k ≤ n ∧ i = .int .i64 k ∧ Hid ((l.any fun x => p x) = (l.drop k).any fun x => p x) ∧ Below w.heap.size w wr) (fun i _ => n - (intOf i).toNat)
  case atStart => exact ⟨0, Nat.zero_le _, rfl, rfl, Below.refl _ _⟩
  case round =>
    obtain ⟨k, hk, rfl, HW, bel⟩ := hrel
    have hsz := bel.size
    by_cases hlt : k < n
    · have hkl : k < l.length := by rw [← HN.out]; exact hlt
      obtain ⟨b, off, rfl, hb, hcell⟩ := seg_bucket ha hkl
      obtain ⟨K, hK⟩ : ∃ K, K = Grain.bk l k := ⟨_, rfl⟩
      have q := (hcell k hkl).below bel hb
      rw [← hK] at q
      obtain ⟨c0, c1, c2, c3, c4, c5, c6, c7⟩ := q
      have HS : Hid ((l.any fun x => p x) = (p K || (l.drop (k + 1)).any fun x => p x)) := by
        show _ = _
        rw [HW.out, List.drop_eq_getElem_cons hkl, List.any_cons, hK, Grain.bk_get hkl]
      clear hK hcell hkl HW
      go_wp2_with fail
      rw [hE.out, Oper.upon_enter]
      refine (HF.out wr K bel).mono ?_
      rintro e w1 ⟨rfl, hb1⟩
      have bel1 : Below w.heap.size w w1 := bel.trans (hb1.mono hsz)
      clear hb1 bel c0 c1 c2 c3 c4 c5 c6 c7
      cases hp : p K
      · have hw : Hid ((l.any fun x => p x) = (l.drop (k + 1)).any fun x => p x) := by show _ = _; rw [HS.out, hp]; rfl
        clear HS hp
        go_wp2
        go_roundw
        case rel => exact ⟨k + 1, by omega, by go_num, hw, bel1⟩
        case measure => simp [intOf]; omega
      · have hw : Hid ((l.any fun x => p x) = true) := by show _ = _; rw [HS.out, hp]; rfl
        clear HS hp
        go_wp2
        go_ret
        exact ⟨⟨_, rfl, by rw [hw.out]; simp⟩, bel1⟩
    · have he : k = n := by omega
      subst he
      have hw : Hid ((l.any fun x => p x) = false) := by
        show _ = _
        rw [HW.out, List.drop_eq_nil_of_le (by rw [← HN.out]; omega)]; rfl
      clear HW
      go_wp2
      go_ret
      exact ⟨⟨_, rfl, by rw [hw.out]; rfl⟩, bel⟩

set_option maxHeartbeats 400000 in
theorem kcont_any (l : List Grain.Bk) (p : Grain.Bk → Bool) (F : Nat) (caps : Array Value) (ao : Option Addr) (n c : Nat) (w : World) (ha : Seg w ao (kcells l)) (hn : n = l.length) (hc : n ≤ 9223372036854775807)
    (hE : Hid (∀ (args : Array Value) (W : World), (callFunc F args).run Try.prog W = .ok (.enter F args) W))
    (hF : ∀ W K, Below w.heap.size w W → Calls Try.prog F (#[kv K] ++ caps) W fun e W' => e = .returned (.bool (p K)) ∧ Below W.heap.size W W') :
    Calls Try.prog 55 #[.slice ao n c, .func (.func F) #[] caps] w fun e w' => e = .returned (.bool (l.any fun x => p x)) ∧ Below w.heap.size w w' := by
  have HF := hide hF
  have HN := hide hn
  clear hF hn
  go_enter Try.func55, Try.ntmps55
  go_wp2_with fail
  refine (kidx_any l p F caps ao n c w ha HN.out hc hE HF.out).mono ?_
  rintro e w1 ⟨⟨i, rfl, hi⟩, hb1⟩
  have HI := hide hi
  clear hi
  go_wp2
  go_ret
  exact ⟨by rw [← HI.out]; rfl, hb1⟩

set_option maxRecDepth 20000 in
set_option maxHeartbeats 2000000 in
theorem kkept_any (l : List Grain.Bk) (p : Grain.Bk → Bool) (F : Nat) (caps : Array Value) (ao : Option Addr) (n c : Nat) (w : World) (hs : Seg w ao (kcells l)) (hn : n = l.length) (hL : n ≤ 1000000)
    (hE : Hid (∀ (args : Array Value) (W : World), (callFunc F args).run Try.prog W = .ok (.enter F args) W))
    (hF : ∀ W K, Below w.heap.size w W → Calls Try.prog F (#[kv K] ++ caps) W fun e W' => e = .returned (.bool (p K)) ∧ Below W.heap.size W W') :
    Calls Try.prog 29 #[.slice ao n c, .func (.func F) #[] caps] w fun e w' => ∃ co N d, e = .returned (.slice co N d) ∧ w'.ownsRow w.heap.size 67 8 (.slice co N d) N (kcells (l.filter fun x => p x)) ∧ Below w.heap.size w w' := by
  obtain ⟨i0, hi, hz0, hz1, hz2⟩ := sinfo_parts Try.infoBucket
  have HN := hide hn
  have HF := hide hF
  clear hn hF
  go_enter Try.func29, Try.ntmps29
  go_wp2
  go_loopw [5, 10] (fun out i wr => ∃ (k N d : Nat) (co : Option Addr), k ≤ n ∧ i = .int .i64 k ∧ out = .slice co N d ∧ N ≤ k ∧ wr.ownsRow w.heap.size 67 8 (.slice co N d) N (kcells ((l.take k).filter fun x => p x)) ∧ Below w.heap.size w wr) (fun _ i _ => n - (intOf i).toNat)
  case atStart => exact ⟨0, 0, 0, none, Nat.zero_le _, rfl, rfl, Nat.le_refl _, World.ownsRow_nil _ _ _ _, Below.refl _ _⟩
  case round =>
    obtain ⟨k, N, d, co, hk, rfl, rfl, hNk, own, bel⟩ := hrel
    have hsz := bel.size
    by_cases hlt : k < n
    · have hkl : k < l.length := by rw [← HN.out]; exact hlt
      obtain ⟨b, off, rfl, hbl, hcell⟩ := seg_bucket hs hkl
      obtain ⟨K, hK⟩ : ∃ K, K = Grain.bk l k := ⟨_, rfl⟩
      have q := (hcell k hkl).below bel hbl
      rw [← hK] at q
      obtain ⟨c0, c1, c2, c3, c4, c5, c6, c7⟩ := q
      have HU : Hid (((l.take (k + 1)).filter fun x => p x) = if p K = true then ((l.take k).filter fun x => p x) ++ [K] else (l.take k).filter fun x => p x) := by
        show _ = _
        rw [filter_take _ hkl, hK, Grain.bk_get hkl]
      clear hK hcell hkl
      obtain ⟨V, hV⟩ : ∃ V, V = wr.alloc (ko K) := ⟨_, rfl⟩
      obtain ⟨X, hX⟩ : ∃ X, X = wr.heap.size := ⟨_, rfl⟩
      have F1 : V.heap[X]? = some (ko K) := by rw [hV, hX]; exact heap_alloc_new wr _
      have own1 : V.ownsRow w.heap.size 67 8 (.slice co N d) N (kcells ((l.take k).filter fun x => p x)) := by rw [hV]; exact own.alloc _
      have bel1 : Below w.heap.size w V := by rw [hV]; exact bel.alloc hsz _
      have hs1 := bel1.size
      have HV : Hid (V = wr.alloc (.cells #[.int .i64 K.a, .int .i64 K.s.c, .int .i64 K.s.t, .int .i64 K.s.mn, .int .i64 K.s.mx, .int .i64 K.s.f, .int .i64 K.s.l, .int .i64 K.s.r] 67)) := hV
      have HX := hide hX
      clear hV own
      go_wp2_with fail
      rw [hE.out, Oper.upon_enter, ← HV.out, ← HX.out]
      refine (HF.out V K bel1).mono ?_
      rintro e w1 ⟨rfl, hb1⟩
      have F2 : w1.heap[X]? = some (ko K) := below_block hb1 F1
      have own2 := own_below own1 hb1
      have bel2 : Below w.heap.size w w1 := bel1.trans (hb1.mono hs1)
      have hs2 := bel2.size
      obtain ⟨p0, p1, p2, p3, p4, p5, p6, p7⟩ := eight_cells F2
      clear hb1 own1 bel1 bel HV HX F1 hX c0 c1 c2 c3 c4 c5 c6 c7 hsz hs1
      cases hh : p K with
      | true =>
        have HE : Hid (((l.take (k + 1)).filter fun x => p x) = ((l.take k).filter fun x => p x) ++ [K]) := by
          show _ = _
          rw [HU.out, if_pos hh]
        clear HU hh
        go_wp2_with (at_builtin; refine wpList_append_lies _ rfl _ _ 25 rfl w.heap.size 67 i0 (.agg #[.int .i64 0, .int .i64 0, .int .i64 0, .int .i64 0, .int .i64 0, .int .i64 0, .int .i64 0, .int .i64 0]) 8 64 Try.underlying25 hi hz0 hz1 hz2 rfl (by decide) _ _ _ rfl (own2.alloc _) ⟨w1.heap.size, 0, none⟩ 1 1 (kc K) rfl rfl (World.news_of_block (cs := #[.int .i64 K.a, .int .i64 K.s.c, .int .i64 K.s.t, .int .i64 K.s.mn, .int .i64 K.s.mx, .int .i64 K.s.f, .int .i64 K.s.l, .int .i64 K.s.r]) (t := 67) (fr := (0, 0)) (by simpa using heap_alloc_new w1 _)) (by simp [kc, Value.oneCell']) (by decide) (by unfold maxLen; omega) (by omega) (by simp; omega) (w1.heap.size + 1) (by simp) ?_)
        intro g' cp' w5 own5 gr5 hat5 hlt5
        have own6 : w5.ownsRow w.heap.size 67 8 (.slice (some ⟨g', 0, none⟩) (N + 1) cp') (N + 1) (kcells ((l.take (k + 1)).filter fun x => p x)) := by
          rw [HE.out, kcells_snoc]; exact own5
        have bel5 : Below w.heap.size w w5 := (bel2.alloc hs2 _).grown gr5 (by simp; omega) (fun j hj => (own2.lt j hj).1)
        clear own5 gr5 hat5 hlt5 own2 HE
        go_wp2
        go_roundw
        case rel => exact ⟨k + 1, N + 1, cp', _, by omega, by go_num, rfl, by omega, own6, bel5⟩
        case measure => simp [intOf]; omega
      | false =>
        have HE : Hid (((l.take (k + 1)).filter fun x => p x) = (l.take k).filter fun x => p x) := by
          show _ = _
          rw [HU.out, if_neg (by rw [hh]; decide)]
        clear HU hh
        rw [← HE.out] at own2
        go_wp2
        go_roundw
        case rel => exact ⟨k + 1, N, d, co, by omega, by go_num, rfl, by omega, own2, bel2⟩
        case measure => simp [intOf]; omega
    · have he : k = n := by omega
      subst he
      have HT := hide (List.take_of_length_le (i := k) (l := l) (by rw [← HN.out]; omega))
      rw [HT.out] at own
      clear HT HN
      go_wp2
      go_ret
      exact ⟨co, N, d, rfl, own, bel⟩

set_option maxHeartbeats 1000000 in
theorem kcopy_any (l : List Grain.Bk) (ao : Option Addr) (n c : Nat) (w : World) (hs : Seg w ao (kcells l)) (hn : n = l.length) (hL : n * 64 ≤ 140737488355328) (hnil : ao = none → n = 0 ∧ c = 0) :
    Calls Try.prog 50 #[.slice ao n c] w fun e w' => ∃ co N d, e = .returned (.slice co N d) ∧ w'.ownsRow w.heap.size 67 8 (.slice co N d) N (kcells l) ∧ Below w.heap.size w w' := by
  obtain ⟨i0, hi, hz0, hz1, hz2⟩ := sinfo_parts Try.infoBucket
  have HN := hide hn
  have HL := hide hL
  have HZ := hide hnil
  clear hn hL hnil
  go_enter Try.func50, Try.ntmps50
  go_wp2_with (at_builtin; refine append_seg rfl _ _ 25 rfl w.heap.size 67 i0 (.agg #[.int .i64 0, .int .i64 0, .int .i64 0, .int .i64 0, .int .i64 0, .int .i64 0, .int .i64 0, .int .i64 0]) 8 64 Try.underlying25 hi hz0 hz1 hz2 rfl (by decide) _ 0 [] rfl (World.ownsRow_nil _ _ _ _) ao n c (kcells l) rfl HZ.out hs ?qc1 (kcells_one l) ?qc4 ?qc5 (Nat.le_refl _) ?_)
  case qc1 => rw [kcells_length, HN.out]
  case qc4 => have := HL.out; unfold maxLen; omega
  case qc5 => have := HL.out; omega
  intro v' w1 own gr
  obtain ⟨ao', c', rfl, _, _⟩ := own_open own
  have bel1 : Below w.heap.size w w1 := (Below.refl _ _).grown gr (Nat.le_refl _) (fun j hj => by simp [Value.ownBlock] at hj)
  have own2 : w1.ownsRow w.heap.size 67 8 (.slice ao' (0 + n) c') (0 + n) (kcells l) := by simpa using own
  clear own gr
  go_wp2
  go_ret
  exact ⟨ao', n, c', rfl, by simpa using own2, bel1⟩

end Go.Proofs.Ytcgcefnfelmmkaa
