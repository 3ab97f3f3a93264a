/-
  The walks of IndexFunc, ContainsFunc, kept and copied over samples, at whatever function is handed in.
-/
import Derived.Test.YtcgcefnfelmmkaaRows
import Derived.Test.YtcgcefnfelmmkaaShM
import Derived.Test.YtcgcefnfelmmkaaUtilD
import Derived.Deep.AppendLies
namespace Go.GrainU
open Go.RowKit

/-- a function with a body is entered -/
theorem enters {P : Program} {f : FuncId} {fn : Func} (hf : P.funcs[f]? = some fn) (hname : (fn.name == "runtime.NumGoroutine") = false) (hb : fn.body.isSome = true) (args : Array Value) (w : World) :
    (callFunc f args).run P w = .ok (.enter f args) w := by
  have h1 : fn.name ≠ "runtime.NumGoroutine" := by simpa using hname
  obtain ⟨b, hb⟩ := Option.isSome_iff_exists.1 hb
  simp [callFunc, hf, h1, hb]

end Go.GrainU
namespace Go.Proofs.Ytcgcefnfelmmkaa
open Go.RowKit Go.GrainU

set_option maxRecDepth 20000 in
set_option maxHeartbeats 1000000 in
theorem sidx_any (l : List (Int × Int)) (p : Int → Int → Bool) (F : Nat) (caps : Array Value) (ao : Option Addr) (n c : Nat) (w : World) (ha : Seg w ao (scells l)) (hn : n = l.length) (hc : n ≤ 9223372036854775807)
    (hE : Hid (∀ (args : Array Value) (W : World), (callFunc F args).run Try.prog W = .ok (.enter F args) W))
    (hF : ∀ W t v, Below w.heap.size w W → Calls Try.prog F (#[.agg #[.int .i64 t, .int .i64 v]] ++ caps) W fun e W' => e = .returned (.bool (p t v)) ∧ Below W.heap.size W W') :
    Calls Try.prog 54 #[.slice ao n c, .func (.func F) #[] caps] w fun e w' => (∃ i, e = .returned (.int .i64 i) ∧ decide (0 ≤ i) = l.any fun x => p x.1 x.2) ∧ Below w.heap.size w w' := by
  have HN := hide hn
  have HF := hide hF
  clear hn hF
  go_enter Try.func54, Try.ntmps54
  go_wp2
  go_loopw [8] (fun i wr => ∃ k : Nat, k ≤ n ∧ i = .int .i64 k ∧ Hid ((l.any fun x => p x.1 x.2) = (l.drop k).any fun x => p x.1 x.2) ∧ Below w.heap.size w wr) (fun i _ => n - (intOf i).toNat)
  case atStart => exact ⟨0, Nat.zero_le _, rfl, rfl, Below.refl _ _⟩
  case round =>
    obtain ⟨k, hk, rfl, HW, bel⟩ := hrel
    have hsz := bel.size
    by_cases hlt : k < n
    · have hkl : k < l.length := by rw [← HN.out]; exact hlt
      obtain ⟨b, off, rfl, hcell⟩ := ha.sample hkl
      have hb : b < w.heap.size := World.block_lt_of_cell? w ⟨b, off + k * 2, none⟩ (hcell k hkl).1
      obtain ⟨t, ht⟩ : ∃ t, t = Grain.tm l k := ⟨_, rfl⟩
      obtain ⟨v, hv⟩ : ∃ v, v = Grain.vl l k := ⟨_, rfl⟩
      have c0 : wr.cell? ⟨b, off + k * 2, none⟩ = some (.int .i64 t) := by rw [ht]; exact (bel.cell (by exact hb)).trans (hcell k hkl).1
      have c1 : wr.cell? ⟨b, off + k * 2 + 1, none⟩ = some (.int .i64 v) := by rw [hv]; exact (bel.cell (by exact hb)).trans (hcell k hkl).2
      have HS : Hid ((l.any fun x => p x.1 x.2) = (p t v || (l.drop (k + 1)).any fun x => p x.1 x.2)) := by
        show _ = _
        rw [HW.out, List.drop_eq_getElem_cons hkl, List.any_cons, ht, hv, (Grain.tm_get hkl).1, (Grain.tm_get hkl).2]
      clear ht hv hcell hkl HW
      go_wp2_with fail
      rw [hE.out, Oper.upon_enter]
      refine (HF.out wr t v bel).mono ?_
      rintro e w1 ⟨rfl, hb1⟩
      have bel1 : Below w.heap.size w w1 := bel.trans (hb1.mono hsz)
      clear hb1 bel c0 c1
      cases hp : p t v
      · have hw : Hid ((l.any fun x => p x.1 x.2) = (l.drop (k + 1)).any fun x => p x.1 x.2) := by show _ = _; rw [HS.out, hp]; rfl
        clear HS hp
        go_wp2
        go_roundw
        case rel => exact ⟨k + 1, by omega, by go_num, hw, bel1⟩
        case measure => simp [intOf]; omega
      · have hw : Hid ((l.any fun x => p x.1 x.2) = true) := by show _ = _; rw [HS.out, hp]; rfl
        clear HS hp
        go_wp2
        go_ret
        exact ⟨⟨_, rfl, by rw [hw.out]; simp⟩, bel1⟩
    · have he : k = n := by omega
      subst he
      have hw : Hid ((l.any fun x => p x.1 x.2) = false) := by
        show _ = _
        rw [HW.out, List.drop_eq_nil_of_le (by rw [← HN.out]; omega)]; rfl
      clear HW
      go_wp2
      go_ret
      exact ⟨⟨_, rfl, by rw [hw.out]; rfl⟩, bel⟩

set_option maxHeartbeats 400000 in
theorem scont_any (l : List (Int × Int)) (p : Int → Int → Bool) (F : Nat) (caps : Array Value) (ao : Option Addr) (n c : Nat) (w : World) (ha : Seg w ao (scells l)) (hn : n = l.length) (hc : n ≤ 9223372036854775807)
    (hE : Hid (∀ (args : Array Value) (W : World), (callFunc F args).run Try.prog W = .ok (.enter F args) W))
    (hF : ∀ W t v, Below w.heap.size w W → Calls Try.prog F (#[.agg #[.int .i64 t, .int .i64 v]] ++ caps) W fun e W' => e = .returned (.bool (p t v)) ∧ Below W.heap.size W W') :
    Calls Try.prog 47 #[.slice ao n c, .func (.func F) #[] caps] w fun e w' => e = .returned (.bool (l.any fun x => p x.1 x.2)) ∧ Below w.heap.size w w' := by
  have HF := hide hF
  have HN := hide hn
  clear hF hn
  go_enter Try.func47, Try.ntmps47
  go_wp2_with fail
  refine (sidx_any l p F caps ao n c w ha HN.out hc hE HF.out).mono ?_
  rintro e w1 ⟨⟨i, rfl, hi⟩, hb1⟩
  have HI := hide hi
  clear hi
  go_wp2
  go_ret
  exact ⟨by rw [← HI.out]; rfl, hb1⟩

theorem Try.infoSmp : (Try.prog.info? 29).map (fun i => (i.zero, i.size, i.bytes)) = some (some (.agg #[.int .i64 0, .int .i64 0]), 2, 16) := by kernel_rfl

theorem filter_take {α : Type} (p : α → Bool) {l : List α} {k : Nat} (h : k < l.length) : (l.take (k + 1)).filter p = if p l[k] = true then (l.take k).filter p ++ [l[k]] else (l.take k).filter p := by
  rw [List.take_add_one, List.getElem?_eq_getElem h, List.filter_append]
  cases hp : p l[k] <;> simp [hp]

theorem sinfo_parts {P : Program} {t : TypeId} {z : Value} {a b : Nat} (h : (P.info? t).map (fun i => (i.zero, i.size, i.bytes)) = some (some z, a, b)) : ∃ i, P.info? t = some i ∧ i.zero = some z ∧ i.size = a ∧ i.bytes = b := by
  cases hq : P.info? t with
  | none => rw [hq] at h; simp at h
  | some i => rw [hq] at h; simp at h; exact ⟨i, rfl, h.1, h.2.1, h.2.2⟩

set_option maxRecDepth 20000 in
set_option maxHeartbeats 2000000 in
theorem skept_any (l : List (Int × Int)) (p : Int → Int → Bool) (F : Nat) (caps : Array Value) (ao : Option Addr) (n c : Nat) (w : World) (hs : Seg w ao (scells l)) (hn : n = l.length) (hL : n ≤ 1000000)
    (hE : Hid (∀ (args : Array Value) (W : World), (callFunc F args).run Try.prog W = .ok (.enter F args) W))
    (hF : ∀ W t v, Below w.heap.size w W → Calls Try.prog F (#[.agg #[.int .i64 t, .int .i64 v]] ++ caps) W fun e W' => e = .returned (.bool (p t v)) ∧ Below W.heap.size W W') :
    Calls Try.prog 27 #[.slice ao n c, .func (.func F) #[] caps] w fun e w' => ∃ co N d, e = .returned (.slice co N d) ∧ w'.ownsRow w.heap.size 29 2 (.slice co N d) N (scells (l.filter fun x => p x.1 x.2)) ∧ Below w.heap.size w w' := by
  obtain ⟨i0, hi, hz0, hz1, hz2⟩ := sinfo_parts Try.infoSmp
  have HN := hide hn
  have HF := hide hF
  clear hn hF
  go_enter Try.func27, Try.ntmps27
  go_wp2
  go_loopw [5, 10] (fun out i wr => ∃ (k N d : Nat) (co : Option Addr), k ≤ n ∧ i = .int .i64 k ∧ out = .slice co N d ∧ N ≤ k ∧ wr.ownsRow w.heap.size 29 2 (.slice co N d) N (scells ((l.take k).filter fun x => p x.1 x.2)) ∧ Below w.heap.size w wr) (fun _ i _ => n - (intOf i).toNat)
  case atStart => exact ⟨0, 0, 0, none, Nat.zero_le _, rfl, rfl, Nat.le_refl _, World.ownsRow_nil _ _ _ _, Below.refl _ _⟩
  case round =>
    obtain ⟨k, N, d, co, hk, rfl, rfl, hNk, own, bel⟩ := hrel
    have hsz := bel.size
    by_cases hlt : k < n
    · have hkl : k < l.length := by rw [← HN.out]; exact hlt
      obtain ⟨b, off, rfl, hcell⟩ := hs.sample hkl
      have hbl : b < w.heap.size := World.block_lt_of_cell? w ⟨b, off + k * 2, none⟩ (hcell k hkl).1
      obtain ⟨x, hx⟩ : ∃ x, x = Grain.tm l k := ⟨_, rfl⟩
      obtain ⟨y, hy⟩ : ∃ y, y = Grain.vl l k := ⟨_, rfl⟩
      have c0 : wr.cell? ⟨b, off + k * 2, none⟩ = some (.int .i64 x) := by rw [hx]; exact (bel.cell (by exact hbl)).trans (hcell k hkl).1
      have c1 : wr.cell? ⟨b, off + k * 2 + 1, none⟩ = some (.int .i64 y) := by rw [hy]; exact (bel.cell (by exact hbl)).trans (hcell k hkl).2
      have HU : Hid (((l.take (k + 1)).filter fun x => p x.1 x.2) = if p x y = true then ((l.take k).filter fun x => p x.1 x.2) ++ [(x, y)] else (l.take k).filter fun x => p x.1 x.2) := by
        show _ = _
        rw [filter_take _ hkl, hx, hy, (Grain.tm_get hkl).1, (Grain.tm_get hkl).2]
      clear hx hy hcell hkl
      obtain ⟨V, hV⟩ : ∃ V, V = wr.alloc (.cells #[.int .i64 x, .int .i64 y] 29) := ⟨_, rfl⟩
      obtain ⟨X, hX⟩ : ∃ X, X = wr.heap.size := ⟨_, rfl⟩
      have F1 : V.heap[X]? = some (.cells #[.int .i64 x, .int .i64 y] 29 (0, 0)) := by rw [hV, hX]; exact heap_alloc_new wr _
      have own1 : V.ownsRow w.heap.size 29 2 (.slice co N d) N (scells ((l.take k).filter fun x => p x.1 x.2)) := by rw [hV]; exact own.alloc _
      have bel1 : Below w.heap.size w V := by rw [hV]; exact bel.alloc hsz _
      have hs1 := bel1.size
      have HV := hide hV
      have HX := hide hX
      clear hV own
      go_wp2_with fail
      rw [hE.out, Oper.upon_enter, ← HV.out, ← HX.out]
      refine (HF.out V x y bel1).mono ?_
      rintro e w1 ⟨rfl, hb1⟩
      have F2 : w1.heap[X]? = some (.cells #[.int .i64 x, .int .i64 y] 29 (0, 0)) := below_block hb1 F1
      have own2 := own_below own1 hb1
      have bel2 : Below w.heap.size w w1 := bel1.trans (hb1.mono hs1)
      have hs2 := bel2.size
      obtain ⟨p0, p1, _, _⟩ := two_cells F2
      clear hb1 own1 bel1 bel HV HX F1 hX c0 c1 hsz hs1
      cases hh : p x y with
      | true =>
        have HE : Hid (((l.take (k + 1)).filter fun x => p x.1 x.2) = ((l.take k).filter fun x => p x.1 x.2) ++ [(x, y)]) := by
          show _ = _
          rw [HU.out, if_pos hh]
        clear HU hh
        go_wp2_with (at_builtin; refine wpList_append_lies _ rfl _ _ 24 rfl w.heap.size 29 i0 (.agg #[.int .i64 0, .int .i64 0]) 2 16 Try.underlying24 hi hz0 hz1 hz2 rfl (by decide) _ _ _ rfl (own2.alloc _) ⟨w1.heap.size, 0, none⟩ 1 1 [.int .i64 x, .int .i64 y] rfl rfl (news_two rfl _ _ _) (by simp [Value.oneCell']) (by decide) (by unfold maxLen; omega) (by omega) (by simp; omega) (w1.heap.size + 1) (by simp) ?_)
        intro g' cp' w5 own5 gr5 hat5 hlt5
        have own6 : w5.ownsRow w.heap.size 29 2 (.slice (some ⟨g', 0, none⟩) (N + 1) cp') (N + 1) (scells ((l.take (k + 1)).filter fun x => p x.1 x.2)) := by
          rw [HE.out, scells_append]; exact own5
        have bel5 : Below w.heap.size w w5 := (bel2.alloc hs2 _).grown gr5 (by simp; omega) (fun j hj => (own2.lt j hj).1)
        clear own5 gr5 hat5 hlt5 own2 HE
        go_wp2
        go_roundw
        case rel => exact ⟨k + 1, N + 1, cp', _, by omega, by go_num, rfl, by omega, own6, bel5⟩
        case measure => simp [intOf]; omega
      | false =>
        have HE : Hid (((l.take (k + 1)).filter fun x => p x.1 x.2) = (l.take k).filter fun x => p x.1 x.2) := by
          show _ = _
          rw [HU.out, if_neg (by rw [hh]; decide)]
        clear HU hh
        rw [← HE.out] at own2
        go_wp2
        go_roundw
        case rel => exact ⟨k + 1, N, d, co, by omega, by go_num, rfl, by omega, own2, bel2⟩
        case measure => simp [intOf]; omega
    · have he : k = n := by omega
      subst he
      have HT := hide (List.take_of_length_le (i := k) (l := l) (by rw [← HN.out]; omega))
      rw [HT.out] at own
      clear HT HN
      go_wp2
      go_ret
      exact ⟨co, N, d, rfl, own, bel⟩

set_option maxHeartbeats 1000000 in
theorem scopy_any (l : List (Int × Int)) (ao : Option Addr) (n c : Nat) (w : World) (hs : Seg w ao (scells l)) (hn : n = l.length) (hL : n * 16 ≤ 140737488355328) (hnil : ao = none → n = 0 ∧ c = 0) :
    Calls Try.prog 49 #[.slice ao n c] w fun e w' => ∃ co N d, e = .returned (.slice co N d) ∧ w'.ownsRow w.heap.size 29 2 (.slice co N d) N (scells l) ∧ Below w.heap.size w w' := by
  obtain ⟨i0, hi, hz0, hz1, hz2⟩ := sinfo_parts Try.infoSmp
  have HN := hide hn
  have HL := hide hL
  have HZ := hide hnil
  clear hn hL hnil
  go_enter Try.func49, Try.ntmps49
  go_wp2_with (at_builtin; refine append_seg rfl _ _ 24 rfl w.heap.size 29 i0 (.agg #[.int .i64 0, .int .i64 0]) 2 16 Try.underlying24 hi hz0 hz1 hz2 rfl (by decide) _ 0 [] rfl (World.ownsRow_nil _ _ _ _) ao n c (scells l) rfl HZ.out hs ?qc1 (scells_one l) ?qc4 ?qc5 (Nat.le_refl _) ?_)
  case qc1 => rw [scells_length, HN.out]
  case qc4 => have := HL.out; unfold maxLen; omega
  case qc5 => have := HL.out; omega
  intro v' w1 own gr
  obtain ⟨ao', c', rfl, _, _⟩ := own_open own
  have bel1 : Below w.heap.size w w1 := (Below.refl _ _).grown gr (Nat.le_refl _) (fun j hj => by simp [Value.ownBlock] at hj)
  have own2 : w1.ownsRow w.heap.size 29 2 (.slice ao' (0 + n) c') (0 + n) (scells l) := by simpa using own
  clear own gr
  go_wp2
  go_ret
  exact ⟨ao', n, c', rfl, by simpa using own2, bel1⟩

end Go.Proofs.Ytcgcefnfelmmkaa
