/-
  The walks of the two binary searches, of ahead, Clone, Only.
-/
import Derived.Test.YthohkokhimdamaaGreatP09
import Derived.Test.YthohkokhimdamaaGreatP16
import Derived.Test.YthohkokhimdamaaGreatP20
import Derived.Lib.SlBuf
/-
  The walk of names.Only.
-/
namespace Go.Proofs.YthohkokhimdamaaGreat
open Go.RowKit Go.GrainU

theorem nonly1_any (ks : List ByteArray) (x y : ByteArray) (B : Nat) (bo : Option Addr) (m c : Nat) (w : World) (hb : Seg w bo (wcells ks)) (hB : w.cell? ⟨B, 0, none⟩ = some (.slice bo m c)) (hm : m = ks.length) (hM : m ≤ 9223372036854775807) :
    Calls Tryz.prog 91 #[.agg #[.string x, .string y], .pointer (some ⟨B, 0, none⟩)] w fun e w' => e = .returned (.bool (has ks x)) ∧ w' = w.alloc (.cells #[.string x, .string y] 88) := by
  have hl : B < w.heap.size := World.block_lt_of_cell? w _ hB
  have bel : Below w.heap.size w (w.alloc (.cells #[.string x, .string y] 88)) := (Below.refl _ _).alloc (Nat.le_refl _) _
  have hbV := hb.below bel
  have HM := hide hm
  clear hm
  obtain ⟨D, hD⟩ : ∃ D, D = has ks x := ⟨_, rfl⟩
  rw [← hD]
  have HD := hide hD
  clear hD
  go_enter Tryz.func91, Tryz.ntmps91
  go_wp2_with fail
  refine (ncont_any ks x bo m c _ hbV HM.out hM).mono ?_
  rintro e w1 ⟨rfl, hw⟩
  rw [hw]
  rw [← HD.out]
  go_wp2
  go_ret
  exact ⟨rfl, rfl⟩

set_option maxHeartbeats 2000000 in
theorem nkept_any (l : List (ByteArray × ByteArray)) (ks : List ByteArray) (B : Nat) (ao bo : Option Addr) (n cap m c : Nat) (w : World) (hs : Seg w ao (lcells l)) (hn : n = l.length) (hL : n * 32 ≤ 140737488351232) (hb : Seg w bo (wcells ks)) (hB : w.cell? ⟨B, 0, none⟩ = some (.slice bo m c)) (hm : m = ks.length) (hM : m ≤ 9223372036854775807) :
    Calls Tryz.prog 90 #[.slice ao n cap, .func (.func 91) #[] #[.pointer (some ⟨B, 0, none⟩)]] w fun e w' => ∃ co N d, e = .returned (.slice co N d) ∧ w'.ownsRow w.heap.size 88 2 (.slice co N d) N (lcells (only l ks)) ∧ Below w.heap.size w w' := by
  obtain ⟨i0, hi, hz0, hz1, hz2⟩ := info_parts Tryz.infoLabel
  have hl : B < w.heap.size := World.block_lt_of_cell? w _ hB
  have HN := hide hn
  have HM := hide hm
  clear hn hm
  go_enter Tryz.func90, Tryz.ntmps90
  go_wp2
  go_loopw [5, 10] (fun out i wr => ∃ (k N d : Nat) (co : Option Addr), k ≤ n ∧ i = .int .i64 k ∧ out = .slice co N d ∧ N ≤ k ∧ wr.ownsRow w.heap.size 88 2 (.slice co N d) N (lcells (only (l.take k) ks)) ∧ Below w.heap.size w wr) (fun _ i _ => n - (intOf i).toNat)
  case atStart => exact ⟨0, 0, 0, none, Nat.zero_le _, rfl, rfl, Nat.le_refl _, World.ownsRow_nil _ _ _ _, Below.refl _ _⟩
  case round =>
    obtain ⟨k, N, d, co, hk, rfl, rfl, hNk, own, bel⟩ := hrel
    have hsz := bel.size
    by_cases hlt : k < n
    · have hkl : k < l.length := by rw [← HN.out]; exact hlt
      obtain ⟨b, off, rfl, hbl, hcell⟩ := seg_label hs hkl
      obtain ⟨x, hx⟩ : ∃ x, x = lk l k := ⟨_, rfl⟩
      obtain ⟨y, hy⟩ : ∃ y, y = lv l k := ⟨_, rfl⟩
      have c0 : wr.cell? ⟨b, off + k * 2, none⟩ = some (.string x) := by rw [hx]; exact (bel.cell (by exact hbl)).trans (hcell k hkl).1
      have c1 : wr.cell? ⟨b, off + k * 2 + 1, none⟩ = some (.string y) := by rw [hy]; exact (bel.cell (by exact hbl)).trans (hcell k hkl).2
      have HU : Hid (only (l.take (k + 1)) ks = if has ks x = true then only (l.take k) ks ++ [(x, y)] else only (l.take k) ks) := by rw [hx, hy]; exact only_take hkl
      clear hx hy hcell hkl
      obtain ⟨V, hV⟩ : ∃ V, V = wr.alloc (.cells #[.string x, .string y] 88) := ⟨_, rfl⟩
      obtain ⟨X, hX⟩ : ∃ X, X = wr.heap.size := ⟨_, rfl⟩
      have F1 : V.heap[X]? = some (.cells #[.string x, .string y] 88 (0, 0)) := by rw [hV, hX]; exact heap_alloc_new wr _
      have own1 : V.ownsRow w.heap.size 88 2 (.slice co N d) N (lcells (only (l.take k) ks)) := by rw [hV]; exact own.alloc _
      have bel1 : Below w.heap.size w V := by rw [hV]; exact bel.alloc hsz _
      have hs1 := bel1.size
      have cB : V.cell? ⟨B, 0, none⟩ = some (.slice bo m c) := (bel1.cell (by exact hl)).trans hB
      have hbV := hb.below bel1
      have HV := hide hV
      have HX := hide hX
      clear hV own
      go_wp2_with fail
      rw [← HV.out, ← HX.out]
      refine (nonly1_any ks x y B bo m c V hbV cB HM.out hM).mono ?_
      rintro e w1 ⟨rfl, hw1⟩
      have F2 : w1.heap[X]? = some (.cells #[.string x, .string y] 88 (0, 0)) := by
        rw [hw1, Below.heap_alloc _ _ _ (lt_of_block F1)]; exact F1
      have own2 : w1.ownsRow w.heap.size 88 2 (.slice co N d) N (lcells (only (l.take k) ks)) := by rw [hw1]; exact own1.alloc _
      have bel2 : Below w.heap.size w w1 := by rw [hw1]; exact bel1.alloc hs1 _
      have hs2 := bel2.size
      obtain ⟨p0, p1, _, _⟩ := two_cells F2
      clear hw1 own1 bel1 bel HV HX F1 hX cB hbV c0 c1 hsz hs1
      cases hh : has ks x with
      | true =>
        have HE : Hid (only (l.take (k + 1)) ks = only (l.take k) ks ++ [(x, y)]) := by
          show _ = _
          rw [HU.out, if_pos hh]
        clear HU hh
        go_wp2_with (at_builtin; refine wpList_append_lies _ rfl _ _ 40 rfl w.heap.size 88 i0 (.agg #[.string ⟨#[]⟩, .string ⟨#[]⟩]) 2 32 Tryz.underlying40 hi hz0 hz1 hz2 rfl (by decide) _ _ _ rfl (own2.alloc _) ⟨w1.heap.size, 0, none⟩ 1 1 [.string x, .string y] rfl rfl (news_two rfl _ _ _) (by simp [Value.oneCell']) (by decide) (by unfold maxLen; omega) (by omega) (by simp; omega) (w1.heap.size + 1) (by simp) ?_)
        intro g' cp' w5 own5 gr5 hat5 hlt5
        have own6 : w5.ownsRow w.heap.size 88 2 (.slice (some ⟨g', 0, none⟩) (N + 1) cp') (N + 1) (lcells (only (l.take (k + 1)) ks)) := by
          rw [HE.out, lcells_append]; exact own5
        have bel5 : Below w.heap.size w w5 := (bel2.alloc hs2 _).grown gr5 (by simp; omega) (fun j hj => (own2.lt j hj).1)
        clear own5 gr5 hat5 hlt5 own2 HE
        go_wp2
        go_roundw
        case rel => exact ⟨k + 1, N + 1, cp', _, by omega, by go_num, rfl, by omega, own6, bel5⟩
        case measure => simp [intOf]; omega
      | false =>
        have HE : Hid (only (l.take (k + 1)) ks = only (l.take k) ks) := by
          show _ = _
          rw [HU.out, hh, if_neg (by decide)]
        rw [← HE.out] at own2
        clear HU HE hh
        go_wp2
        go_roundw
        case rel => exact ⟨k + 1, N, d, co, by omega, by go_num, rfl, by omega, own2, bel2⟩
        case measure => simp [intOf]; omega
    · have he : k = n := by omega
      subst he
      have HT := hide (List.take_of_length_le (i := k) (l := l) (by rw [← HN.out]; omega))
      rw [HT.out] at own
      clear HT HN
      go_wp2
      go_ret
      exact ⟨co, N, d, rfl, own, bel⟩

set_option maxHeartbeats 1000000 in
theorem nonly_any (l : List (ByteArray × ByteArray)) (ks : List ByteArray) (ao bo : Option Addr) (n cap m c : Nat) (w : World) (hs : Seg w ao (lcells l)) (hn : n = l.length) (hL : n * 32 ≤ 140737488351232) (hb : Seg w bo (wcells ks)) (hm : m = ks.length) (hM : m ≤ 9223372036854775807) :
    Calls Tryz.prog 70 #[.slice ao n cap, .slice bo m c] w fun e w' => ∃ co N d, e = .returned (.slice co N d) ∧ Seg w' co (lcells (only l ks)) ∧ N = (only l ks).length ∧ Below w.heap.size w w' := by
  obtain ⟨V, hV⟩ : ∃ V, V = w.alloc (.cells #[.slice bo m c] 24) := ⟨_, rfl⟩
  have bel : Below w.heap.size w V := by rw [hV]; exact (Below.refl _ _).alloc (Nat.le_refl _) _
  have cB : V.cell? ⟨w.heap.size, 0, none⟩ = some (.slice bo m c) := by rw [hV]; simp
  have hsz := bel.size
  have HV := hide hV
  have HN := hide hn
  have HM := hide hm
  clear hV hn hm
  have haV := hs.below bel
  have hbV := hb.below bel
  go_enter Tryz.func70, Tryz.ntmps70
  go_wp2_with fail
  rw [← HV.out]
  refine (nkept_any l ks w.heap.size ao bo n cap m c V haV HN.out hL hbV cB HM.out hM).mono ?_
  rintro e w1 ⟨co, N, d, rfl, own, hb1⟩
  have bel1 : Below w.heap.size w w1 := bel.trans (hb1.mono hsz)
  obtain ⟨ao', c', hv, hseg, _⟩ := own_open own
  have hlen := own_llen own
  simp only [Value.slice.injEq] at hv
  obtain ⟨rfl, -, rfl⟩ := hv
  clear hb1 own
  have HL := hide hlen
  clear hlen
  go_wp2
  go_ret
  exact ⟨co, N, d, rfl, hseg, HL.out, bel1⟩

end Go.Proofs.YthohkokhimdamaaGreat

/-
  The walks of the two binary searches, of ahead, Clone, Only.
-/
namespace Go.GrainU
open Go.RowKit

def cmpI (a b : Int) : Int := if a < b then -1 else if b < a then 1 else 0

end Go.GrainU
namespace Go.Proofs.YthohkokhimdamaaGreat
open Go.RowKit Go.GrainU

set_option maxHeartbeats 1000000 in
theorem isnan_any (a : Int) (w : World) : Calls Tryz.prog 59 #[.int .i64 a] w fun e w' => e = .returned (.bool false) ∧ w' = w := by
  have h : (a != a) = false := by simp
  go_enter Tryz.func59, Tryz.ntmps59
  go_wp2
  go_ret
  exact ⟨rfl, rfl⟩

set_option maxHeartbeats 1000000 in
theorem cmpint_any (a b : Int) (w : World) : Calls Tryz.prog 38 #[.int .i64 a, .int .i64 b] w fun e w' => e = .returned (.int .i64 (cmpI a b)) ∧ w' = w := by
  obtain ⟨R, hR⟩ : ∃ R, R = cmpI a b := ⟨_, rfl⟩
  rw [← hR]
  have HR : Hid (R = if a < b then -1 else if b < a then 1 else 0) := hR
  clear hR
  go_enter Tryz.func38, Tryz.ntmps38
  go_wp2_with fail
  refine (isnan_any _ _).mono ?_
  intro e w1 hh
  rw [hh.1, hh.2]
  clear hh
  go_wp2_with fail
  refine (isnan_any _ _).mono ?_
  intro e w1 hh
  rw [hh.1, hh.2]
  clear hh
  go_wp2
  all_goals
    go_ret
    exact ⟨ret_int (by rw [HR.out]; (repeat' split) <;> omega), rfl⟩

set_option maxHeartbeats 1000000 in
theorem mahead1_any (t v T : Int) (w : World) : Calls Tryz.prog 37 #[.agg #[.int .i64 t, .int .i64 v], .int .i64 T] w fun e w' => e = .returned (.int .i64 (cmpI t T)) ∧ Below w.heap.size w w' := by
  obtain ⟨R, hR⟩ : ∃ R, R = cmpI t T := ⟨_, rfl⟩
  rw [← hR]
  have HR := hide hR
  clear hR
  go_enter Tryz.func37, Tryz.ntmps37
  go_wp2_with fail
  refine (cmpint_any _ _ _).mono ?_
  intro e w1 hh
  rw [hh.1, hh.2, ← HR.out]
  clear hh
  go_wp2
  go_ret
  exact ⟨rfl, (Below.refl _ _).alloc (Nat.le_refl _) _⟩

set_option maxHeartbeats 4000000 in
set_option maxRecDepth 100000 in
theorem mbs_any (l : List (Int × Int)) (T : Int) (ao : Option Addr) (n c p : Nat) (w : World) (hs : Seg w ao (scells l)) (hn : n = l.length) (hn4 : n ≤ 1000000) (hp : p ≤ n) (hbd : ∀ k, k < n → (Grain.tm l k < T ↔ k < p)) :
    Calls Tryz.prog 36 #[.slice ao n c, .int .i64 T, .func (.func 37) #[] #[]] w fun e w' => (∃ b, e = .returned (.tuple #[.int .i64 p, .bool b])) ∧ Below w.heap.size w w' := by
  have HN := hide hn
  have HB := hide hbd
  clear hn hbd
  go_enter Tryz.func36, Tryz.ntmps36
  go_wp2
  go_loopw [9, 10] (fun s9 s10 wr => ∃ lo hi : Nat, s9 = .int .i64 lo ∧ s10 = .int .i64 hi ∧ lo ≤ p ∧ p ≤ hi ∧ hi ≤ n ∧ Below w.heap.size w wr) (fun s9 s10 _ => (intOf s10).toNat - (intOf s9).toNat)
  case atStart => exact ⟨0, n, rfl, rfl, Nat.zero_le _, hp, Nat.le_refl _, Below.refl _ _⟩
  case round =>
    obtain ⟨lo, hi, rfl, rfl, hlo, hhi, hin, bel⟩ := hrel
    have hsz := bel.size
    by_cases hlt : lo < hi
    · have hkl : (lo + hi) / 2 < l.length := by rw [← HN.out]; omega
      obtain ⟨b, off, rfl, hcell⟩ := hs.sample hkl
      have hb : b < w.heap.size := World.block_lt_of_cell? w _ (hcell _ hkl).1
      obtain ⟨t, ht⟩ : ∃ t, t = Grain.tm l ((lo + hi) / 2) := ⟨_, rfl⟩
      obtain ⟨v, hv⟩ : ∃ v, v = Grain.vl l ((lo + hi) / 2) := ⟨_, rfl⟩
      have c0 : wr.cell? ⟨b, off + (lo + hi) / 2 * 2, none⟩ = some (.int .i64 t) := by rw [ht]; exact (bel.cell (by exact hb)).trans (hcell _ hkl).1
      have c1 : wr.cell? ⟨b, off + (lo + hi) / 2 * 2 + 1, none⟩ = some (.int .i64 v) := by rw [hv]; exact (bel.cell (by exact hb)).trans (hcell _ hkl).2
      have HT := hide ht
      clear hcell ht hv hkl
      go_wp2_with fail
      refine (mahead1_any t v T wr).mono ?_
      rintro e w1 ⟨rfl, b1⟩
      have bel1 : Below w.heap.size w w1 := bel.trans (b1.mono hsz)
      have hkey := HB.out ((lo + hi) / 2) (by omega)
      rw [← HT.out] at hkey
      clear c0 c1 b1 bel HT
      by_cases hc : t < T
      · have hC : cmpI t T = -1 := by simp [cmpI, hc]
        have hp2 := hkey.1 hc
        rw [hC]
        clear hC hkey hc
        go_wp2
        go_roundw
        case rel => exact ⟨(lo + hi) / 2 + 1, hi, by rw [show ((lo : Int) + (hi : Int)) / 2 + 1 = (((lo + hi) / 2 + 1 : Nat) : Int) by omega], rfl, by omega, hhi, hin, bel1⟩
        case measure => simp [intOf]; omega
      · have hC : ∃ C, C = cmpI t T ∧ ¬ C < 0 := ⟨_, rfl, by unfold cmpI; rw [if_neg hc]; split <;> omega⟩
        obtain ⟨C, hC1, hC2⟩ := hC
        have hp2 : ¬ (lo + hi) / 2 < p := fun h => hc (hkey.2 h)
        rw [← hC1]
        clear hC1 hkey hc
        go_wp2
        go_roundw
        case rel => exact ⟨lo, (lo + hi) / 2, rfl, by rw [show ((lo : Int) + (hi : Int)) / 2 = (((lo + hi) / 2 : Nat) : Int) by omega], hlo, by omega, by omega, bel1⟩
        case measure => simp [intOf]; omega
    · have e1 : lo = p := by omega
      have e2 : hi = p := by omega
      subst e1
      subst e2
      by_cases hpn : hi < n
      · have hkl : hi < l.length := by rw [← HN.out]; omega
        obtain ⟨b, off, rfl, hcell⟩ := hs.sample hkl
        have hb : b < w.heap.size := World.block_lt_of_cell? w _ (hcell _ hkl).1
        obtain ⟨t, ht⟩ : ∃ t, t = Grain.tm l hi := ⟨_, rfl⟩
        obtain ⟨v, hv⟩ : ∃ v, v = Grain.vl l hi := ⟨_, rfl⟩
        have c0 : wr.cell? ⟨b, off + hi * 2, none⟩ = some (.int .i64 t) := by rw [ht]; exact (bel.cell (by exact hb)).trans (hcell _ hkl).1
        have c1 : wr.cell? ⟨b, off + hi * 2 + 1, none⟩ = some (.int .i64 v) := by rw [hv]; exact (bel.cell (by exact hb)).trans (hcell _ hkl).2
        clear hcell ht hv hkl
        go_wp2_with fail
        refine (mahead1_any t v T wr).mono ?_
        rintro e w1 ⟨rfl, b1⟩
        have bel1 : Below w.heap.size w w1 := bel.trans (b1.mono hsz)
        generalize cmpI t T = C
        clear c0 c1 b1 bel
        go_wp2
        all_goals
          go_ret2
          exact ⟨⟨_, rfl⟩, bel1⟩
      · go_wp2
        go_ret2
        exact ⟨⟨_, rfl⟩, bel⟩

theorem mahead_any (l : List (Int × Int)) (T : Int) (ao : Option Addr) (n c p : Nat) (w : World) (hs : Seg w ao (scells l)) (hn : n = l.length) (hn4 : n ≤ 1000000) (hp : p ≤ n) (hbd : ∀ k, k < n → (Grain.tm l k < T ↔ k < p)) :
    Calls Tryz.prog 14 #[.slice ao n c, .int .i64 T] w fun e w' => e = .returned (.int .i64 p) ∧ Below w.heap.size w w' := by
  have HN := hide hn
  have HB := hide hbd
  clear hn hbd
  go_enter Tryz.func14, Tryz.ntmps14
  go_wp2_with fail
  refine (mbs_any l T ao n c p w hs HN.out hn4 hp HB.out).mono ?_
  rintro e w1 ⟨⟨b, rfl⟩, b1⟩
  go_wp2
  go_ret
  exact ⟨rfl, b1⟩

set_option maxHeartbeats 1000000 in
theorem mallof1_any (x : CT) (s : Lb) (n m c' : Nat) (so : Option Addr) (w : World) (hx : Seg w x.sa (lcells x.ser)) (hs : Seg w so (lcells s)) (hn : n = x.ser.length) (hm : m = s.length) (hc : n ≤ 9223372036854775807) :
    Calls Tryz.prog 72 #[.agg #[.slice x.sa n x.sc, .int .i64 x.v], .slice so m c'] w fun e w' => e = .returned (.int .i64 (cmpS x.ser s)) ∧ Below w.heap.size w w' := by
  obtain ⟨V, hV⟩ : ∃ V, V = w.alloc (.cells #[.slice x.sa n x.sc, .int .i64 x.v] 57) := ⟨_, rfl⟩
  have bel : Below w.heap.size w V := by rw [hV]; exact (Below.refl _ _).alloc (Nat.le_refl _) _
  have HV := hide hV
  have HN := hide hn
  have HM := hide hm
  obtain ⟨C, hC⟩ : ∃ C, C = cmpS x.ser s := ⟨_, rfl⟩
  rw [← hC]
  have HC := hide hC
  clear hV hn hm hC
  go_enter Tryz.func72, Tryz.ntmps72
  go_wp2_with fail
  rw [← HV.out]
  refine (ncmp_any x.ser s x.sa so n m x.sc c' V (hx.below bel) (hs.below bel) HN.out HM.out hc).mono ?_
  rintro e w1 ⟨rfl, b1⟩
  rw [← HC.out]
  go_wp2
  go_ret
  exact ⟨rfl, bel.trans (b1.mono bel.size)⟩

set_option maxHeartbeats 4000000 in
set_option maxRecDepth 100000 in
theorem mbsc_any (l : List CT) (s : Lb) (co so : Option Addr) (n c m c' p : Nat) (F : Bool) (w : World) (hl : CsIn w co l) (hs : Seg w so (lcells s)) (hn : n = l.length) (hm : m = s.length) (hn4 : n ≤ 1000000) (hb8 : ∀ x ∈ l, x.ser.length ≤ 9223372036854775807) (hp : p ≤ n) (hbd : ∀ k, k < n → (cmpS (ct l k).ser s < 0 ↔ k < p)) (hF : F = (decide (p < n) && decide (cmpS (ct l p).ser s = 0))) :
    Calls Tryz.prog 71 #[.slice co n c, .slice so m c', .func (.func 72) #[] #[]] w fun e w' => e = .returned (.tuple #[.int .i64 p, .bool F]) ∧ Below w.heap.size w w' := by
  have HN := hide hn
  have HM := hide hm
  have HB := hide hbd
  have HF := hide hF
  have H8 := hide hb8
  clear hn hm hbd hF hb8
  go_enter Tryz.func71, Tryz.ntmps71
  go_wp2
  go_loopw [9, 10] (fun s9 s10 wr => ∃ lo hi : Nat, s9 = .int .i64 lo ∧ s10 = .int .i64 hi ∧ lo ≤ p ∧ p ≤ hi ∧ hi ≤ n ∧ Below w.heap.size w wr) (fun s9 s10 _ => (intOf s10).toNat - (intOf s9).toNat)
  case atStart => exact ⟨0, n, rfl, rfl, Nat.zero_le _, hp, Nat.le_refl _, Below.refl _ _⟩
  case round =>
    obtain ⟨lo, hi, rfl, rfl, hlo, hhi, hin, bel⟩ := hrel
    have hsz := bel.size
    by_cases hlt : lo < hi
    · have hkl : (lo + hi) / 2 < l.length := by rw [← HN.out]; omega
      obtain ⟨b, off, rfl, hb, hcell⟩ := seg_cell hl.seg hkl
      obtain ⟨x, hx⟩ : ∃ x, x = ct l ((lo + hi) / 2) := ⟨_, rfl⟩
      obtain ⟨xn, hxn⟩ : ∃ xn, xn = x.ser.length := ⟨_, rfl⟩
      have c0 : wr.cell? ⟨b, off + (lo + hi) / 2 * 2, none⟩ = some (.slice x.sa xn x.sc) := by rw [hxn, hx]; exact (bel.cell (by exact hb)).trans (hcell _ hkl).1
      have c1 : wr.cell? ⟨b, off + (lo + hi) / 2 * 2 + 1, none⟩ = some (.int .i64 x.v) := by rw [hx]; exact (bel.cell (by exact hb)).trans (hcell _ hkl).2
      have sx : Seg w x.sa (lcells x.ser) := by rw [hx]; exact hl.ser _ (ct_mem hkl)
      have x8 : xn ≤ 9223372036854775807 := by rw [hxn, hx]; exact H8.out _ (ct_mem hkl)
      have HX := hide hx
      have HXN := hide hxn
      clear hcell hx hxn hkl
      go_wp2_with fail
      refine (mallof1_any x s xn m c' so wr (sx.below bel) (hs.below bel) HXN.out HM.out x8).mono ?_
      rintro e w1 ⟨rfl, b1⟩
      have bel1 : Below w.heap.size w w1 := bel.trans (b1.mono hsz)
      have hkey := HB.out ((lo + hi) / 2) (by omega)
      rw [← HX.out] at hkey
      generalize cmpS x.ser s = C at hkey ⊢
      clear c0 c1 b1 bel HX
      by_cases hc : C < 0
      · have hp2 := hkey.1 hc
        clear hkey
        go_wp2
        go_roundw
        case rel => exact ⟨(lo + hi) / 2 + 1, hi, by rw [show ((lo : Int) + (hi : Int)) / 2 + 1 = (((lo + hi) / 2 + 1 : Nat) : Int) by omega], rfl, by omega, hhi, hin, bel1⟩
        case measure => simp [intOf]; omega
      · have hp2 : ¬ (lo + hi) / 2 < p := fun h => hc (hkey.2 h)
        clear hkey
        go_wp2
        go_roundw
        case rel => exact ⟨lo, (lo + hi) / 2, rfl, by rw [show ((lo : Int) + (hi : Int)) / 2 = (((lo + hi) / 2 : Nat) : Int) by omega], hlo, by omega, by omega, bel1⟩
        case measure => simp [intOf]; omega
    · have e1 : lo = p := by omega
      have e2 : hi = p := by omega
      subst e1
      subst e2
      by_cases hpn : hi < n
      · have hkl : hi < l.length := by rw [← HN.out]; omega
        obtain ⟨b, off, rfl, hb, hcell⟩ := seg_cell hl.seg hkl
        obtain ⟨x, hx⟩ : ∃ x, x = ct l hi := ⟨_, rfl⟩
        obtain ⟨xn, hxn⟩ : ∃ xn, xn = x.ser.length := ⟨_, rfl⟩
        have c0 : wr.cell? ⟨b, off + hi * 2, none⟩ = some (.slice x.sa xn x.sc) := by rw [hxn, hx]; exact (bel.cell (by exact hb)).trans (hcell _ hkl).1
        have c1 : wr.cell? ⟨b, off + hi * 2 + 1, none⟩ = some (.int .i64 x.v) := by rw [hx]; exact (bel.cell (by exact hb)).trans (hcell _ hkl).2
        have sx : Seg w x.sa (lcells x.ser) := by rw [hx]; exact hl.ser _ (ct_mem hkl)
        have x8 : xn ≤ 9223372036854775807 := by rw [hxn, hx]; exact H8.out _ (ct_mem hkl)
        have HX := hide hx
        have HXN := hide hxn
        clear hcell hx hxn hkl
        go_wp2_with fail
        refine (mallof1_any x s xn m c' so wr (sx.below bel) (hs.below bel) HXN.out HM.out x8).mono ?_
        rintro e w1 ⟨rfl, b1⟩
        have bel1 : Below w.heap.size w w1 := bel.trans (b1.mono hsz)
        have HF2 : Hid (F = decide (cmpS x.ser s = 0)) := by show _ = _; rw [HF.out, HX.out]; simp [hpn]
        generalize cmpS x.ser s = C at HF2 ⊢
        clear c0 c1 b1 bel HX HF
        by_cases hc : C = 0
        · have HF3 : Hid (F = true) := by show _ = _; rw [HF2.out]; simpa using hc
          subst hc
          go_wp2
          go_ret2
          exact ⟨by rw [HF3.out]; rfl, bel1⟩
        · have HF3 : Hid (F = false) := by show _ = _; rw [HF2.out]; simpa using hc
          have hd : (C == 0) = false := by simpa using hc
          clear hc
          go_wp2
          go_ret2
          exact ⟨by rw [HF3.out]; rfl, bel1⟩
      · have HF3 : Hid (F = false) := by show _ = _; rw [HF.out]; simp [hpn]
        clear HF
        go_wp2
        go_ret2
        exact ⟨by rw [HF3.out]; rfl, bel⟩

set_option maxHeartbeats 1000000 in
theorem nonly_own (l : List (ByteArray × ByteArray)) (ks : List ByteArray) (ao bo : Option Addr) (n cap m c : Nat) (w : World) (hs : Seg w ao (lcells l)) (hn : n = l.length) (hL : n * 32 ≤ 140737488351232) (hb : Seg w bo (wcells ks)) (hm : m = ks.length) (hM : m ≤ 9223372036854775807) :
    Calls Tryz.prog 70 #[.slice ao n cap, .slice bo m c] w fun e w' => ∃ co N d, e = .returned (.slice co N d) ∧ w'.ownsRow w.heap.size 88 2 (.slice co N d) N (lcells (only l ks)) ∧ N = (only l ks).length ∧ Below w.heap.size w w' := by
  obtain ⟨V, hV⟩ : ∃ V, V = w.alloc (.cells #[.slice bo m c] 24) := ⟨_, rfl⟩
  have bel : Below w.heap.size w V := by rw [hV]; exact (Below.refl _ _).alloc (Nat.le_refl _) _
  have cB : V.cell? ⟨w.heap.size, 0, none⟩ = some (.slice bo m c) := by rw [hV]; simp
  have hsz := bel.size
  have HV := hide hV
  have HN := hide hn
  have HM := hide hm
  clear hV hn hm
  have haV := hs.below bel
  have hbV := hb.below bel
  go_enter Tryz.func70, Tryz.ntmps70
  go_wp2_with fail
  rw [← HV.out]
  refine (nkept_any l ks w.heap.size ao bo n cap m c V haV HN.out hL hbV cB HM.out hM).mono ?_
  rintro e w1 ⟨co, N, d, rfl, own, hb1⟩
  have bel1 : Below w.heap.size w w1 := bel.trans (hb1.mono hsz)
  have own1 := own.mono hsz
  have HL := hide (own_llen own)
  clear hb1 own
  go_wp2
  go_ret
  exact ⟨co, N, d, rfl, own1, HL.out, bel1⟩

end Go.Proofs.YthohkokhimdamaaGreat
