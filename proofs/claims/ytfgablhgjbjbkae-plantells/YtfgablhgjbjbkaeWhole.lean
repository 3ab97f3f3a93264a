/-
  For every input, PlanTells returns true: Covers, Choose and Read tell which parts cover a window of any shelf, which are chosen, and what any come to. No condition.
-/
import Derived.Test.YtfgablhgjbjbkaePlA
import Derived.Test.YtfgablhgjbjbkaePlM
import Derived.Test.YtfgablhgjbjbkaeCodecWrong
import Derived.Test.YtfgablhgjbjbkaeRows
import Derived.Test.YtfgablhgjbjbkaeUtil
import Derived.Test.YtfgablhgjbjbkaeNamesM
import Derived.Laws.IdiomStrings
import Derived.Test.YtfgablhgjbjbkaeLabM
import Derived.Test.YtfgablhgjbjbkaeRollPut
import Derived.MapKept
import Derived.Test.YtfgablhgjbjbkaeRollWrong
import Derived.Test.YtfgablhgjbjbkaeShE
import Derived.Deep.CutRange
import Derived.Test.YtfgablhgjbjbkaeShC
import Derived.Test.YtfgablhgjbjbkaePlC
import Derived.Test.YtfgablhgjbjbkaePlD
import Derived.Test.YtfgablhgjbjbkaeShF
import Derived.Test.YtfgablhgjbjbkaeUtilD
import Derived.Test.YtfgablhgjbjbkaeUtilE
import Derived.Test.YtfgablhgjbjbkaeOf
import Derived.Test.YtfgablhgjbjbkaeRollGr
import Derived.Test.YtfgablhgjbjbkaeSkipL
import Derived.Test.YtfgablhgjbjbkaePlE
import Derived.Test.YtfgablhgjbjbkaePlI
import Derived.Test.YtfgablhgjbjbkaePlV
import Derived.Deep.RegionHeld3
import Derived.Test.YtfgablhgjbjbkaeOpenPlan
/-
  The walks of the document's own May, Covers and SameParts.
-/
namespace Go.Proofs.Ytfgablhgjbjbkae
open Go.RowKit Go.GrainU

set_option maxRecDepth 20000 in
set_option maxHeartbeats 4000000 in
theorem rmay_any (s : Grain.Shf) (v0 v1 v2 v3 : Value) (p : Grain.Pt) (b : Bool) (w : World) (hb : b = Grain.may s p) :
    Calls Try.prog 74 #[.agg #[v0, v1, v2, v3, .int .i64 s.rf, .int .i64 s.ff, .int .i64 s.ft, .int .i64 s.cf, .int .i64 s.ct], .agg #[.int .i64 p.k, .int .i64 p.f, .int .i64 p.t]] w fun e w' => e = .returned (.bool b) ∧ Below w.heap.size w w' := by
  obtain ⟨se, ra, fi, co, rf, ff, ft, cf, ct⟩ := s
  obtain ⟨k, f, t⟩ := p
  have HB := hide hb
  clear hb
  obtain ⟨V, hV⟩ : ∃ V, V = (w.alloc (.cells #[v0, v1, v2, v3, .int .i64 rf, .int .i64 ff, .int .i64 ft, .int .i64 cf, .int .i64 ct] 44)).alloc (.cells #[.int .i64 k, .int .i64 f, .int .i64 t] 112) := ⟨_, rfl⟩
  have bel : Below w.heap.size w V := by rw [hV]; exact ((Below.refl _ _).alloc (Nat.le_refl _) _).alloc (by simp) _
  have HV := hide hV
  clear hV
  by_cases hft : t ≤ f
  · have e : b = false := by rw [HB.out]; simp [Grain.may, hft]
    subst e
    clear HB
    go_enter Try.func74, Try.ntmps74
    go_wp2
    go_ret
    rw [← HV.out]
    exact ⟨rfl, bel⟩
  · have hlt : f < t := by omega
    clear hft
    by_cases k0 : k = 0
    · subst k0
      go_enter Try.func74, Try.ntmps74
      go_wp2
      all_goals
        go_ret
        refine ⟨ret_bool ?_, by rw [← HV.out]; exact bel⟩
        rw [HB.out]
        clear HB HV bel
        rw [Bool.eq_iff_iff]
        simp [Grain.may]
        omega
    · by_cases k1 : k = 1
      · subst k1
        have H1 := hide (tmod_emod f 10)
        have H2 := hide (tmod_emod t 10)
        by_cases c1 : ff ≤ f
        · by_cases c2 : t ≤ ft
          · go_enter Try.func74, Try.ntmps74
            go_wp2
            all_goals
              go_ret
              refine ⟨ret_bool ?_, by rw [← HV.out]; exact bel⟩
              rw [HB.out]
              have h1 := H1.out
              have h2 := H2.out
              clear HB HV bel H1 H2
              rw [Bool.eq_iff_iff]
              simp [Grain.may]
              omega
          · have e : b = false := by rw [HB.out, Bool.eq_false_iff]; simp [Grain.may]; omega
            subst e
            go_enter Try.func74, Try.ntmps74
            go_wp2
            go_ret
            rw [← HV.out]
            exact ⟨rfl, bel⟩
        · have e : b = false := by rw [HB.out, Bool.eq_false_iff]; simp [Grain.may]; omega
          subst e
          go_enter Try.func74, Try.ntmps74
          go_wp2
          go_ret
          rw [← HV.out]
          exact ⟨rfl, bel⟩
      · by_cases k2 : k = 2
        · subst k2
          have H1 := hide (tmod_emod f 60)
          have H2 := hide (tmod_emod t 60)
          by_cases c1 : cf ≤ f
          · by_cases c2 : t ≤ ct
            · go_enter Try.func74, Try.ntmps74
              go_wp2
              all_goals
                go_ret
                refine ⟨ret_bool ?_, by rw [← HV.out]; exact bel⟩
                rw [HB.out]
                have h1 := H1.out
                have h2 := H2.out
                clear HB HV bel H1 H2
                rw [Bool.eq_iff_iff]
                simp [Grain.may]
                omega
            · have e : b = false := by rw [HB.out, Bool.eq_false_iff]; simp [Grain.may]; omega
              subst e
              go_enter Try.func74, Try.ntmps74
              go_wp2
              go_ret
              rw [← HV.out]
              exact ⟨rfl, bel⟩
          · have e : b = false := by rw [HB.out, Bool.eq_false_iff]; simp [Grain.may]; omega
            subst e
            go_enter Try.func74, Try.ntmps74
            go_wp2
            go_ret
            rw [← HV.out]
            exact ⟨rfl, bel⟩
        · have e : b = false := by rw [HB.out]; simp [Grain.may, k0, k1, k2]
          subst e
          have e0 : (k == 0) = false := by simpa using k0
          have e1 : (k == 1) = false := by simpa using k1
          have e2 : (k == 2) = false := by simpa using k2
          clear HB k0 k1 k2
          go_enter Try.func74, Try.ntmps74
          go_wp2
          go_ret
          rw [← HV.out]
          exact ⟨rfl, bel⟩

set_option maxRecDepth 20000 in
set_option maxHeartbeats 4000000 in
theorem rcovers_any (s : Grain.Shf) (v0 v1 v2 v3 : Value) (l : List Grain.Pt) (ao : Option Addr) (n c : Nat) (f t : Int) (b : Bool) (w : World) (hs : Seg w ao (pcells l)) (hn : n = l.length) (hL : n ≤ 1000000000000000) (hb : b = Grain.cvr s l f t) :
    Calls Try.prog 29 #[.agg #[v0, v1, v2, v3, .int .i64 s.rf, .int .i64 s.ff, .int .i64 s.ft, .int .i64 s.cf, .int .i64 s.ct], .slice ao n c, .int .i64 f, .int .i64 t] w fun e w' => e = .returned (.bool b) ∧ Below w.heap.size w w' := by
  have HN := hide hn
  have HB := hide hb
  clear hn hb
  obtain ⟨X, hX⟩ : ∃ X, X = w.heap.size := ⟨_, rfl⟩
  obtain ⟨V, hV⟩ : ∃ V, V = w.alloc (.cells #[v0, v1, v2, v3, .int .i64 s.rf, .int .i64 s.ff, .int .i64 s.ft, .int .i64 s.cf, .int .i64 s.ct] 44) := ⟨_, rfl⟩
  have bel : Below w.heap.size w V := by rw [hV]; exact (Below.refl _ _).alloc (Nat.le_refl _) _
  have S0 : V.heap[X]? = some (.cells #[v0, v1, v2, v3, .int .i64 s.rf, .int .i64 s.ff, .int .i64 s.ft, .int .i64 s.cf, .int .i64 s.ct] 44 (0, 0)) := by rw [hV, hX]; exact heap_alloc_new w _
  have hsV := hs.below bel
  have HV := hide hV
  have HX := hide hX
  clear hV hX hs
  go_enter Try.func29, Try.ntmps29
  go_wp2
  rw [← HV.out, ← HX.out]
  go_loopw [9, 15] (fun s9 i wr => ∃ (k : Nat) (a : Int), k ≤ n ∧ s9 = .int .i64 a ∧ i = .int .i64 k ∧ Hid (b = Grain.cvr s (l.drop k) a t) ∧ Below V.heap.size V wr) (fun _ i _ => n - (intOf i).toNat)
  case atStart => exact ⟨0, f, Nat.zero_le _, rfl, rfl, HB, Below.refl _ _⟩
  case round =>
    obtain ⟨k, a, hk, rfl, rfl, HC, belr⟩ := hrel
    clear HB
    by_cases hlt : k < n
    · have hkl : k < l.length := by rw [← HN.out]; exact hlt
      obtain ⟨bb, off, rfl, hbl, hcell⟩ := seg_part hsV hkl
      obtain ⟨P, hP⟩ : ∃ P, P = Grain.pt l k := ⟨_, rfl⟩
      have q := (hcell k hkl).below belr hbl
      rw [← hP] at q
      obtain ⟨c0, c1, c2⟩ := q
      obtain ⟨m, hm⟩ : ∃ m, m = Grain.may s P := ⟨_, rfl⟩
      have HD : Hid (b = (m && (decide (P.f = a) && Grain.cvr s (l.drop (k + 1)) P.t t))) := by
        show _ = _
        rw [HC.out, List.drop_eq_getElem_cons hkl, Grain.cvr, hm, hP]
        have e : Grain.pt l k = l[k] := by simp [Grain.pt, List.getD, List.getElem?_eq_getElem hkl]
        rw [e]
      have HM := hide hm
      obtain ⟨W, hW⟩ : ∃ W, W = wr.alloc (.cells #[.int .i64 P.k, .int .i64 P.f, .int .i64 P.t] 112) := ⟨_, rfl⟩
      have hbW : Below wr.heap.size wr W := by rw [hW]; exact (Below.refl _ _).alloc (Nat.le_refl _) _
      have belW : Below V.heap.size V W := below_pl hbW belr
      have P0 : W.heap[wr.heap.size]? = some (.cells #[.int .i64 P.k, .int .i64 P.f, .int .i64 P.t] 112 (0, 0)) := by rw [hW]; exact heap_alloc_new wr _
      have S1 := below_block belr S0
      obtain ⟨x0, x1, x2, x3, x4, x5, x6, x7, x8⟩ := nine9 S1
      have Xl : X < wr.heap.size := lt_of_block S1
      have HW := hide hW
      clear hW hP hm hcell HC
      go_wp2_with fail
      rw [← HW.out]
      refine (rmay_any s v0 v1 v2 v3 P m W HM.out).mono ?_
      rintro e w1 ⟨rfl, hb1⟩
      have bel1 : Below V.heap.size V w1 := below_pl hb1 belW
      obtain ⟨y0, y1, y2⟩ := three3 (below_block hb1 P0)
      clear x0 x1 x2 x3 x4 x5 x6 x7 x8 hb1 c0 c1 c2 HW P0 S1
      cases m
      · have e : b = false := by rw [HD.out]; rfl
        subst e
        go_wp2
        go_ret
        exact ⟨rfl, below_pl bel1 bel⟩
      · by_cases ha : P.f = a
        · have HC : Hid (b = Grain.cvr s (l.drop (k + 1)) P.t t) := by show _ = _; rw [HD.out]; simp [ha]
          have en : (P.f != a) = false := by simp [ha]
          clear HD ha
          go_wp2
          go_roundw
          case rel => exact ⟨k + 1, P.t, by omega, rfl, by go_num, HC, bel1⟩
          case measure => simp [intOf]; omega
        · have e : b = false := by rw [HD.out]; simp [ha]
          subst e
          have en : (P.f != a) = true := by simp [ha]
          clear HD ha
          go_wp2
          go_ret
          exact ⟨rfl, below_pl bel1 bel⟩
    · have e : b = decide (a = t) := by
        rw [HC.out, List.drop_eq_nil_of_le (by have := HN.out; omega)]; rfl
      subst e
      clear HC
      go_wp2
      go_ret
      exact ⟨ret_bool (by rw [Bool.eq_iff_iff]; simp), below_pl belr bel⟩

set_option maxRecDepth 20000 in
set_option maxHeartbeats 2000000 in
theorem psame_any (l : List Grain.Pt) (ao bo : Option Addr) (n c c' : Nat) (w : World) (ha : Seg w ao (pcells l)) (hb : Seg w bo (pcells l)) (hn : n = l.length) (hc : n ≤ 9223372036854775807) :
    Calls Try.prog 32 #[.slice ao n c, .slice bo n c'] w fun e w' => e = .returned (.bool true) ∧ Below w.heap.size w w' := by
  have HN := hide hn
  clear hn
  have hz : ((n : Int) != (n : Int)) = false := by simp
  go_enter Try.func32, Try.ntmps32
  go_wp2
  go_loopw [13] (fun i wr => ∃ (k : Nat), k ≤ n ∧ i = .int .i64 k ∧ Below w.heap.size w wr) (fun i _ => n - (intOf i).toNat)
  case atStart => exact ⟨0, Nat.zero_le _, rfl, Below.refl _ _⟩
  case round =>
    obtain ⟨k, hk, rfl, bel⟩ := hrel
    by_cases hlt : k < n
    · have hlt' : k < l.length := by rw [← HN.out]; exact hlt
      obtain ⟨b, off, rfl, hbl, hcell⟩ := seg_part ha hlt'
      obtain ⟨b', off', rfl, hbl', hcell'⟩ := seg_part hb hlt'
      obtain ⟨P, hP⟩ : ∃ P, P = Grain.pt l k := ⟨_, rfl⟩
      have q := (hcell k hlt').below bel hbl
      have q' := (hcell' k hlt').below bel hbl'
      rw [← hP] at q q'
      obtain ⟨c0, c1, c2⟩ := q
      obtain ⟨d0, d1, d2⟩ := q'
      clear hcell hcell' hlt' hP
      go_wp2
      go_quiet (fail)
      go_wp2
      go_roundw
      case rel => exact ⟨k + 1, by omega, by go_num, below_drewN bel _⟩
      case measure => simp [intOf]; omega
    · go_wp2
      go_ret
      exact ⟨rfl, bel⟩

end Go.Proofs.Ytfgablhgjbjbkae

/-
  The document's own way of choosing and reading comes to the same. No program is named here.
-/
namespace Grain

/-- the next part, as the document says it -/
def nxtR (s : Shf) (a to : Int) : Pt :=
  if a + 60 ≤ to ∧ may s ⟨2, a, a + 60⟩ = true then ⟨2, a, a + 60⟩
  else if a + 10 ≤ to ∧ may s ⟨1, a, a + 10⟩ = true then ⟨1, a, a + 10⟩
  else ⟨0, a, min to (a / 10 * 10 + 10)⟩

def chsR (s : Shf) (to : Int) : Nat → Int → List Pt → List Pt × Int
  | 0, _, out => (out, 0)
  | n + 1, a, out => if a < to then (if may s (nxtR s a to) = true then chsR s to n (nxtR s a to).t (putP out (nxtR s a to)) else ([], 10)) else (out, 0)

theorem chsR_end {s : Shf} {to : Int} {a : Int} (h : ¬ a < to) (n : Nat) (out : List Pt) : chsR s to n a out = (out, 0) := by
  cases n with
  | zero => rfl
  | succ n => simp [chsR, h]

theorem nxtR_f (s : Shf) (a to : Int) : (nxtR s a to).f = a := by
  unfold nxtR
  split
  · rfl
  · split <;> rfl

theorem nxtR_t (s : Shf) (a to : Int) : (nxtR s a to).t ≤ to := by
  unfold nxtR
  split
  · next h => exact h.1
  · split
    · next h => exact h.1
    · exact Int.min_le_left _ _

theorem putP_putP (l : List Pt) (k a b c : Int) : putP (putP l ⟨k, a, b⟩) ⟨k, b, c⟩ = putP l ⟨k, a, c⟩ := by
  rcases snoc_or l with rfl | ⟨r, q, rfl⟩
  · rw [putP_nil, putP_nil]
    exact putP_same [] ⟨k, a, b⟩ ⟨k, b, c⟩ rfl
  · by_cases e : q.k = k
    · rw [putP_same _ _ _ e, putP_same r ⟨q.k, q.f, b⟩ ⟨k, b, c⟩ e, putP_same r q ⟨k, a, c⟩ e]
    · rw [putP_other _ _ _ e, putP_same (r ++ [q]) ⟨k, a, b⟩ ⟨k, b, c⟩ rfl, putP_other r q ⟨k, a, c⟩ e]

theorem no_fine {s : Shf} (sr : SR s) {a b : Int} (h : s.ft ≤ a) (hb : a < b) : may s ⟨2, a, b⟩ = false ∧ may s ⟨1, a, b⟩ = false := by
  have f1 := sr.bd
  constructor
  · unfold may
    rw [if_neg (by simp only; omega), if_neg (by simp), if_neg (by simp), if_pos rfl]
    simp
    omega
  · unfold may
    rw [if_neg (by simp only; omega), if_neg (by simp), if_pos rfl]
    simp
    omega

theorem may_raw {s : Shf} (sr : SR s) {a b : Int} (h : s.ft ≤ a) (hb : a < b) (h1 : b ≤ 1000000) : may s ⟨0, a, b⟩ = true := by
  have f1 := sr.bd
  unfold may
  rw [if_neg (by simp only; omega), if_pos rfl]
  simp
  omega

theorem chsR_raw {s : Shf} (sr : SR s) {to : Int} (ht : to ≤ 1000000) : ∀ (n : Nat) (a : Int) (out : List Pt), 0 ≤ a → s.ft ≤ a → a < to → (to - a).toNat ≤ n → chsR s to n a out = (putP out ⟨0, a, to⟩, 0) := by
  intro n
  induction n with
  | zero => intro a out _ _ h1 h2; omega
  | succ n ih =>
    intro a out h0 hf h1 h2
    have e : nxtR s a to = ⟨0, a, min to (a / 10 * 10 + 10)⟩ := by
      rw [nxtR, if_neg (by rw [(no_fine sr hf (show a < a + 60 by omega)).1]; simp), if_neg (by rw [(no_fine sr hf (show a < a + 10 by omega)).2]; simp)]
    obtain ⟨b, hb⟩ : ∃ b, b = min to (a / 10 * 10 + 10) := ⟨_, rfl⟩
    rw [← hb] at e
    have hab : a < b := by omega
    have hbt : b ≤ to := by omega
    rw [chsR, if_pos h1, e, if_pos (may_raw sr hf hab (by omega))]
    simp only
    by_cases c : b < to
    · rw [ih b _ (by omega) (by omega) c (by omega), putP_putP]
    · obtain rfl : b = to := by omega
      rw [chsR_end c]

theorem chsR_chs {s : Shf} (sr : SR s) {to : Int} (ht : to ≤ 1000000) : ∀ (n : Nat) (a : Int) (out : List Pt), 0 ≤ a → (to - a).toNat ≤ n → chsR s to n a out = chs s to n a out := by
  intro n
  induction n with
  | zero => intro a out _ _; rfl
  | succ n ih =>
    intro a out h0 h2
    by_cases e : a < to
    · by_cases hf : s.ft ≤ a
      · have en : nxt s a to = ⟨0, a, to⟩ := by
          rw [nxt, if_neg (by rw [(no_fine sr hf (show a < a + 60 by omega)).1]; simp), if_neg (by rw [(no_fine sr hf (show a < a + 10 by omega)).2]; simp), if_pos hf]
        rw [chsR_raw sr ht (n + 1) a out h0 hf e h2, chs, if_pos e, en, if_pos (may_raw sr hf e ht), chs_end (by simp only; omega)]
      · have en : nxtR s a to = nxt s a to := by
          unfold nxtR nxt
          rw [if_neg hf, show a / 10 * 10 + 10 = a - a % 10 + 10 by omega]
        rw [chsR, chs, if_pos e, if_pos e, en]
        by_cases m : may s (nxt s a to) = true
        · rw [if_pos m, if_pos m]
          have l1 := may_lt m
          have l2 := nxt_f s a to
          exact ih _ _ (by omega) (by omega)
        · rw [if_neg m, if_neg m]
    · rw [chsR_end e, chs_end e]

/-- what is chosen, as the document says it -/
theorem choose_ref {s : Shf} (h0 : swrong s = 0) {f t : Int} (h1 : 0 ≤ f) (h2 : f ≤ t) (h3 : t ≤ 1000000) : choose s f t = chsR s t (t - f).toNat f [] := by
  unfold choose
  rw [if_neg (by simp [h0]), if_neg (by omega), chsR_chs ((sr_iff s).1 h0) h3 _ _ _ h1 (Nat.le_refl _)]

/-- a sum of no more than so many -/
structure Good (a : Sm) (n : Int) : Prop where
  z : a = zero ∨ 1 ≤ a.c
  le : a.c ≤ n

theorem Good.pos {a : Sm} {n : Int} (h : Good a n) : 0 ≤ a.c := by
  rcases h.z with rfl | h
  · decide
  · omega

theorem good_join {a b : Sm} {n m : Int} (ha : Good a n) (hb : Good b m) (h : n + m ≤ 4611686018427387904) : Good (join a b) (n + m) := by
  have p1 := ha.pos
  have p2 := hb.pos
  have l1 := ha.le
  have l2 := hb.le
  by_cases e1 : a.c = 0
  · rw [join_zero_left a b e1]
    exact ⟨hb.z, by omega⟩
  · by_cases e2 : b.c = 0
    · rw [join_zero_right a b e1 e2]
      exact ⟨ha.z, by omega⟩
    · rw [join_full a b e1 e2]
      have e : wr (a.c + b.c) = a.c + b.c := wr_in (by omega) (by omega)
      refine ⟨.inr ?_, ?_⟩
      · simp only; rw [e]; omega
      · simp only; rw [e]; omega

theorem join_none {a : Sm} {n : Int} (h : Good a n) : join a zero = a := by
  rcases h.z with rfl | h
  · rfl
  · exact join_zero_right a zero (by omega) rfl

theorem good_zero {n : Int} (h : 0 ≤ n) : Good zero n := ⟨.inl rfl, h⟩

theorem good_inB (f t : Int) : ∀ B : List Bk, (∀ b ∈ B, 1 ≤ b.s.c ∧ b.s.c ≤ 60) → B.length ≤ 1000000 → Good (inB B f t) (60 * B.length) := by
  refine snoc_ind ?_ ?_
  · intro _ _; exact good_zero (by simp)
  · intro R b ih h hl
    have hb := h b (by simp)
    simp at hl
    have g := ih (fun x hx => h x (by simp [hx])) (by omega)
    rw [inB_snoc]
    have e : (60 : Int) * ((R ++ [b]).length : Int) = 60 * R.length + 60 := by simp; omega
    split
    · rw [e]
      exact good_join g ⟨.inr hb.1, hb.2⟩ (by omega)
    · rw [e]; exact ⟨g.z, by have := g.le; omega⟩

/-- entry by entry, or all at once -/
theorem foldl_inB (f t : Int) {a : Sm} {n : Int} (ha : Good a n) (hn : n ≤ 1000000000000000000) : ∀ B : List Bk, (∀ b ∈ B, 1 ≤ b.s.c ∧ b.s.c ≤ 60) → B.length ≤ 1000000 → B.foldl (fun acc b => if f ≤ b.a ∧ b.a < t then join acc b.s else acc) a = join a (inB B f t) := by
  refine snoc_ind ?_ ?_
  · intro _ _; exact (join_none ha).symm
  · intro R b ih h hl
    have hb := h b (by simp)
    simp at hl
    have g := good_inB f t R (fun x hx => h x (by simp [hx])) (by omega)
    rw [List.foldl_append, ih (fun x hx => h x (by simp [hx])) (by omega), inB_snoc]
    simp only [List.foldl_cons, List.foldl_nil]
    split
    · have p1 := ha.pos
      have p2 := ha.le
      have p3 := g.pos
      have p4 := g.le
      rw [join_assoc a (inB R f t) b.s ⟨p1, by omega⟩ ⟨p3, by omega⟩ ⟨by omega, by omega⟩]
    · rfl

/-- samples as entries -/
def rawB (l : List (Int × Int)) : List Bk := l.map fun x => ⟨x.1, one x.2⟩

theorem rawB_snoc (l : List (Int × Int)) (x : Int × Int) : rawB (l ++ [x]) = rawB l ++ [⟨x.1, one x.2⟩] := by simp [rawB]

theorem inB_raw (f t : Int) : ∀ l : List (Int × Int), l.length ≤ 1000000 → inB (rawB l) f t = of (win l f t) := by
  refine snoc_ind ?_ ?_
  · intro _; rfl
  · intro l x ih h
    simp at h
    rw [rawB_snoc, inB_snoc, ih (by omega), win_snoc]
    simp only
    split
    · rw [of_snoc _ _ (by have := win_len l f t; omega)]
    · rfl

theorem winB_raw (f t : Int) : ∀ l : List (Int × Int), (winB (rawB l) f t).length = (win l f t).length := by
  intro l
  induction l with
  | nil => rfl
  | cons x r ih =>
    simp only [rawB, List.map_cons, winB, win] at ih ⊢
    by_cases h : f ≤ x.1 ∧ x.1 < t
    · rw [List.filter_cons_of_pos (by simpa using h), List.filter_cons_of_pos (by simpa using h)]
      simp only [List.length_cons]
      rw [ih]
    · rw [List.filter_cons_of_neg (by simpa using h), List.filter_cons_of_neg (by simpa using h)]
      exact ih

/-- the entries that a part is read from -/
def ent (s : Shf) (p : Pt) : List Bk := if p.k = 0 then rawB s.ra else if p.k = 2 then s.co else s.fi

theorem ent_ok {s : Shf} (sr : SR s) (p : Pt) : (∀ b ∈ ent s p, 1 ≤ b.s.c ∧ b.s.c ≤ 60) ∧ (ent s p).length ≤ 500 := by
  unfold ent
  split
  · refine ⟨fun b hb => ?_, by simp [rawB]; exact sr.rlen⟩
    simp [rawB] at hb
    obtain ⟨_, _, _, rfl⟩ := hb
    exact ⟨by simp [one], by simp [one]⟩
  · split
    · exact ⟨fun b hb => by have := inRB_get (sr.cin b hb); omega, sr.clen⟩
    · exact ⟨fun b hb => by have := inRB_get (sr.fin b hb); omega, sr.flen⟩

theorem psum_ent {s : Shf} (sr : SR s) {p : Pt} (m : may s p = true) : psum s p = inB (ent s p) p.f p.t ∧ pcost s p = (winB (ent s p) p.f p.t).length := by
  have hl := may_lt m
  unfold may at m
  rw [if_neg (by omega)] at m
  unfold psum pcost ent
  by_cases k0 : p.k = 0
  · have k1 : ¬ p.k = 1 := by omega
    have k2 : ¬ p.k = 2 := by omega
    constructor
    · rw [if_neg k1, if_neg k2, if_pos k0, inB_raw _ _ _ (by have := sr.rlen; omega)]
    · rw [if_neg k1, if_neg k2, if_pos k0, winB_raw]
  · rw [if_neg k0] at m
    by_cases k1 : p.k = 1
    · have k2 : ¬ p.k = 2 := by omega
      constructor
      · rw [if_pos k1, if_neg k0, if_neg k2]
      · rw [if_pos k1, if_neg k0, if_neg k2]
    · rw [if_neg k1] at m
      by_cases k2 : p.k = 2
      · constructor
        · rw [if_neg k1, if_pos k2, if_neg k0, if_pos k2]
        · rw [if_neg k1, if_pos k2, if_neg k0, if_pos k2]
      · rw [if_neg k2] at m; cases m

theorem good_rdS {s : Shf} (sr : SR s) : ∀ l : List Pt, (∀ p ∈ l, may s p = true) → l.length ≤ 10000000000000 → Good (rdS s l) (30000 * l.length) := by
  refine snoc_ind ?_ ?_
  · intro _ _; exact good_zero (by simp)
  · intro r p ih h hl
    simp at hl
    have g := ih (fun x hx => h x (by simp [hx])) (by omega)
    obtain ⟨e1, e2⟩ := ent_ok sr p
    have g2 := good_inB p.f p.t (ent s p) e1 (by omega)
    rw [rdS_snoc, (psum_ent sr (h p (by simp))).1]
    have g3 := good_join g g2 (by omega)
    exact ⟨g3.z, by have := g3.le; simp; omega⟩

end Grain

/-
  The walk of the document's Wrong.
-/
namespace Go.Proofs.Ytfgablhgjbjbkae
open Go.RowKit Go.GrainU

set_option maxHeartbeats 1000000 in
theorem rwrong_any (l : List (Int × Int)) (ao : Option Addr) (n cap : Nat) (w : World) (hs : Seg w ao (scells l)) (hn : n = l.length) :
    Calls Try.prog 48 #[.slice ao n cap] w fun e w' => e = .returned (.agg #[.int .i64 (Grain.wrong l).1, .int .i64 (Grain.wrong l).2]) ∧ Below w.heap.size w w' := by
  subst hn
  by_cases h5 : 500 < l.length
  · have hw : Grain.wrong l = (5, 0) := by simp [Grain.wrong, h5]
    rw [hw]; clear hw
    go_enter Try.func48, Try.ntmps48
    go_wp2
    exact bodyPost_ret (v := .agg #[.int .i64 5, .int .i64 0]) (by simp [results, Try.results48, go_sem]) rfl ⟨rfl, by go_grown⟩
  · have hw : Grain.wrong l = Grain.wrongF l l.length 0 := by simp [Grain.wrong, h5]
    rw [hw]; clear hw
    have hd : decide ((500 : Int) < (l.length : Int)) = false := by simp; omega
    go_enter Try.func48, Try.ntmps48
    go_wp2
    go_loopw [11] (fun i wr => ∃ k : Nat, k ≤ l.length ∧ i = .int .i64 k ∧ Hid (Grain.wrongF l l.length 0 = Grain.wrongF l (l.length - k) k) ∧ wr.heap[w.heap.size]? = some (.cells #[.int .i64 0, .int .i64 0] 78 (0, 0)) ∧ Below w.heap.size w wr) (fun i _ => l.length - (intOf i).toNat)
    case atStart => exact ⟨0, Nat.zero_le _, rfl, rfl, heap_alloc_new w _, by go_grown⟩
    case round =>
      obtain ⟨k, hk, rfl, HW, hres, hbel⟩ := hrel
      by_cases hlt : k < l.length
      · obtain ⟨b, off, rfl, hcell⟩ := hs.sample hlt
        have hb : b < w.heap.size := World.block_lt_of_cell? w ⟨b, off + k * 2, none⟩ (hcell k hlt).1
        have c0 : wr.cell? ⟨b, off + k * 2, none⟩ = some (.int .i64 (Grain.tm l k)) := (hbel.cell (by exact hb)).trans (hcell k hlt).1
        have c1 : wr.cell? ⟨b, off + k * 2 + 1, none⟩ = some (.int .i64 (Grain.vl l k)) := (hbel.cell (by exact hb)).trans (hcell k hlt).2
        have hB : w.heap.size < wr.heap.size := lt_of_block hres
        obtain ⟨r0, r1, r2, r3⟩ := two_cells hres
        have hbel1 : Below w.heap.size w (wr.alloc (.cells #[.int .i64 (Grain.tm l k), .int .i64 (Grain.vl l k)] 35)) := hbel.alloc (by omega) _
        have hres1 : (wr.alloc (.cells #[.int .i64 (Grain.tm l k), .int .i64 (Grain.vl l k)] 35)).heap[w.heap.size]? = some (.cells #[.int .i64 0, .int .i64 0] 78 (0, 0)) := by
          rw [Below.heap_alloc _ _ _ hB]; exact hres
        have fin : Hid (Grain.inR (Grain.tm l k) (Grain.vl l k) = false → Grain.wrongF l l.length 0 = (3, (k : Int))) := by
          intro hin
          rw [HW.out, show l.length - k = (l.length - k - 1) + 1 from by omega, Grain.wrongF_no (by simp [Grain.bad, hin])]; simp [Grain.bad, hin]
        by_cases g1 : Grain.tm l k < 0
        · have hin : Hid (Grain.inR (Grain.tm l k) (Grain.vl l k) = false) := by unfold Hid; simp [Grain.inR]; omega
          clear HW
          go_wp2
          exact bodyPost_ret (v := .agg #[.int .i64 3, .int .i64 k]) (by simp [results, Try.results48, go_sem, r0, r1, hB]) rfl ⟨by rw [fin.out hin.out], by go_grown⟩
        · by_cases g2 : 1000000 < Grain.tm l k
          · have hin : Hid (Grain.inR (Grain.tm l k) (Grain.vl l k) = false) := by unfold Hid; simp [Grain.inR]; omega
            clear HW
            go_wp2
            exact bodyPost_ret (v := .agg #[.int .i64 3, .int .i64 k]) (by simp [results, Try.results48, go_sem, r0, r1, hB]) rfl ⟨by rw [fin.out hin.out], by go_grown⟩
          · by_cases g3 : 1000000000 < Grain.vl l k
            · have hin : Hid (Grain.inR (Grain.tm l k) (Grain.vl l k) = false) := by unfold Hid; simp [Grain.inR]; omega
              clear HW
              go_wp2
              exact bodyPost_ret (v := .agg #[.int .i64 3, .int .i64 k]) (by simp [results, Try.results48, go_sem, r0, r1, hB]) rfl ⟨by rw [fin.out hin.out], by go_grown⟩
            · by_cases g4 : Grain.vl l k < -1000000000
              · have hin : Hid (Grain.inR (Grain.tm l k) (Grain.vl l k) = false) := by unfold Hid; simp [Grain.inR]; omega
                clear HW
                go_wp2
                exact bodyPost_ret (v := .agg #[.int .i64 3, .int .i64 k]) (by simp [results, Try.results48, go_sem, r0, r1, hB]) rfl ⟨by rw [fin.out hin.out], by go_grown⟩
              · have hin : Grain.inR (Grain.tm l k) (Grain.vl l k) = true := by simp [Grain.inR]; omega
                rcases Nat.eq_zero_or_pos k with hk0 | hk0
                · subst hk0
                  have hg : decide ((0 : Int) < ((0 : Nat) : Int)) = false := by decide
                  have hg' : decide ((0 : Int) < 0) = false := by decide
                  have hw : Hid (Grain.wrongF l l.length 0 = Grain.wrongF l (l.length - (0 + 1)) (0 + 1)) := by
                    show Grain.wrongF l l.length 0 = Grain.wrongF l (l.length - (0 + 1)) (0 + 1)
                    rw [HW.out, show l.length - 0 = (l.length - (0 + 1)) + 1 from by omega, Grain.wrongF_ok (by simp [Grain.bad, hin])]
                  simp only [Nat.zero_mul, Nat.add_zero] at c0 c1
                  clear HW hin fin
                  go_wp2
                  go_quiet (fail)
                  go_wp2
                  go_roundw
                  case rel => exact ⟨0 + 1, by omega, by go_num, hw, hres1, below_drewN hbel1 _⟩
                  case measure => simp [intOf]; omega
                · obtain ⟨m, rfl⟩ : ∃ m, k = m + 1 := ⟨k - 1, by omega⟩
                  have hg : decide ((0 : Int) < ((m + 1 : Nat) : Int)) = true := by simp
                  have hg' : decide ((0 : Int) < (m : Int) + 1) = true := by simp
                  have p0 : wr.cell? ⟨b, off + m * 2, none⟩ = some (.int .i64 (Grain.tm l m)) := (hbel.cell (by exact hb)).trans (hcell m (by omega)).1
                  have hbr : b < wr.heap.size := by omega
                  have hw2 : Hid (Grain.tm l (m + 1) ≤ Grain.tm l m → Grain.wrongF l l.length 0 = (2, ((m : Int) + 1))) := by
                    intro hle
                    rw [HW.out, show l.length - (m + 1) = (l.length - (m + 1) - 1) + 1 from by omega, Grain.wrongF_no (by simp [Grain.bad, hin, hle])]; simp [Grain.bad, hin, hle]
                  have hw : Hid (Grain.tm l m < Grain.tm l (m + 1) → Grain.wrongF l l.length 0 = Grain.wrongF l (l.length - (m + 1 + 1)) (m + 1 + 1)) := by
                    intro hle
                    rw [HW.out, show l.length - (m + 1) = (l.length - (m + 1 + 1)) + 1 from by omega, Grain.wrongF_ok (by simp [Grain.bad, hin]; omega)]
                  clear HW hin fin hcell
                  go_wp2
                  go_quiet (fail)
                  go_wp2
                  · exact bodyPost_ret (v := .agg #[.int .i64 2, .int .i64 ((m : Int) + 1)]) (by simp [results, Try.results48, go_sem, r0, r1, hB]) rfl ⟨by rw [hw2.out (by assumption)], ((below_drewN hbel1 _).setCell (Nat.le_refl _) _).setCell (Nat.le_refl _) _⟩
                  · go_roundw
                    case rel => exact ⟨m + 1 + 1, by omega, by go_num, hw.out (by assumption), hres1, below_drewN hbel1 _⟩
                    case measure => simp [intOf]; omega
      · obtain ⟨r0, r1, r2, r3⟩ := two_cells hres
        have he : k = l.length := by omega
        subst he
        have hw : Hid (Grain.wrongF l l.length 0 = (0, 0)) := by
          show Grain.wrongF l l.length 0 = (0, 0)
          rw [HW.out]; simp [Grain.wrongF]
        clear HW
        go_wp2
        exact bodyPost_ret (v := .agg #[.int .i64 0, .int .i64 0]) (by simp [results, Try.results48, go_sem, r0, r1]) rfl ⟨by rw [hw.out], (hbel.setCell (Nat.le_refl _) _).setCell (Nat.le_refl _) _⟩

end Go.Proofs.Ytfgablhgjbjbkae

/-
  The walk of the document's Named.
-/
namespace Go.Proofs.Ytfgablhgjbjbkae
open Go.RowKit Go.GrainU

/-- the bytes of a word, laid in memory -/
theorem bytes_new (w : World) (s : ByteArray) (cap : Nat) (t : TypeId) (fr : Nat × Nat) : ∃ W, W = w.drew.alloc (.cells (bytesRow s cap) t fr) ∧ (∀ k, k < s.size → W.cell? ⟨w.heap.size, k, none⟩ = some (.int .u8 (Grain.byt s k))) ∧ Below w.heap.size w W := by
  refine ⟨_, rfl, fun k hk => ?_, (below_drewN (Below.refl _ w) 1).alloc (Nat.le_refl _) _⟩
  have hb : (w.drew.alloc (.cells (bytesRow s cap) t fr)).heap[w.heap.size]? = some (.cells (bytesRow s cap) t fr) := heap_alloc_new w.drew _
  have hk' : k < s.data.size := hk
  rw [cell_of_row _ _ _ _ _ _ hb]
  unfold bytesRow Grain.byt
  rw [Array.getElem?_append_left (by simpa using hk')]
  simp only [List.getD, Array.getElem?_toList, Array.getElem?_map, Array.getElem?_eq_getElem hk', Option.map_some, Option.getD_some]

set_option maxHeartbeats 2000000 in
theorem rnamed_any (s : ByteArray) (w : World) (hm : s.size ≤ 9223372036854775807) :
    Calls Try.prog 96 #[.string s] w fun e w' => e = .returned (.bool (Grain.named s)) ∧ Below w.heap.size w w' := by
  have hcv := run_bytes_of_string (P := Try.prog) w 9 159 5 s Try.underlying9 Try.underlying159 Try.underlying5
  obtain ⟨W, hW, hcell, bel⟩ := bytes_new w s (grownCap w s.size 0 5) 5 ((bytesRow s (grownCap w s.size 0 5)).size, (bytesRow s (grownCap w s.size 0 5)).size + 1)
  rw [← hW] at hcv
  have HC := hide hcell
  clear hW hcell
  go_enter Try.func96, Try.ntmps96
  go_wp2
  go_loopw [9] (fun i wr => ∃ k : Nat, k ≤ s.size ∧ i = .int .i64 k ∧ Hid (Grain.fineN s k = true) ∧ wr = W) (fun i _ => s.size - (intOf i).toNat)
  case atStart => exact ⟨0, Nat.zero_le _, rfl, rfl, rfl⟩
  case round =>
    obtain ⟨k, hk, rfl, HF, rfl⟩ := hrel
    by_cases hlt : k < s.size
    · have c0 := HC.out k hlt
      have hbd := Grain.byt_bd s k
      obtain ⟨c, hc⟩ : ∃ c, c = Grain.byt s k := ⟨_, rfl⟩
      rw [← hc] at c0 hbd
      have HB : Hid (Grain.badN k c = true → Grain.named s = false) := by
        intro h
        rw [hc] at h
        unfold Grain.named
        rw [Grain.fineN_no h s.size hlt]
        rfl
      have HN : Hid (Grain.badN k c = false → Grain.fineN s (k + 1) = true) := by
        intro h
        show (Grain.fineN s k && !Grain.badN k (Grain.byt s k)) = true
        rw [← hc, h, HF.out]
        rfl
      clear hcv HF hc
      by_cases h1 : 97 ≤ c ∧ c ≤ 122
      · obtain ⟨h1, h2⟩ := h1
        by_cases hk0 : k = 0
        · subst hk0
          go_wp2
          go_roundw
          case rel => exact ⟨0 + 1, by omega, by go_num, HN.out (by simp [Grain.badN, Grain.low]; omega), by first | rfl | trivial⟩
          case measure => simp [intOf]; omega
        · go_wp2
          go_roundw
          case rel => exact ⟨k + 1, by omega, by go_num, HN.out (by simp [Grain.badN, Grain.low]; omega), by first | rfl | trivial⟩
          case measure => simp [intOf]; omega
      · have hl : (decide (97 ≤ c) && decide (c ≤ 122)) = false := by simp; omega
        by_cases hk0 : k = 0
        · subst hk0
          rcases (show c < 97 ∨ (97 ≤ c ∧ 122 < c) from by omega) with g | ⟨g, g'⟩
          · go_wp2
            go_ret
            exact ⟨ret_bool (HB.out (by simp [Grain.badN, Grain.low]; omega)).symm, bel⟩
          · go_wp2
            go_ret
            exact ⟨ret_bool (HB.out (by simp [Grain.badN, Grain.low]; omega)).symm, bel⟩
        · rcases (show c < 97 ∨ (97 ≤ c ∧ 122 < c) from by omega) with g | ⟨g, g'⟩
          · by_cases g1 : c = 95
            · subst g1
              go_wp2
              go_roundw
              case rel => exact ⟨k + 1, by omega, by go_num, HN.out (by simp [Grain.badN, Grain.low]; omega), by first | rfl | trivial⟩
              case measure => simp [intOf]; omega
            · by_cases g2 : c < 48
              · go_wp2
                go_ret
                exact ⟨ret_bool (HB.out (by simp [Grain.badN, Grain.low]; omega)).symm, bel⟩
              · by_cases g3 : 57 < c
                · go_wp2
                  go_ret
                  exact ⟨ret_bool (HB.out (by simp [Grain.badN, Grain.low]; omega)).symm, bel⟩
                · go_wp2
                  go_roundw
                  case rel => exact ⟨k + 1, by omega, by go_num, HN.out (by simp [Grain.badN, Grain.low]; omega), by first | rfl | trivial⟩
                  case measure => simp [intOf]; omega
          · have d1 : decide (c ≤ 122) = false := by simpa using g'
            have d2 : (c != 95) = true := by simp; omega
            have d3 : decide (c < 48) = false := by simp; omega
            have d4 : decide (57 < c) = true := by simp; omega
            go_wp2
            go_ret
            exact ⟨ret_bool (HB.out (by simp [Grain.badN, Grain.low]; omega)).symm, bel⟩
    · have he : k = s.size := by omega
      subst he
      have HE : Hid (Grain.named s = (decide (0 < s.size) && decide (s.size ≤ 12))) := by
        show Grain.named s = _
        unfold Grain.named
        rw [HF.out]
        rfl
      clear hcv HC
      by_cases h0 : s.size = 0
      · have e0 : decide ((0 : Int) < (s.size : Int)) = false := by simp [h0]
        go_wp2
        go_ret
        exact ⟨ret_bool (by rw [HE.out]; simp [h0]), bel⟩
      · have e0 : decide ((0 : Int) < (s.size : Int)) = true := by simp; omega
        go_wp2
        go_ret
        refine ⟨ret_bool ?_, bel⟩
        rw [HE.out, Bool.eq_iff_iff]
        simp
        omega

end Go.Proofs.Ytfgablhgjbjbkae

/-
  The walk of the document's WrongSeries.
-/
namespace Go.Proofs.Ytfgablhgjbjbkae
open Go.RowKit Go.GrainU

set_option maxHeartbeats 2000000 in
theorem rwrongs_any (l : List (ByteArray × ByteArray)) (ao : Option Addr) (n cap : Nat) (w : World) (hs : Seg w ao (lcells l)) (hn : n = l.length) (hf : Fits l) :
    Calls Try.prog 47 #[.slice ao n cap] w fun e w' => e = .returned (.int .i64 (wrongS l)) ∧ Below w.heap.size w w' := by
  by_cases h5 : 4 < n
  · have hw : wrongS l = 5 := by simp [wrongS, ← hn, h5]
    rw [hw]; clear hw hn
    have hd : decide ((4 : Int) < (n : Int)) = true := by simp; omega
    go_enter Try.func47, Try.ntmps47
    go_wp2
    go_ret
    exact ⟨rfl, Below.refl _ _⟩
  · have hw : wrongS l = wrongSF l n 0 := by simp [wrongS, ← hn, h5]
    rw [hw]; clear hw
    have HN := hide hn
    have HF := hide hf
    clear hn hf
    have hd : decide ((4 : Int) < (n : Int)) = false := by simp; omega
    go_enter Try.func47, Try.ntmps47
    go_wp2
    go_loopw [10] (fun i wr => ∃ k : Nat, k ≤ n ∧ i = .int .i64 k ∧ Hid (wrongSF l n 0 = wrongSF l (n - k) k) ∧ Below w.heap.size w wr) (fun i _ => n - (intOf i).toNat)
    case atStart => exact ⟨0, Nat.zero_le _, rfl, rfl, Below.refl _ _⟩
    case round =>
      obtain ⟨k, hk, rfl, HW, bel⟩ := hrel
      have hsz := bel.size
      by_cases hlt : k < n
      · have hkl : k < l.length := by rw [← HN.out]; exact hlt
        obtain ⟨b, off, rfl, hb, hcell⟩ := seg_label hs hkl
        obtain ⟨x, hx⟩ : ∃ x, x = lk l k := ⟨_, rfl⟩
        obtain ⟨y, hy⟩ : ∃ y, y = lv l k := ⟨_, rfl⟩
        have c0 : wr.cell? ⟨b, off + k * 2, none⟩ = some (.string x) := by rw [hx]; exact (bel.cell (by exact hb)).trans (hcell k hkl).1
        have c1 : wr.cell? ⟨b, off + k * 2 + 1, none⟩ = some (.string y) := by rw [hy]; exact (bel.cell (by exact hb)).trans (hcell k hkl).2
        have fx : x.size ≤ 9223372036854775807 := by rw [hx]; exact (HF.out k hkl).1
        have fy : y.size ≤ 9223372036854775807 := by rw [hy]; exact (HF.out k hkl).2
        have HX := hide hx
        have HY := hide hy
        have NO : Hid ((Grain.named x && Grain.named y) = false → wrongSF l n 0 = 7) := by
          intro h
          have hbad : badS l k = 7 := by unfold badS; rw [← HX.out, ← HY.out, h]; simp
          rw [HW.out, show n - k = (n - k - 1) + 1 from by omega, wrongSF_no (by rw [hbad]; decide), hbad]
        obtain ⟨N1, hN1⟩ : ∃ N1, N1 = Grain.named x := ⟨_, rfl⟩
        obtain ⟨N2, hN2⟩ : ∃ N2, N2 = Grain.named y := ⟨_, rfl⟩
        have H1 := hide hN1
        have H2 := hide hN2
        have HC := hide hcell
        clear hx hy hkl hN1 hN2 hcell
        go_wp2_with fail
        refine (rnamed_any x _ fx).mono ?_
        rintro e w1 ⟨rfl, hb1⟩
        rw [← H1.out]
        have F1 := below_block hb1 (heap_alloc_new wr (.cells #[.string x, .string y] 93))
        obtain ⟨p0, p1, _, _⟩ := two_cells F1
        have bel1 : Below w.heap.size w w1 := (bel.alloc hsz _).trans (hb1.mono (by simp; omega))
        have hs1 := bel1.size
        clear hb1 bel c0 c1
        cases N1 with
        | false =>
          have hw := hide (NO.out (by rw [← H1.out]; rfl))
          clear NO HW
          go_wp2
          go_ret
          exact ⟨ret_int hw.out.symm, bel1⟩
        | true =>
          go_wp2_with fail
          refine (rnamed_any y _ fy).mono ?_
          rintro e w2 ⟨rfl, hb2⟩
          rw [← H2.out]
          have F2 := below_block hb2 F1
          obtain ⟨p0, p1, _, _⟩ := two_cells F2
          have bel2 : Below w.heap.size w w2 := bel1.trans (hb2.mono hs1)
          clear hb2 bel1
          cases N2 with
          | false =>
            have hw := hide (NO.out (by rw [← H2.out]; simp))
            clear NO HW
            go_wp2
            go_ret
            exact ⟨ret_int hw.out.symm, bel2⟩
          | true =>
            have hgood : Hid ((Grain.named (lk l k) && Grain.named (lv l k)) = true) := by
              show (Grain.named (lk l k) && Grain.named (lv l k)) = true
              rw [← HX.out, ← HY.out, ← H1.out, ← H2.out]; rfl
            clear NO
            rcases Nat.eq_zero_or_pos k with hk0 | hk0
            · subst hk0
              have hg : decide ((0 : Int) < ((0 : Nat) : Int)) = false := by decide
              have hg' : decide ((0 : Int) < 0) = false := by decide
              have hw : Hid (wrongSF l n 0 = wrongSF l (n - (0 + 1)) (0 + 1)) := by
                show wrongSF l n 0 = wrongSF l (n - (0 + 1)) (0 + 1)
                have hbad : badS l 0 = 0 := by unfold badS; rw [hgood.out]; simp
                rw [HW.out, show n - 0 = (n - (0 + 1)) + 1 from by omega, wrongSF_ok hbad]
              clear HW hgood
              go_wp2
              go_quiet (fail)
              go_wp2
              go_roundw
              case rel => exact ⟨0 + 1, by omega, by go_num, hw, below_drewN bel2 _⟩
              case measure => simp [intOf]; omega
            · obtain ⟨m, rfl⟩ : ∃ m, k = m + 1 := ⟨k - 1, by omega⟩
              have hg : decide ((0 : Int) < ((m + 1 : Nat) : Int)) = true := by simp
              have hg' : decide ((0 : Int) < (m : Int) + 1) = true := by simp
              obtain ⟨z, hz⟩ : ∃ z, z = lk l m := ⟨_, rfl⟩
              have q0 : w2.cell? ⟨b, off + m * 2, none⟩ = some (.string z) := by rw [hz]; exact (bel2.cell (by exact hb)).trans (HC.out m (by rw [← HN.out]; omega)).1
              cases hle : wle x z with
              | true =>
                have hle' : (Op.bytesLess x.toList z.toList || x.toList == z.toList) = true := hle
                have hw : Hid (wrongSF l n 0 = 2) := by
                  show wrongSF l n 0 = 2
                  have hbad : badS l (m + 1) = 2 := by
                    unfold badS
                    rw [hgood.out, if_neg (by simp), if_pos ⟨by omega, by rw [← HX.out]; simpa [← hz] using hle⟩]
                  rw [HW.out, show n - (m + 1) = (n - (m + 1) - 1) + 1 from by omega, wrongSF_no (by rw [hbad]; decide), hbad]
                clear HW hgood hz hle
                go_wp2
                go_quiet (fail)
                go_wp2
                go_ret
                exact ⟨ret_int hw.out.symm, below_drewN bel2 _⟩
              | false =>
                have hle' : (Op.bytesLess x.toList z.toList || x.toList == z.toList) = false := hle
                have hw : Hid (wrongSF l n 0 = wrongSF l (n - (m + 1 + 1)) (m + 1 + 1)) := by
                  show wrongSF l n 0 = wrongSF l (n - (m + 1 + 1)) (m + 1 + 1)
                  have hbad : badS l (m + 1) = 0 := by
                    unfold badS
                    rw [hgood.out, if_neg (by simp), if_neg (by rw [← HX.out]; simp [← hz, hle])]
                  rw [HW.out, show n - (m + 1) = (n - (m + 1 + 1)) + 1 from by omega, wrongSF_ok hbad]
                clear HW hgood hz hle
                go_wp2
                go_quiet (fail)
                go_wp2
                go_roundw
                case rel => exact ⟨m + 1 + 1, by omega, by go_num, hw, below_drewN bel2 _⟩
                case measure => simp [intOf]; omega
      · have he : k = n := by omega
        subst he
        have hw : Hid (wrongSF l k 0 = 0) := by
          show wrongSF l k 0 = 0
          rw [HW.out]; simp [wrongSF]
        clear HW
        go_wp2
        go_ret
        exact ⟨ret_int hw.out.symm, bel⟩

end Go.Proofs.Ytfgablhgjbjbkae

/-
  The map of steps that the document's answer is made with: one entry, another one, looked into.
-/
namespace Go.Proofs.Ytfgablhgjbjbkae
open Go.RowKit Go.GrainU

/-- an entry -/
def me (k v : Int) (b : Nat) : MapEntry := { key := .int .i64 k, val := .int .i64 v, born := b }

theorem set_new (W : World) (o o' : Obj) : ({ W.alloc o with heap := (W.alloc o).heap.setIfInBounds W.heap.size o' } : World) = W.alloc o' := by
  have : (W.alloc o).heap = W.heap.push o := rfl
  have h2 : (W.alloc o').heap = W.heap.push o' := rfl
  show World.mk _ _ _ _ _ = World.mk _ _ _ _ _
  congr 1
  show (W.heap.push o).setIfInBounds W.heap.size o' = W.heap.push o'
  apply Array.ext
  · simp
  · intro i h1 h3
    simp at h1 h3
    by_cases e : i = W.heap.size
    · subst e; simp
    · rw [Array.getElem_setIfInBounds_ne (by simp; omega) (Ne.symm e)]
      simp [Array.getElem_push, show i < W.heap.size from by omega]

theorem smap_put {W : World} {B : Nat} (hB : W.heap.size = B) (es : Array MapEntry) (c : Nat) (k v : Int) (hf : Instr.findNow (.int .i64) (.int .i64 k) es.toList 0 = some none) :
    (Instr.mapUpdate 137 (.map (some B)) (.int .i64 k) (.int .i64 v)).run Try.prog (W.alloc (.map es c)) = .ok () (W.alloc (.map (es.push (me k v c)) (c + 1))) := by
  subst hB
  have hb : (W.alloc (.map es c)).heap[W.heap.size]? = some (.map es c) := heap_alloc_new W _
  have hc : (Instr.checkKey false 10000 3 (.int .i64 k)).run Try.prog (W.alloc (.map es c)) = .ok () (W.alloc (.map es c)) := MapKept.run_checkKey (k := .int .i64 k) Try.underlying3 (by simp [MapKept.IsKey]) false 9999
  have hs := set_new W (.map es c) (.map (es.push (me k v c)) (c + 1))
  simp [Instr.mapUpdate, run_underlying Try.underlying137, MapKept.run_getObj_map hb, hc, MapKept.run_findKey Try.underlying3 hf, MapKept.run_setObj_map _ hb, Result.andThen]
  exact hs

theorem smap_get {W : World} {B : Nat} (hB : W.heap.size = B) (es : Array MapEntry) (c : Nat) (k : Int) (r : Int) (hf : (∃ i, Instr.findNow (.int .i64) (.int .i64 k) es.toList 0 = some (some (i, .int .i64 r))) ∨ (Instr.findNow (.int .i64) (.int .i64 k) es.toList 0 = some none ∧ r = 0)) :
    (Instr.lookup 137 (.map (some B)) (.int .i64 k) false).run Try.prog (W.alloc (.map es c)) = .ok (.int .i64 r) (W.alloc (.map es c)) := by
  subst hB
  have hb : (W.alloc (.map es c)).heap[W.heap.size]? = some (.map es c) := heap_alloc_new W _
  have hc : (Instr.checkKey es.isEmpty 10000 3 (.int .i64 k)).run Try.prog (W.alloc (.map es c)) = .ok () (W.alloc (.map es c)) := MapKept.run_checkKey (k := .int .i64 k) Try.underlying3 (by simp [MapKept.IsKey]) es.isEmpty 9999
  have hz : (zeroValue 3).run Try.prog (W.alloc (.map es c)) = .ok (.int .i64 0) (W.alloc (.map es c)) := by
    simp [zeroValue, go_sem, Try.t3]
  rcases hf with ⟨i, hf⟩ | ⟨hf, rfl⟩
  · simp [Instr.lookup, run_underlying Try.underlying137, MapKept.run_getObj_map hb, hc, MapKept.run_findKey Try.underlying3 hf, Result.andThen]
  · simp [Instr.lookup, run_underlying Try.underlying137, MapKept.run_getObj_map hb, hc, MapKept.run_findKey Try.underlying3 hf, hz, Result.andThen]

/-- the map, in either order -/
theorem smap_new {W : World} {B : Nat} (hB : W.heap.size = B) (k v : Int) : (Instr.mapUpdate 137 (.map (some B)) (.int .i64 k) (.int .i64 v)).run Try.prog (W.alloc (.map #[] 0)) = .ok () (W.alloc (.map #[me k v 0] 1)) :=
  smap_put hB #[] 0 k v rfl

theorem smap_12 {W : World} {B : Nat} (hB : W.heap.size = B) : (Instr.mapUpdate 137 (.map (some B)) (.int .i64 2) (.int .i64 60)).run Try.prog (W.alloc (.map #[me 1 10 0] 1)) = .ok () (W.alloc (.map #[me 1 10 0, me 2 60 1] 2)) :=
  smap_put hB #[me 1 10 0] 1 2 60 (by simp [Instr.findNow, Instr.sameNow, me])

theorem smap_21 {W : World} {B : Nat} (hB : W.heap.size = B) : (Instr.mapUpdate 137 (.map (some B)) (.int .i64 1) (.int .i64 10)).run Try.prog (W.alloc (.map #[me 2 60 0] 1)) = .ok () (W.alloc (.map #[me 2 60 0, me 1 10 1] 2)) :=
  smap_put hB #[me 2 60 0] 1 1 10 (by simp [Instr.findNow, Instr.sameNow, me])

theorem smap_look {W : World} {B : Nat} (hB : W.heap.size = B) (tier : Int) : (Instr.lookup 137 (.map (some B)) (.int .i64 tier) false).run Try.prog (W.alloc (.map #[me 1 10 0, me 2 60 1] 2)) = .ok (.int .i64 (stepOf tier)) (W.alloc (.map #[me 1 10 0, me 2 60 1] 2)) := by
  refine smap_get hB _ _ tier _ ?_
  unfold stepOf
  by_cases h1 : tier = 1
  · subst h1; left; exact ⟨0, by simp [Instr.findNow, Instr.sameNow, me]⟩
  · by_cases h2 : tier = 2
    · subst h2; left; exact ⟨1, by simp [Instr.findNow, Instr.sameNow, me]⟩
    · right; simp [Instr.findNow, Instr.sameNow, me, h1, h2, show (tier == 1) = false from by simpa using h1, show (tier == 2) = false from by simpa using h2]

theorem smap_look' {W : World} {B : Nat} (hB : W.heap.size = B) (tier : Int) : (Instr.lookup 137 (.map (some B)) (.int .i64 tier) false).run Try.prog (W.alloc (.map #[me 2 60 0, me 1 10 1] 2)) = .ok (.int .i64 (stepOf tier)) (W.alloc (.map #[me 2 60 0, me 1 10 1] 2)) := by
  refine smap_get hB _ _ tier _ ?_
  unfold stepOf
  by_cases h1 : tier = 1
  · subst h1; left; exact ⟨1, by simp [Instr.findNow, Instr.sameNow, me]⟩
  · by_cases h2 : tier = 2
    · subst h2; left; exact ⟨0, by simp [Instr.findNow, Instr.sameNow, me]⟩
    · right; simp [Instr.findNow, Instr.sameNow, me, h1, h2, show (tier == 1) = false from by simpa using h1, show (tier == 2) = false from by simpa using h2]

end Go.Proofs.Ytfgablhgjbjbkae

/-
  The walk of the document's WrongBuckets.
-/
namespace Go.Proofs.Ytfgablhgjbjbkae
open Go.RowKit Go.GrainU

/-- the world behind the map -/
theorem wb_start (w : World) (o : Obj) : ∃ W, W = (w.alloc (.cells #[.int .i64 0, .int .i64 0] 78)).alloc o ∧ W.heap[w.heap.size]? = some (.cells #[.int .i64 0, .int .i64 0] 78 (0, 0)) ∧ Below w.heap.size w W := by
  refine ⟨_, rfl, ?_, ?_⟩
  · rw [Below.heap_alloc _ _ _ (by simp)]; exact heap_alloc_new w _
  · exact ((Below.refl _ _).alloc (Nat.le_refl _) _).alloc (by simp) _

set_option maxHeartbeats 2000000 in
theorem rwb_any (B : List Grain.Bk) (ao : Option Addr) (n cap : Nat) (tier : Int) (w : World) (hs : Seg w ao (kcells B)) (hn : n = B.length) :
    Calls Try.prog 49 #[.slice ao n cap, .int .i64 tier] w fun e w' => e = .returned (.agg #[.int .i64 (Grain.wrongB B (stepOf tier)).1, .int .i64 (Grain.wrongB B (stepOf tier)).2]) ∧ Below w.heap.size w w' := by
  have hmm := @run_makeMap Try.prog
  obtain ⟨st, hst⟩ : ∃ st, st = stepOf tier := ⟨_, rfl⟩
  have hc := kstep_cases tier
  have i1 := smap_new (W := w.alloc (.cells #[.int .i64 0, .int .i64 0] 78)) (B := w.heap.size + 1) (by simp) 1 10
  have i2 := smap_12 (W := w.alloc (.cells #[.int .i64 0, .int .i64 0] 78)) (B := w.heap.size + 1) (by simp)
  have i3 := smap_look (W := w.alloc (.cells #[.int .i64 0, .int .i64 0] 78)) (B := w.heap.size + 1) (by simp) tier
  rw [← hst] at hc i3 ⊢
  obtain ⟨W, hW, hres0, bel0⟩ := wb_start w (.map #[me 1 10 0, me 2 60 1] 2)
  have HST := hide hst
  have HW := hide hW
  clear hst hW
  obtain ⟨r0, r1, r2, r3⟩ := two_cells hres0
  rcases hc with hc | hc
  · subst hc
    have hw : Grain.wrongB B 0 = (1, 0) := by simp [Grain.wrongB]
    rw [hw]; clear hw
    go_enter Try.func49, Try.ntmps49
    go_wp2
    exact bodyPost_ret (v := .agg #[.int .i64 1, .int .i64 0]) (by simp [results, Try.results49, go_sem]) rfl ⟨rfl, ((Below.refl _ _).alloc (Nat.le_refl _) _).alloc (by simp) _⟩
  · have hst0 : (st == 0) = false := by rcases hc with e | e <;> simp [e]
    have hst1 : st ≠ 0 := by rcases hc with e | e <;> simp [e]
    have HC := hide hc
    clear hc
    by_cases h5 : 500 < n
    · have hw : Grain.wrongB B st = (5, 0) := by simp [Grain.wrongB, hst1, ← hn, h5]
      rw [hw]; clear hw hn
      have hd : decide ((500 : Int) < (n : Int)) = true := by simp; omega
      go_enter Try.func49, Try.ntmps49
      go_wp2
      exact bodyPost_ret (v := .agg #[.int .i64 5, .int .i64 0]) (by simp [results, Try.results49, go_sem]) rfl ⟨rfl, ((Below.refl _ _).alloc (Nat.le_refl _) _).alloc (by simp) _⟩
    · have hw : Grain.wrongB B st = Grain.wrongBF B st n 0 := by simp [Grain.wrongB, hst1, ← hn, h5]
      rw [hw]; clear hw
      have HN := hide hn
      clear hn
      have hd : decide ((500 : Int) < (n : Int)) = false := by simp; omega
      go_enter Try.func49, Try.ntmps49
      go_wp2
      rw [← HW.out]
      go_loopw [21] (fun i wr => ∃ k : Nat, k ≤ n ∧ i = .int .i64 k ∧ Hid (Grain.wrongBF B st n 0 = Grain.wrongBF B st (n - k) k) ∧ wr.heap[w.heap.size]? = some (.cells #[.int .i64 0, .int .i64 0] 78 (0, 0)) ∧ Below w.heap.size w wr) (fun i _ => n - (intOf i).toNat)
      case atStart => exact ⟨0, Nat.zero_le _, rfl, rfl, hres0, bel0⟩
      case round =>
        clear hmm i1 i2 i3 HW r0 r1 r2 r3 hres0 bel0
        obtain ⟨k, hk, rfl, HW, hres, hbel⟩ := hrel
        by_cases hlt : k < n
        · have hkl : k < B.length := by rw [← HN.out]; exact hlt
          obtain ⟨b, off, rfl, hb, hcell⟩ := seg_bucket hs hkl
          obtain ⟨K, hK⟩ : ∃ K, K = Grain.bk B k := ⟨_, rfl⟩
          have q := (hcell k hkl).below hbel hb
          rw [← hK] at q
          obtain ⟨c0, c1, c2, c3, c4, c5, c6, c7⟩ := q
          have hB : w.heap.size < wr.heap.size := lt_of_block hres
          have HK := hide hK
          obtain ⟨r0, r1, r2, r3⟩ := two_cells hres
          have hbel1 : Below w.heap.size w (wr.alloc (ko K)) := hbel.alloc (by omega) _
          have hres1 : (wr.alloc (ko K)).heap[w.heap.size]? = some (.cells #[.int .i64 0, .int .i64 0] 78 (0, 0)) := by
            rw [Below.heap_alloc _ _ _ hB]; exact hres
          have x0 := eight_cells (heap_alloc_new wr (ko K))
          have fin : Hid (Grain.inRB K st = false → Grain.wrongBF B st n 0 = (3, (k : Int))) := by
            intro hin
            have hbad : Grain.badB B st k = 3 := by unfold Grain.badB; rw [← HK.out, hin]; simp
            rw [HW.out, show n - k = (n - k - 1) + 1 from by omega, Grain.wrongBF_no (by rw [hbad]; decide), hbad]
          clear hK
          by_cases g1 : K.a < 0
          · have hin : Hid (Grain.inRB K st = false) := by unfold Hid; simp only [Grain.inRB, decide_eq_false_iff_not]; omega
            have d1 : decide (K.a < 0) = true := by simpa using g1
            clear HW hcell
            go_wp2
            go_quiet (fail)
            go_wp2
            exact bodyPost_ret (v := .agg #[.int .i64 3, .int .i64 k]) (by simp [results, Try.results49, go_sem, r0, r1, hB]) rfl ⟨by rw [fin.out hin.out], ((below_drewN hbel1 _).setCell (Nat.le_refl _) _).setCell (Nat.le_refl _) _⟩
          · have d1 : decide (K.a < 0) = false := by simpa using g1
            by_cases g2 : 1000000 < K.a
            · have hin : Hid (Grain.inRB K st = false) := by unfold Hid; simp only [Grain.inRB, decide_eq_false_iff_not]; omega
              have d2 : decide (1000000 < K.a) = true := by simpa using g2
              clear HW hcell
              go_wp2
              go_quiet (fail)
              go_wp2
              exact bodyPost_ret (v := .agg #[.int .i64 3, .int .i64 k]) (by simp [results, Try.results49, go_sem, r0, r1, hB]) rfl ⟨by rw [fin.out hin.out], ((below_drewN hbel1 _).setCell (Nat.le_refl _) _).setCell (Nat.le_refl _) _⟩
            · have d2 : decide (1000000 < K.a) = false := by simpa using g2
              have hstq := HC.out
              rcases hstq with hstq | hstq
              · subst hstq
                by_cases g3 : K.a / 10 * 10 = K.a
                · have d3 : (K.a / 10 * 10 != K.a) = false := by simpa using g3
                  by_cases g4 : K.s.c < 1
                  · have hin : Hid (Grain.inRB K 10 = false) := by unfold Hid; simp only [Grain.inRB, decide_eq_false_iff_not]; omega
                    have d4 : decide (K.s.c < 1) = true := by simpa using g4
                    clear HW hcell
                    go_wp2
                    go_quiet (fail)
                    go_wp2
                    exact bodyPost_ret (v := .agg #[.int .i64 3, .int .i64 k]) (by simp [results, Try.results49, go_sem, r0, r1, hB]) rfl ⟨by rw [fin.out hin.out], ((below_drewN hbel1 _).setCell (Nat.le_refl _) _).setCell (Nat.le_refl _) _⟩
                  · have d4 : decide (K.s.c < 1) = false := by simpa using g4
                    by_cases g5 : 10 < K.s.c
                    · have hin : Hid (Grain.inRB K 10 = false) := by unfold Hid; simp only [Grain.inRB, decide_eq_false_iff_not]; omega
                      have d5 : decide (10 < K.s.c) = true := by simpa using g5
                      clear HW hcell
                      go_wp2
                      go_quiet (fail)
                      go_wp2
                      exact bodyPost_ret (v := .agg #[.int .i64 3, .int .i64 k]) (by simp [results, Try.results49, go_sem, r0, r1, hB]) rfl ⟨by rw [fin.out hin.out], ((below_drewN hbel1 _).setCell (Nat.le_refl _) _).setCell (Nat.le_refl _) _⟩
                    · have d5 : decide (10 < K.s.c) = false := by simpa using g5
                      have hin : Grain.inRB K 10 = true := by simp only [Grain.inRB, decide_eq_true_eq]; omega
                      rcases Nat.eq_zero_or_pos k with hk0 | hk0
                      · subst hk0
                        have hg : decide ((0 : Int) < ((0 : Nat) : Int)) = false := by decide
                        have hg' : decide ((0 : Int) < 0) = false := by decide
                        have hw : Hid (Grain.wrongBF B 10 n 0 = Grain.wrongBF B 10 (n - (0 + 1)) (0 + 1)) := by
                          show Grain.wrongBF B 10 n 0 = Grain.wrongBF B 10 (n - (0 + 1)) (0 + 1)
                          have hbad : Grain.badB B 10 0 = 0 := by unfold Grain.badB; rw [← HK.out, hin]; simp
                          rw [HW.out, show n - 0 = (n - (0 + 1)) + 1 from by omega, Grain.wrongBF_ok hbad]
                        simp only [Nat.zero_mul, Nat.add_zero] at c0 c1 c2 c3 c4 c5 c6 c7
                        clear HW hin fin hcell
                        go_wp2
                        go_quiet (fail)
                        go_wp2
                        go_quiet (fail)
                        go_wp2
                        go_roundw
                        case rel => exact ⟨0 + 1, by omega, by go_num, hw, hres1, below_drewN hbel1 _⟩
                        case measure => simp [intOf]; omega
                      · obtain ⟨m, rfl⟩ : ∃ m, k = m + 1 := ⟨k - 1, by omega⟩
                        have hg : decide ((0 : Int) < ((m + 1 : Nat) : Int)) = true := by simp
                        have hg' : decide ((0 : Int) < (m : Int) + 1) = true := by simp
                        obtain ⟨M, hM⟩ : ∃ M, M = (Grain.bk B m).a := ⟨_, rfl⟩
                        have hw2 : Hid (K.a ≤ M → Grain.wrongBF B 10 n 0 = (2, ((m : Int) + 1))) := by
                          intro hle
                          have hbad : Grain.badB B 10 (m + 1) = 2 := by
                            unfold Grain.badB
                            rw [← HK.out, hin, if_neg (by simp), if_pos ⟨by omega, by simpa [← hM] using hle⟩]
                          rw [HW.out, show n - (m + 1) = (n - (m + 1) - 1) + 1 from by omega, Grain.wrongBF_no (by rw [hbad]; decide), hbad]
                          simp
                        have hw : Hid (M < K.a → Grain.wrongBF B 10 n 0 = Grain.wrongBF B 10 (n - (m + 1 + 1)) (m + 1 + 1)) := by
                          intro hle
                          have hbad : Grain.badB B 10 (m + 1) = 0 := by
                            unfold Grain.badB
                            rw [← HK.out, hin, if_neg (by simp), if_neg (by simp [← hM]; omega)]
                          rw [HW.out, show n - (m + 1) = (n - (m + 1 + 1)) + 1 from by omega, Grain.wrongBF_ok hbad]
                        have p0 : wr.cell? ⟨b, off + m * 8, none⟩ = some (.int .i64 M) := by
                          rw [hM]; exact ((hcell m (by omega)).below hbel hb).1
                        have hbr : b < wr.heap.size := by omega
                        clear HW hin hM hcell fin
                        go_wp2
                        go_quiet (fail)
                        go_wp2
                        go_quiet (fail)
                        go_wp2
                        · exact bodyPost_ret (v := .agg #[.int .i64 2, .int .i64 ((m : Int) + 1)]) (by simp [results, Try.results49, go_sem, r0, r1, hB]) rfl ⟨by rw [hw2.out (by assumption)], ((below_drewN hbel1 _).setCell (Nat.le_refl _) _).setCell (Nat.le_refl _) _⟩
                        · go_roundw
                          case rel => exact ⟨m + 1 + 1, by omega, by go_num, hw.out (by assumption), hres1, below_drewN hbel1 _⟩
                          case measure => simp [intOf]; omega
                · have hin : Hid (Grain.inRB K 10 = false) := by unfold Hid; simp only [Grain.inRB, decide_eq_false_iff_not]; omega
                  have d3 : (K.a / 10 * 10 != K.a) = true := by simpa using g3
                  clear HW hcell
                  go_wp2
                  go_quiet (fail)
                  go_wp2
                  exact bodyPost_ret (v := .agg #[.int .i64 3, .int .i64 k]) (by simp [results, Try.results49, go_sem, r0, r1, hB]) rfl ⟨by rw [fin.out hin.out], ((below_drewN hbel1 _).setCell (Nat.le_refl _) _).setCell (Nat.le_refl _) _⟩
              · subst hstq
                by_cases g3 : K.a / 60 * 60 = K.a
                · have d3 : (K.a / 60 * 60 != K.a) = false := by simpa using g3
                  by_cases g4 : K.s.c < 1
                  · have hin : Hid (Grain.inRB K 60 = false) := by unfold Hid; simp only [Grain.inRB, decide_eq_false_iff_not]; omega
                    have d4 : decide (K.s.c < 1) = true := by simpa using g4
                    clear HW hcell
                    go_wp2
                    go_quiet (fail)
                    go_wp2
                    exact bodyPost_ret (v := .agg #[.int .i64 3, .int .i64 k]) (by simp [results, Try.results49, go_sem, r0, r1, hB]) rfl ⟨by rw [fin.out hin.out], ((below_drewN hbel1 _).setCell (Nat.le_refl _) _).setCell (Nat.le_refl _) _⟩
                  · have d4 : decide (K.s.c < 1) = false := by simpa using g4
                    by_cases g5 : 60 < K.s.c
                    · have hin : Hid (Grain.inRB K 60 = false) := by unfold Hid; simp only [Grain.inRB, decide_eq_false_iff_not]; omega
                      have d5 : decide (60 < K.s.c) = true := by simpa using g5
                      clear HW hcell
                      go_wp2
                      go_quiet (fail)
                      go_wp2
                      exact bodyPost_ret (v := .agg #[.int .i64 3, .int .i64 k]) (by simp [results, Try.results49, go_sem, r0, r1, hB]) rfl ⟨by rw [fin.out hin.out], ((below_drewN hbel1 _).setCell (Nat.le_refl _) _).setCell (Nat.le_refl _) _⟩
                    · have d5 : decide (60 < K.s.c) = false := by simpa using g5
                      have hin : Grain.inRB K 60 = true := by simp only [Grain.inRB, decide_eq_true_eq]; omega
                      rcases Nat.eq_zero_or_pos k with hk0 | hk0
                      · subst hk0
                        have hg : decide ((0 : Int) < ((0 : Nat) : Int)) = false := by decide
                        have hg' : decide ((0 : Int) < 0) = false := by decide
                        have hw : Hid (Grain.wrongBF B 60 n 0 = Grain.wrongBF B 60 (n - (0 + 1)) (0 + 1)) := by
                          show Grain.wrongBF B 60 n 0 = Grain.wrongBF B 60 (n - (0 + 1)) (0 + 1)
                          have hbad : Grain.badB B 60 0 = 0 := by unfold Grain.badB; rw [← HK.out, hin]; simp
                          rw [HW.out, show n - 0 = (n - (0 + 1)) + 1 from by omega, Grain.wrongBF_ok hbad]
                        simp only [Nat.zero_mul, Nat.add_zero] at c0 c1 c2 c3 c4 c5 c6 c7
                        clear HW hin fin hcell
                        go_wp2
                        go_quiet (fail)
                        go_wp2
                        go_quiet (fail)
                        go_wp2
                        go_roundw
                        case rel => exact ⟨0 + 1, by omega, by go_num, hw, hres1, below_drewN hbel1 _⟩
                        case measure => simp [intOf]; omega
                      · obtain ⟨m, rfl⟩ : ∃ m, k = m + 1 := ⟨k - 1, by omega⟩
                        have hg : decide ((0 : Int) < ((m + 1 : Nat) : Int)) = true := by simp
                        have hg' : decide ((0 : Int) < (m : Int) + 1) = true := by simp
                        obtain ⟨M, hM⟩ : ∃ M, M = (Grain.bk B m).a := ⟨_, rfl⟩
                        have hw2 : Hid (K.a ≤ M → Grain.wrongBF B 60 n 0 = (2, ((m : Int) + 1))) := by
                          intro hle
                          have hbad : Grain.badB B 60 (m + 1) = 2 := by
                            unfold Grain.badB
                            rw [← HK.out, hin, if_neg (by simp), if_pos ⟨by omega, by simpa [← hM] using hle⟩]
                          rw [HW.out, show n - (m + 1) = (n - (m + 1) - 1) + 1 from by omega, Grain.wrongBF_no (by rw [hbad]; decide), hbad]
                          simp
                        have hw : Hid (M < K.a → Grain.wrongBF B 60 n 0 = Grain.wrongBF B 60 (n - (m + 1 + 1)) (m + 1 + 1)) := by
                          intro hle
                          have hbad : Grain.badB B 60 (m + 1) = 0 := by
                            unfold Grain.badB
                            rw [← HK.out, hin, if_neg (by simp), if_neg (by simp [← hM]; omega)]
                          rw [HW.out, show n - (m + 1) = (n - (m + 1 + 1)) + 1 from by omega, Grain.wrongBF_ok hbad]
                        have p0 : wr.cell? ⟨b, off + m * 8, none⟩ = some (.int .i64 M) := by
                          rw [hM]; exact ((hcell m (by omega)).below hbel hb).1
                        have hbr : b < wr.heap.size := by omega
                        clear HW hin hM hcell fin
                        go_wp2
                        go_quiet (fail)
                        go_wp2
                        go_quiet (fail)
                        go_wp2
                        · exact bodyPost_ret (v := .agg #[.int .i64 2, .int .i64 ((m : Int) + 1)]) (by simp [results, Try.results49, go_sem, r0, r1, hB]) rfl ⟨by rw [hw2.out (by assumption)], ((below_drewN hbel1 _).setCell (Nat.le_refl _) _).setCell (Nat.le_refl _) _⟩
                        · go_roundw
                          case rel => exact ⟨m + 1 + 1, by omega, by go_num, hw.out (by assumption), hres1, below_drewN hbel1 _⟩
                          case measure => simp [intOf]; omega
                · have hin : Hid (Grain.inRB K 60 = false) := by unfold Hid; simp only [Grain.inRB, decide_eq_false_iff_not]; omega
                  have d3 : (K.a / 60 * 60 != K.a) = true := by simpa using g3
                  clear HW hcell
                  go_wp2
                  go_quiet (fail)
                  go_wp2
                  exact bodyPost_ret (v := .agg #[.int .i64 3, .int .i64 k]) (by simp [results, Try.results49, go_sem, r0, r1, hB]) rfl ⟨by rw [fin.out hin.out], ((below_drewN hbel1 _).setCell (Nat.le_refl _) _).setCell (Nat.le_refl _) _⟩
        · obtain ⟨r0, r1, r2, r3⟩ := two_cells hres
          have he : k = n := by omega
          subst he
          have hw : Hid (Grain.wrongBF B st k 0 = (0, 0)) := by
            show Grain.wrongBF B st k 0 = (0, 0)
            rw [HW.out]; simp [Grain.wrongBF]
          clear HW
          go_wp2
          exact bodyPost_ret (v := .agg #[.int .i64 0, .int .i64 0]) (by simp [results, Try.results49, go_sem, r0, r1]) rfl ⟨by rw [hw.out], (hbel.setCell (Nat.le_refl _) _).setCell (Nat.le_refl _) _⟩

end Go.Proofs.Ytfgablhgjbjbkae

/-
  The walk of the document's Wrong of a shelf.
-/
namespace Go.GrainU

theorem all_take1 {α : Type} (p : α → Bool) {l : List α} {k : Nat} (h : k < l.length) : (l.take (k + 1)).all p = ((l.take k).all p && p l[k]) := by
  rw [List.take_add_one, List.getElem?_eq_getElem h, List.all_append]
  simp

end Go.GrainU
namespace Go.Proofs.Ytfgablhgjbjbkae
open Go.RowKit Go.GrainU

set_option maxRecDepth 100000 in
set_option maxHeartbeats 8000000 in
theorem rshwrong_any (x : ShT) (w : World) (hx : ShIn w x) :
    Calls Try.prog 13 #[x.v] w fun e w' => e = .returned (.int .i64 (Grain.swrong x.s)) ∧ Below w.heap.size w w' := by
  obtain ⟨V, hV⟩ : ∃ V, V = w.alloc (so x) := ⟨_, rfl⟩
  have bel : Below w.heap.size w V := by rw [hV]; exact (Below.refl _ _).alloc (Nat.le_refl _) _
  have hB : V.heap[w.heap.size]? = some (so x) := by rw [hV]; exact heap_alloc_new w _
  have hxV := hx.below bel
  obtain ⟨X, hX⟩ : ∃ X, X = w.heap.size := ⟨_, rfl⟩
  rw [← hX] at hB
  have HX := hide hX
  clear hX
  have HW : Hid (Grain.swrong x.s = if wrongS x.s.se ≠ 0 then wrongS x.s.se else if (Grain.wrong x.s.ra).1 ≠ 0 then (Grain.wrong x.s.ra).1 else if (Grain.wrongB x.s.fi 10).1 ≠ 0 then (Grain.wrongB x.s.fi 10).1 else if (Grain.wrongB x.s.co 60).1 ≠ 0 then (Grain.wrongB x.s.co 60).1 else if (Grain.bfit x.s && Grain.efit x.s) = true then 0 else 8) := rfl
  obtain ⟨y, hy⟩ : ∃ y, y = x := ⟨_, rfl⟩
  obtain ⟨⟨se, ra, fi, co, rf, ff, ft, cf, ct⟩, a0, c0, a1, c1, a2, c2, a3, c3⟩ := x
  obtain ⟨m0, e0⟩ : ∃ m, m = se.length := ⟨_, rfl⟩
  obtain ⟨m1, e1⟩ : ∃ m, m = ra.length := ⟨_, rfl⟩
  obtain ⟨m2, e2⟩ : ∃ m, m = fi.length := ⟨_, rfl⟩
  obtain ⟨m3, e3⟩ : ∃ m, m = co.length := ⟨_, rfl⟩
  have HV : Hid (V = w.alloc (.cells #[.slice a0 m0 c0, .slice a1 m1 c1, .slice a2 m2 c2, .slice a3 m3 c3, .int .i64 rf, .int .i64 ff, .int .i64 ft, .int .i64 cf, .int .i64 ct] 44)) := by rw [e0, e1, e2, e3]; exact hV
  have HY : Hid (∀ W : World, W.heap[X]? = some (so y) → W.cell? ⟨X, 0, none⟩ = some (.slice a0 m0 c0) ∧ W.cell? ⟨X, 1, none⟩ = some (.slice a1 m1 c1) ∧ W.cell? ⟨X, 2, none⟩ = some (.slice a2 m2 c2) ∧ W.cell? ⟨X, 3, none⟩ = some (.slice a3 m3 c3) ∧
      W.cell? ⟨X, 4, none⟩ = some (.int .i64 rf) ∧ W.cell? ⟨X, 5, none⟩ = some (.int .i64 ff) ∧ W.cell? ⟨X, 6, none⟩ = some (.int .i64 ft) ∧ W.cell? ⟨X, 7, none⟩ = some (.int .i64 cf) ∧ W.cell? ⟨X, 8, none⟩ = some (.int .i64 ct)) := by
    intro W h
    rw [e0, e1, e2, e3]
    rw [hy] at h
    exact nine_cells h
  have Hv : Hid (y.v = .agg #[.slice a0 m0 c0, .slice a1 m1 c1, .slice a2 m2 c2, .slice a3 m3 c3, .int .i64 rf, .int .i64 ff, .int .i64 ft, .int .i64 cf, .int .i64 ct]) := by
    show _ = _
    rw [hy, e0, e1, e2, e3]; rfl
  rw [← hy] at hB hxV HW
  have HYs : Hid (y.s.se = se ∧ y.s.ra = ra ∧ y.s.fi = fi ∧ y.s.co = co ∧ y.a0 = a0 ∧ y.a1 = a1 ∧ y.a2 = a2 ∧ y.a3 = a3) := by rw [hy]; exact ⟨rfl, rfl, rfl, rfl, rfl, rfl, rfl, rfl⟩
  have HYb : Hid (y.s = ⟨se, ra, fi, co, rf, ff, ft, cf, ct⟩) := by show _ = _; rw [hy]
  rw [HYs.out.1, HYs.out.2.1, HYs.out.2.2.1, HYs.out.2.2.2.1] at HW
  have hg0 : Seg V a0 (lcells se) := by have := hxV.g0; rwa [HYs.out.1, HYs.out.2.2.2.2.1] at this
  have hg1 : Seg V a1 (scells ra) := by have := hxV.g1; rwa [HYs.out.2.1, HYs.out.2.2.2.2.2.1] at this
  have hg2 : Seg V a2 (kcells fi) := by have := hxV.g2; rwa [HYs.out.2.2.1, HYs.out.2.2.2.2.2.2.1] at this
  have hg3 : Seg V a3 (kcells co) := by have := hxV.g3; rwa [HYs.out.2.2.2.1, HYs.out.2.2.2.2.2.2.2] at this
  have hfits : Fits se := by have := hxV.fits; rwa [HYs.out.1] at this
  rw [← hy, Hv.out]
  have H0 := hide e0
  have H1 := hide e1
  have H2 := hide e2
  have H3 := hide e3
  clear e0 e1 e2 e3 hV hy hx
  go_enter Try.func13, Try.ntmps13
  go_wp2_with fail
  rw [← HV.out]
  refine (rwrongs_any se a0 m0 c0 V hg0 H0.out hfits).mono ?_
  rintro e w1 ⟨rfl, hb1⟩
  have bel1 : Below w.heap.size w w1 := bel.trans (hb1.mono bel.size)
  have B1 := below_block hb1 hB
  obtain ⟨r0, r1, r2, r3, r4, r5, r6, r7, r8⟩ := HY.out w1 B1
  have hg1a := hg1.below hb1
  have hg2a := hg2.below hb1
  have hg3a := hg3.below hb1
  have hx1 := hxV.below hb1
  rw [← HX.out]
  clear HV hg0 hg1 hg2 hg3 hxV hb1 hB bel
  by_cases z1 : wrongS se = 0
  · rw [z1] at HW ⊢
    clear z1
    go_wp2_with fail
    refine (rwrong_any ra a1 m1 c1 w1 hg1a H1.out).mono ?_
    rintro e w2 ⟨rfl, hb2⟩
    have bel2 : Below w.heap.size w w2 := bel1.trans (hb2.mono bel1.size)
    have B2 := below_block hb2 B1
    have hg2b := hg2a.below hb2
    have hg3b := hg3a.below hb2
    have hx2 := hx1.below hb2
    obtain ⟨F2, f2⟩ : ∃ z, z = (Grain.wrong ra).2 := ⟨_, rfl⟩
    obtain ⟨F1, f1⟩ : ∃ z, z = (Grain.wrong ra).1 := ⟨_, rfl⟩
    rw [← f1] at HW
    rw [← f1, ← f2]
    obtain ⟨W2, hW2⟩ : ∃ W, W = w2.alloc (.cells #[.int .i64 F1, .int .i64 F2] 78) := ⟨_, rfl⟩
    have hbW : Below w2.heap.size w2 W2 := by rw [hW2]; exact (Below.refl _ _).alloc (Nat.le_refl _) _
    have bel3 : Below w.heap.size w W2 := bel2.trans (hbW.mono bel2.size)
    have B3 := below_block hbW B2
    have hg2c := hg2b.below hbW
    have hg3c := hg3b.below hbW
    have hx3 := hx2.below hbW
    obtain ⟨q0, q1, q2, q3, q4, q5, q6, q7, q8⟩ := HY.out W2 B3
    have p0 : W2.cell? ⟨w2.heap.size, 0, none⟩ = some (.int .i64 F1) := by rw [hW2]; simp
    have HW2 := hide hW2
    clear f1 f2 hb2 r0 r1 r2 r3 r4 r5 r6 r7 r8 hg1a hg2a hg3a hg2b hg3b hW2 hbW B1 B2 hx1 hx2 bel1
    go_upto_region 5 with fail
    rw [← HW2.out]
    by_cases z2 : F1 = 0
    · rw [z2] at HW p0
      clear z2
      go_wp2_with fail
      refine (rwb_any fi a2 m2 c2 1 W2 hg2c H2.out).mono ?_
      rintro e w3 ⟨rfl, hb3⟩
      have es : stepOf 1 = 10 := rfl
      rw [es]
      clear es
      have bel4 : Below w.heap.size w w3 := bel3.trans (hb3.mono bel3.size)
      have B4 := below_block hb3 B3
      have hg3d := hg3c.below hb3
      have hx4 := hx3.below hb3
      obtain ⟨G2, k2⟩ : ∃ z, z = (Grain.wrongB fi 10).2 := ⟨_, rfl⟩
      obtain ⟨G1, k1⟩ : ∃ z, z = (Grain.wrongB fi 10).1 := ⟨_, rfl⟩
      rw [← k1] at HW
      rw [← k1, ← k2]
      obtain ⟨W3, hW3⟩ : ∃ W, W = w3.alloc (.cells #[.int .i64 G1, .int .i64 G2] 78) := ⟨_, rfl⟩
      have hbW3 : Below w3.heap.size w3 W3 := by rw [hW3]; exact (Below.refl _ _).alloc (Nat.le_refl _) _
      have bel5 : Below w.heap.size w W3 := bel4.trans (hbW3.mono bel4.size)
      have B5 := below_block hbW3 B4
      have hg3e := hg3d.below hbW3
      have hx5 := hx4.below hbW3
      obtain ⟨s0, s1, s2, s3, s4, s5, s6, s7, s8⟩ := HY.out W3 B5
      have p3 : W3.cell? ⟨w3.heap.size, 0, none⟩ = some (.int .i64 G1) := by rw [hW3]; simp
      have HW3 := hide hW3
      clear k1 k2 hb3 q0 q1 q2 q3 q4 q5 q6 q7 q8 hg2c hg3c hg3d hW3 hbW3 B3 B4 hx3 hx4 bel3 bel4 p0 HW2
      go_upto_region 8 with fail
      rw [← HW3.out]
      by_cases z3 : G1 = 0
      · rw [z3] at HW p3
        clear z3
        go_wp2_with fail
        refine (rwb_any co a3 m3 c3 2 W3 hg3e H3.out).mono ?_
        rintro e w4 ⟨rfl, hb4⟩
        have es : stepOf 2 = 60 := rfl
        rw [es]
        clear es
        have bel6 : Below w.heap.size w w4 := bel5.trans (hb4.mono bel5.size)
        have B6 := below_block hb4 B5
        have hx6 := hx5.below hb4
        obtain ⟨K2, k2⟩ : ∃ z, z = (Grain.wrongB co 60).2 := ⟨_, rfl⟩
        obtain ⟨K1, k1⟩ : ∃ z, z = (Grain.wrongB co 60).1 := ⟨_, rfl⟩
        rw [← k1] at HW
        rw [← k1, ← k2]
        obtain ⟨W4, hW4⟩ : ∃ W, W = w4.alloc (.cells #[.int .i64 K1, .int .i64 K2] 78) := ⟨_, rfl⟩
        have hbW4 : Below w4.heap.size w4 W4 := by rw [hW4]; exact (Below.refl _ _).alloc (Nat.le_refl _) _
        have bel7 : Below w.heap.size w W4 := bel6.trans (hbW4.mono bel6.size)
        have B7 := below_block hbW4 B6
        have hx7 := hx6.below hbW4
        obtain ⟨t0, t1, t2, t3, t4, t5, t6, t7, t8⟩ := HY.out W4 B7
        have p4 : W4.cell? ⟨w4.heap.size, 0, none⟩ = some (.int .i64 K1) := by rw [hW4]; simp
        have HW4 := hide hW4
        clear k1 k2 hb4 s0 s1 s2 s3 s4 s5 s6 s7 s8 hg3e hW4 hbW4 B5 B6 hx5 hx6 bel5 bel6 p3 HW3
        go_upto_region 11 with fail
        rw [← HW4.out]
        by_cases z4 : K1 = 0
        · rw [z4] at HW p4
          clear z4
          have HW' : Hid (Grain.swrong y.s = if (Grain.bfit y.s && Grain.efit y.s) = true then 0 else 8) := by
            show _ = _
            rw [HW.out]; simp
          clear HW
          obtain ⟨A1, hA1⟩ : ∃ A, A = Grain.span ff ft 10 := ⟨_, rfl⟩
          obtain ⟨A2, hA2⟩ : ∃ A, A = Grain.span cf ct 60 := ⟨_, rfl⟩
          obtain ⟨A3, hA3⟩ : ∃ A, A = decide (0 ≤ rf ∧ rf ≤ ft ∧ ff ≤ ct ∧ ct ≤ ft) := ⟨_, rfl⟩
          have HA1 := hide hA1
          have HA2 := hide hA2
          have HA3 := hide hA3
          have HF : Hid ((Grain.bfit y.s && Grain.efit y.s) = ((A1 && (A2 && A3)) && ((ra.all fun x => decide (rf ≤ x.1)) && (Grain.within fi ff ft && Grain.within co cf ct)))) := by
            show _ = _
            rw [hA1, hA2, hA3, HYb.out]
            rfl
          rw [HF.out] at HW'
          clear hA1 hA2 hA3 HF
          go_upto_region 13 with fail
          go_cut [7] from 44 to 70 (fun v wx => v = .bool A1 ∧ wx = W4)
          case first =>
            go_wp2_with fail
            all_goals
              go_meet
              refine ⟨?_, rfl⟩
              first | (rw [HA1.out]; done) | (rw [HA1.out]; refine congrArg Value.bool ?_; (rw [Bool.eq_iff_iff]) <;> simp [Grain.span] <;> try omega)
          case rest =>
          obtain ⟨rfl, hwc⟩ := hcut
          rw [hwc]
          clear hwc
          go_upto_region 14 with fail
          go_cut [7] from 71 to 100 (fun v wx => v = .bool (A1 && A2) ∧ wx = W4)
          case first =>
            rcases Bool.eq_false_or_eq_true A1 with h1 | h1 <;> rw [h1]
            all_goals
              go_wp2_with fail
              all_goals
                go_meet
                refine ⟨?_, rfl⟩
                rw [h1]
                first | rfl | (rw [HA2.out]; done) | (rw [HA2.out]; refine congrArg Value.bool ?_; (rw [Bool.eq_iff_iff]) <;> simp [Grain.span] <;> try omega)
          case rest =>
          obtain ⟨rfl, hwc⟩ := hcut
          rw [hwc]
          clear hwc
          obtain ⟨A, hA⟩ : ∃ A, A = (A1 && A2) := ⟨_, rfl⟩
          obtain ⟨G, hG⟩ : ∃ G, G = (A && A3) := ⟨_, rfl⟩
          rw [← hA]
          have HG := hide hG
          have HWG : Hid (Grain.swrong y.s = if (G && ((ra.all fun x => decide (rf ≤ x.1)) && (Grain.within fi ff ft && Grain.within co cf ct))) = true then 0 else 8) := by
            show _ = _
            rw [HW'.out, hG, hA, ← Bool.and_assoc A1 A2 A3]
          clear hA hG HW' HA1 HA2
          go_upto_region 15 with fail
          go_cut [7] from 101 to 127 (fun v wx => v = .bool G ∧ wx = W4)
          case first =>
            rcases Bool.eq_false_or_eq_true A with h1 | h1 <;> rw [h1] at HG ⊢
            all_goals
              go_wp2_with fail
              all_goals
                go_meet
                refine ⟨?_, rfl⟩
                rw [HG.out]
                first | rfl | (rw [HA3.out]; done) | (rw [HA3.out]; refine congrArg Value.bool ?_; (rw [Bool.eq_iff_iff]) <;> simp <;> try omega)
          case rest =>
          obtain ⟨rfl, hwc⟩ := hcut
          rw [hwc]
          clear hwc HG HA3 t0 t1 t2 t3 t4 t5 t6 t7 t8
          have hg1 : Seg W4 a1 (scells ra) := by have := hx7.g1; rwa [HYs.out.2.1, HYs.out.2.2.2.2.2.1] at this
          have hg2 : Seg W4 a2 (kcells fi) := by have := hx7.g2; rwa [HYs.out.2.2.1, HYs.out.2.2.2.2.2.2.1] at this
          have hg3 : Seg W4 a3 (kcells co) := by have := hx7.g3; rwa [HYs.out.2.2.2.1, HYs.out.2.2.2.2.2.2.2] at this
          have HWG2 : Hid (Grain.swrong y.s = if (((G && ra.all fun x => decide (rf ≤ x.1)) && Grain.within fi ff ft) && Grain.within co cf ct) = true then 0 else 8) := by
            show _ = _
            rw [HWG.out, Bool.and_assoc, Bool.and_assoc]
          obtain ⟨t0, t1, t2, t3, t4, t5, t6, t7, t8⟩ := HY.out W4 B7
          have hm1 : m1 ≤ 9223372036854775806 := by have h1 := H1.out; have h2 := hx7.n1; rw [HYs.out.2.1] at h2; omega
          have hm2 : m2 ≤ 9223372036854775806 := by have h1 := H2.out; have h2 := hx7.n2; rw [HYs.out.2.2.1] at h2; omega
          have hm3 : m3 ≤ 9223372036854775806 := by have h1 := H3.out; have h2 := hx7.n3; rw [HYs.out.2.2.2.1] at h2; omega
          clear hx7 HWG p4 HW4
          go_wp2_with fail
          go_loopw [7, 131] (fun v i wr => ∃ k : Nat, k ≤ m1 ∧ i = .int .i64 k ∧ v = .bool (G && (ra.take k).all fun x => decide (rf ≤ x.1)) ∧ Below W4.heap.size W4 wr) (fun _ i _ => m1 - (intOf i).toNat)
          case atStart => exact ⟨0, Nat.zero_le _, rfl, by simp, Below.refl _ _⟩
          case round =>
          clear t0 t1 t2 t3 t4 t5 t6 t7 t8
          obtain ⟨k, hk, rfl, rfl, bel8⟩ := hrel
          by_cases hlt : k < m1
          · have hkl : k < ra.length := by rw [← H1.out]; exact hlt
            obtain ⟨b, off, rfl, hcell⟩ := hg1.sample hkl
            have hbl : b < W4.heap.size := World.block_lt_of_cell? W4 ⟨b, off + k * 2, none⟩ (hcell k hkl).1
            obtain ⟨T, hT⟩ : ∃ T, T = Grain.tm ra k := ⟨_, rfl⟩
            obtain ⟨U, hU⟩ : ∃ U, U = Grain.vl ra k := ⟨_, rfl⟩
            have e0 : wr.cell? ⟨b, off + k * 2, none⟩ = some (.int .i64 T) := by rw [hT]; exact (bel8.cell (by exact hbl)).trans (hcell k hkl).1
            have e1 : wr.cell? ⟨b, off + k * 2 + 1, none⟩ = some (.int .i64 U) := by rw [hU]; exact (bel8.cell (by exact hbl)).trans (hcell k hkl).2
            have hAk : ra[k] = (T, U) := by rw [hT, hU, (Grain.tm_get hkl).1, (Grain.tm_get hkl).2]
            obtain ⟨D, hD⟩ : ∃ D, D = decide (rf ≤ T) := ⟨_, rfl⟩
            obtain ⟨P, hP⟩ : ∃ P, P = (G && (ra.take k).all fun x => decide (rf ≤ x.1)) := ⟨_, rfl⟩
            have HT : Hid ((G && (ra.take (k + 1)).all fun x => decide (rf ≤ x.1)) = (P && D)) := by
              show _ = _
              rw [all_take1 _ hkl, hAk, hP, hD, Bool.and_assoc]
            rw [← hP]
            have HD := hide hD
            obtain ⟨Y, hY⟩ : ∃ Y, Y = wr.heap.size := ⟨_, rfl⟩
            obtain ⟨W5, hW5⟩ : ∃ W, W = wr.alloc (.cells #[.int .i64 T, .int .i64 U] 35) := ⟨_, rfl⟩
            have Z : W5.heap[Y]? = some (.cells #[.int .i64 T, .int .i64 U] 35 (0, 0)) := by rw [hW5, hY]; exact heap_alloc_new wr _
            have bel9 : Below W4.heap.size W4 W5 := by rw [hW5]; exact bel8.alloc bel8.size _
            have HW5 := hide hW5
            have HYz := hide hY
            clear hD hP hAk hT hU hcell hkl hY hW5 bel8
            go_upto_region 19 with fail
            rw [← HW5.out, ← HYz.out]
            clear HW5 HYz e0 e1
            obtain ⟨u0, u1, _, _⟩ := two_cells Z
            obtain ⟨t0, t1, t2, t3, t4, t5, t6, t7, t8⟩ := HY.out W5 (below_block bel9 B7)
            rcases Bool.eq_false_or_eq_true P with h1 | h1 <;> rw [h1] at HT ⊢
            all_goals
              go_wp2
              all_goals
                go_roundw
                case rel => exact ⟨k + 1, by omega, by go_num, by rw [HT.out]; first | rfl | (rw [HD.out]; done) | (rw [HD.out]; refine congrArg Value.bool ?_; (rw [Bool.eq_iff_iff]) <;> simp <;> try omega), bel9⟩
                case measure => simp [intOf]; omega
          · have he : k = m1 := by omega
            have HT : Hid ((ra.take k).all (fun x => decide (rf ≤ x.1)) = ra.all fun x => decide (rf ≤ x.1)) := by
              show _ = _
              rw [List.take_of_length_le (by rw [← H1.out]; omega)]
            rw [HT.out]
            obtain ⟨G2, hG2⟩ : ∃ G2, G2 = (G && ra.all fun x => decide (rf ≤ x.1)) := ⟨_, rfl⟩
            rw [← hG2] at HWG2 ⊢
            clear HT hG2 hg1
            obtain ⟨t0, t1, t2, t3, t4, t5, t6, t7, t8⟩ := HY.out wr (below_block bel8 B7)
            go_wp2_with fail
            go_loopw [7, 147] (fun v i wr => ∃ k : Nat, k ≤ m2 ∧ i = .int .i64 k ∧ v = .bool (G2 && Grain.within (fi.take k) ff ft) ∧ Below W4.heap.size W4 wr) (fun _ i _ => m2 - (intOf i).toNat)
            case atStart => exact ⟨0, Nat.zero_le _, rfl, by simp [Grain.within], bel8⟩
            case round =>
            clear t0 t1 t2 t3 t4 t5 t6 t7 t8 bel8
            obtain ⟨k, hk, rfl, rfl, belA⟩ := hrel
            by_cases hlt : k < m2
            · have hkl : k < fi.length := by rw [← H2.out]; exact hlt
              obtain ⟨b, off, rfl, hbl, hcell⟩ := seg_bucket hg2 hkl
              obtain ⟨K, hK⟩ : ∃ K, K = Grain.bk fi k := ⟨_, rfl⟩
              have q := (hcell k hkl).below belA hbl
              rw [← hK] at q
              obtain ⟨c0, c1, c2, c3, c4, c5, c6, c7⟩ := q
              obtain ⟨D, hD⟩ : ∃ D, D = decide (ff ≤ K.a ∧ K.a < ft) := ⟨_, rfl⟩
              obtain ⟨P, hP⟩ : ∃ P, P = (G2 && Grain.within (fi.take k) ff ft) := ⟨_, rfl⟩
              have HT : Hid ((G2 && Grain.within (fi.take (k + 1)) ff ft) = (P && D)) := by
                show _ = _
                unfold Grain.within at hP ⊢
                rw [all_take1 _ hkl, hP, hD, hK, Grain.bk_get hkl, Bool.and_assoc]
              rw [← hP]
              have HD := hide hD
              obtain ⟨Y, hY⟩ : ∃ Y, Y = wr.heap.size := ⟨_, rfl⟩
              obtain ⟨W5, hW5⟩ : ∃ W, W = wr.alloc (ko K) := ⟨_, rfl⟩
              have Z : W5.heap[Y]? = some (ko K) := by rw [hW5, hY]; exact heap_alloc_new wr _
              have bel9 : Below W4.heap.size W4 W5 := by rw [hW5]; exact belA.alloc belA.size _
              have HW5 : Hid (W5 = wr.alloc (.cells #[.int .i64 K.a, .int .i64 K.s.c, .int .i64 K.s.t, .int .i64 K.s.mn, .int .i64 K.s.mx, .int .i64 K.s.f, .int .i64 K.s.l, .int .i64 K.s.r] 90)) := hW5
              have HYz := hide hY
              clear hD hP hK hcell hkl hY hW5 belA
              go_upto_region 24 with fail
              rw [← HW5.out, ← HYz.out]
              clear HW5 HYz c0 c1 c2 c3 c4 c5 c6 c7
              obtain ⟨p0, p1, p2, p3, p4, p5, p6, p7⟩ := eight_cells Z
              obtain ⟨t0, t1, t2, t3, t4, t5, t6, t7, t8⟩ := HY.out W5 (below_block bel9 B7)
              rcases Bool.eq_false_or_eq_true P with h1 | h1 <;> rw [h1] at HT ⊢
              · by_cases d1 : ff ≤ K.a
                · have e1 : decide (ff ≤ K.a) = true := decide_eq_true d1
                  by_cases d2 : K.a < ft
                  · have e2 : decide (K.a < ft) = true := decide_eq_true d2
                    have HT' : Hid ((G2 && Grain.within (fi.take (k + 1)) ff ft) = true) := by show _ = _; rw [HT.out, HD.out, decide_eq_true ⟨d1, d2⟩]; rfl
                    clear d1 d2
                    clear HT HD
                    go_wp2
                    go_roundw
                    case rel => exact ⟨k + 1, by omega, by go_num, by rw [HT'.out], bel9⟩
                    case measure => simp [intOf]; omega
                  · have e2 : decide (K.a < ft) = false := decide_eq_false d2
                    have HT' : Hid ((G2 && Grain.within (fi.take (k + 1)) ff ft) = false) := by show _ = _; rw [HT.out, HD.out, decide_eq_false (fun h => d2 h.2)]; rfl
                    clear d1 d2
                    clear HT HD
                    go_wp2
                    go_roundw
                    case rel => exact ⟨k + 1, by omega, by go_num, by rw [HT'.out], bel9⟩
                    case measure => simp [intOf]; omega
                · have e1 : decide (ff ≤ K.a) = false := decide_eq_false d1
                  have HT' : Hid ((G2 && Grain.within (fi.take (k + 1)) ff ft) = false) := by show _ = _; rw [HT.out, HD.out, decide_eq_false (fun h => d1 h.1)]; rfl
                  clear d1
                  clear HT HD
                  go_wp2
                  go_roundw
                  case rel => exact ⟨k + 1, by omega, by go_num, by rw [HT'.out], bel9⟩
                  case measure => simp [intOf]; omega
              · have HT' : Hid ((G2 && Grain.within (fi.take (k + 1)) ff ft) = false) := by show _ = _; rw [HT.out]; rfl
                clear HT HD
                go_wp2
                go_roundw
                case rel => exact ⟨k + 1, by omega, by go_num, by rw [HT'.out], bel9⟩
                case measure => simp [intOf]; omega
            · have he : k = m2 := by omega
              have HT : Hid (fi.take k = fi) := by
                show _ = _
                rw [List.take_of_length_le (by rw [← H2.out]; omega)]
              rw [HT.out]
              clear HT
              obtain ⟨G3, hG3⟩ : ∃ G3, G3 = (G2 && Grain.within fi ff ft) := ⟨_, rfl⟩
              rw [← hG3] at HWG2 ⊢
              clear hG3 hg2
              obtain ⟨t0, t1, t2, t3, t4, t5, t6, t7, t8⟩ := HY.out wr (below_block belA B7)
              go_wp2_with fail
              go_loopw [7, 170] (fun v i wr => ∃ k : Nat, k ≤ m3 ∧ i = .int .i64 k ∧ v = .bool (G3 && Grain.within (co.take k) cf ct) ∧ Below W4.heap.size W4 wr) (fun _ i _ => m3 - (intOf i).toNat)
              case atStart => exact ⟨0, Nat.zero_le _, rfl, by simp [Grain.within], belA⟩
              case round =>
              clear t0 t1 t2 t3 t4 t5 t6 t7 t8 belA
              obtain ⟨k, hk, rfl, rfl, belB⟩ := hrel
              by_cases hlt : k < m3
              · have hkl : k < co.length := by rw [← H3.out]; exact hlt
                obtain ⟨b, off, rfl, hbl, hcell⟩ := seg_bucket hg3 hkl
                obtain ⟨K, hK⟩ : ∃ K, K = Grain.bk co k := ⟨_, rfl⟩
                have q := (hcell k hkl).below belB hbl
                rw [← hK] at q
                obtain ⟨c0, c1, c2, c3, c4, c5, c6, c7⟩ := q
                obtain ⟨D, hD⟩ : ∃ D, D = decide (cf ≤ K.a ∧ K.a < ct) := ⟨_, rfl⟩
                obtain ⟨P, hP⟩ : ∃ P, P = (G3 && Grain.within (co.take k) cf ct) := ⟨_, rfl⟩
                have HT : Hid ((G3 && Grain.within (co.take (k + 1)) cf ct) = (P && D)) := by
                  show _ = _
                  unfold Grain.within at hP ⊢
                  rw [all_take1 _ hkl, hP, hD, hK, Grain.bk_get hkl, Bool.and_assoc]
                rw [← hP]
                have HD := hide hD
                obtain ⟨Y, hY⟩ : ∃ Y, Y = wr.heap.size := ⟨_, rfl⟩
                obtain ⟨W5, hW5⟩ : ∃ W, W = wr.alloc (ko K) := ⟨_, rfl⟩
                have Z : W5.heap[Y]? = some (ko K) := by rw [hW5, hY]; exact heap_alloc_new wr _
                have bel9 : Below W4.heap.size W4 W5 := by rw [hW5]; exact belB.alloc belB.size _
                have HW5 : Hid (W5 = wr.alloc (.cells #[.int .i64 K.a, .int .i64 K.s.c, .int .i64 K.s.t, .int .i64 K.s.mn, .int .i64 K.s.mx, .int .i64 K.s.f, .int .i64 K.s.l, .int .i64 K.s.r] 90)) := hW5
                have HYz := hide hY
                clear hD hP hK hcell hkl hY hW5 belB
                go_upto_region 29 with fail
                rw [← HW5.out, ← HYz.out]
                clear HW5 HYz c0 c1 c2 c3 c4 c5 c6 c7
                obtain ⟨p0, p1, p2, p3, p4, p5, p6, p7⟩ := eight_cells Z
                obtain ⟨t0, t1, t2, t3, t4, t5, t6, t7, t8⟩ := HY.out W5 (below_block bel9 B7)
                rcases Bool.eq_false_or_eq_true P with h1 | h1 <;> rw [h1] at HT ⊢
                · by_cases d1 : cf ≤ K.a
                  · have e1 : decide (cf ≤ K.a) = true := decide_eq_true d1
                    by_cases d2 : K.a < ct
                    · have e2 : decide (K.a < ct) = true := decide_eq_true d2
                      have HT' : Hid ((G3 && Grain.within (co.take (k + 1)) cf ct) = true) := by show _ = _; rw [HT.out, HD.out, decide_eq_true ⟨d1, d2⟩]; rfl
                      clear d1 d2
                      clear HT HD
                      go_wp2
                      go_roundw
                      case rel => exact ⟨k + 1, by omega, by go_num, by rw [HT'.out], bel9⟩
                      case measure => simp [intOf]; omega
                    · have e2 : decide (K.a < ct) = false := decide_eq_false d2
                      have HT' : Hid ((G3 && Grain.within (co.take (k + 1)) cf ct) = false) := by show _ = _; rw [HT.out, HD.out, decide_eq_false (fun h => d2 h.2)]; rfl
                      clear d1 d2
                      clear HT HD
                      go_wp2
                      go_roundw
                      case rel => exact ⟨k + 1, by omega, by go_num, by rw [HT'.out], bel9⟩
                      case measure => simp [intOf]; omega
                  · have e1 : decide (cf ≤ K.a) = false := decide_eq_false d1
                    have HT' : Hid ((G3 && Grain.within (co.take (k + 1)) cf ct) = false) := by show _ = _; rw [HT.out, HD.out, decide_eq_false (fun h => d1 h.1)]; rfl
                    clear d1
                    clear HT HD
                    go_wp2
                    go_roundw
                    case rel => exact ⟨k + 1, by omega, by go_num, by rw [HT'.out], bel9⟩
                    case measure => simp [intOf]; omega
                · have HT' : Hid ((G3 && Grain.within (co.take (k + 1)) cf ct) = false) := by show _ = _; rw [HT.out]; rfl
                  clear HT HD
                  go_wp2
                  go_roundw
                  case rel => exact ⟨k + 1, by omega, by go_num, by rw [HT'.out], bel9⟩
                  case measure => simp [intOf]; omega
              · have he : k = m3 := by omega
                have HT : Hid (co.take k = co) := by
                  show _ = _
                  rw [List.take_of_length_le (by rw [← H3.out]; omega)]
                rw [HT.out]
                clear HT
                obtain ⟨G4, hG4⟩ : ∃ G4, G4 = (G3 && Grain.within co cf ct) := ⟨_, rfl⟩
                rw [← hG4] at HWG2 ⊢
                clear hG4 hg3
                have belE : Below w.heap.size w wr := bel7.trans (belB.mono bel7.size)
                cases G4
                · go_wp2
                  go_ret
                  exact ⟨by rw [HWG2.out]; rfl, belE⟩
                · go_wp2
                  go_ret
                  exact ⟨by rw [HWG2.out]; rfl, belE⟩
        · have n4 := ne_beq z4
          go_wp2
          go_ret
          exact ⟨by rw [HW.out, if_neg (by simp), if_neg (by simp), if_neg (by simp), if_pos z4]; rfl, bel7⟩
      · have n3 := ne_beq z3
        go_wp2
        go_ret
        exact ⟨by rw [HW.out, if_neg (by simp), if_neg (by simp), if_pos z3]; rfl, bel5⟩
    · have n2 := ne_beq z2
      go_wp2
      go_ret
      exact ⟨by rw [HW.out, if_neg (by simp), if_pos z2]; rfl, bel3⟩
  · have n1 := ne_beq z1
    have HW' : Hid (Grain.swrong y.s = wrongS se) := by show _ = _; rw [HW.out, if_pos z1]
    generalize wrongS se = E1 at HW' n1 ⊢
    clear HW z1
    go_wp2
    go_ret
    exact ⟨by rw [HW'.out]; rfl, bel1⟩

end Go.Proofs.Ytfgablhgjbjbkae

/-
  The walks of the document's most, least and later.
-/
namespace Go.Proofs.Ytfgablhgjbjbkae
open Go.RowKit Go.GrainU

theorem most_any (a b : Int) (w : World) : Calls Try.prog 65 #[.int .i64 a, .int .i64 b] w fun e w' => e = .returned (.int .i64 (max b a)) ∧ w' = w := by
  by_cases h : b < a
  · have hd : decide (b < a) = true := by simpa using h
    have hm : Hid (max b a = a) := by show _ = _; omega
    go_enter Try.func65, Try.ntmps65
    go_wp2
    go_ret
    exact ⟨by rw [hm.out]; rfl, rfl⟩
  · have hd : decide (b < a) = false := by simpa using h
    have hm : Hid (max b a = b) := by show _ = _; omega
    go_enter Try.func65, Try.ntmps65
    go_wp2
    go_ret
    exact ⟨by rw [hm.out]; rfl, rfl⟩

theorem least_any (a b : Int) (w : World) : Calls Try.prog 66 #[.int .i64 a, .int .i64 b] w fun e w' => e = .returned (.int .i64 (min a b)) ∧ w' = w := by
  by_cases h : a < b
  · have hd : decide (a < b) = true := by simpa using h
    have hm : Hid (min a b = a) := by show _ = _; omega
    go_enter Try.func66, Try.ntmps66
    go_wp2
    go_ret
    exact ⟨by rw [hm.out]; rfl, rfl⟩
  · have hd : decide (a < b) = false := by simpa using h
    have hm : Hid (min a b = b) := by show _ = _; omega
    go_enter Try.func66, Try.ntmps66
    go_wp2
    go_ret
    exact ⟨by rw [hm.out]; rfl, rfl⟩

set_option maxHeartbeats 2000000 in
theorem later_any (l : List Grain.Bk) (A : Int) (ao : Option Addr) (n c : Nat) (w : World) (hs : Seg w ao (kcells l)) (hn : n = l.length) (hL : n ≤ 1000000) :
    Calls Try.prog 67 #[.slice ao n c, .int .i64 A] w fun e w' => ∃ co N d, e = .returned (.slice co N d) ∧ w'.ownsRow w.heap.size 90 8 (.slice co N d) N (kcells (l.filter fun x => decide (A ≤ x.a))) ∧ Below w.heap.size w w' := by
  obtain ⟨i0, hi, hz0, hz1, hz2⟩ := sinfo_parts Try.infoBucket
  have HN := hide hn
  clear hn
  go_enter Try.func67, Try.ntmps67
  go_wp2
  go_loopw [5, 10] (fun out i wr => ∃ (k N d : Nat) (co : Option Addr), k ≤ n ∧ i = .int .i64 k ∧ out = .slice co N d ∧ N ≤ k ∧ wr.ownsRow w.heap.size 90 8 (.slice co N d) N (kcells ((l.take k).filter fun x => decide (A ≤ x.a))) ∧ Below w.heap.size w wr) (fun _ i _ => n - (intOf i).toNat)
  case atStart => exact ⟨0, 0, 0, none, Nat.zero_le _, rfl, rfl, Nat.le_refl _, World.ownsRow_nil _ _ _ _, Below.refl _ _⟩
  case round =>
    obtain ⟨k, N, d, co, hk, rfl, rfl, hNk, own, bel⟩ := hrel
    have hsz := bel.size
    by_cases hlt : k < n
    · have hkl : k < l.length := by rw [← HN.out]; exact hlt
      obtain ⟨b, off, rfl, hbl, hcell⟩ := seg_bucket hs hkl
      obtain ⟨K, hK⟩ : ∃ K, K = Grain.bk l k := ⟨_, rfl⟩
      have q := (hcell k hkl).below bel hbl
      rw [← hK] at q
      obtain ⟨c0, c1, c2, c3, c4, c5, c6, c7⟩ := q
      have HU : Hid (((l.take (k + 1)).filter fun x => decide (A ≤ x.a)) = if decide (A ≤ K.a) = true then ((l.take k).filter fun x => decide (A ≤ x.a)) ++ [K] else (l.take k).filter fun x => decide (A ≤ x.a)) := by
        show _ = _
        rw [filter_take _ hkl, hK, Grain.bk_get hkl]
      clear hK hcell hkl
      obtain ⟨V, hV⟩ : ∃ V, V = wr.alloc (ko K) := ⟨_, rfl⟩
      obtain ⟨X, hX⟩ : ∃ X, X = wr.heap.size := ⟨_, rfl⟩
      have F2 : V.heap[X]? = some (ko K) := by rw [hV, hX]; exact heap_alloc_new wr _
      have own2 : V.ownsRow w.heap.size 90 8 (.slice co N d) N (kcells ((l.take k).filter fun x => decide (A ≤ x.a))) := by rw [hV]; exact own.alloc _
      have bel2 : Below w.heap.size w V := by rw [hV]; exact bel.alloc hsz _
      have hs2 := bel2.size
      have HV : Hid (V = wr.alloc (.cells #[.int .i64 K.a, .int .i64 K.s.c, .int .i64 K.s.t, .int .i64 K.s.mn, .int .i64 K.s.mx, .int .i64 K.s.f, .int .i64 K.s.l, .int .i64 K.s.r] 90)) := hV
      have HX := hide hX
      clear hV own
      go_upto_region 5 with fail
      rw [← HV.out, ← HX.out]
      obtain ⟨p0, p1, p2, p3, p4, p5, p6, p7⟩ := eight_cells F2
      clear bel HV HX hX c0 c1 c2 c3 c4 c5 c6 c7 hsz
      cases hh : decide (A ≤ K.a) with
      | true =>
        have HE : Hid (((l.take (k + 1)).filter fun x => decide (A ≤ x.a)) = ((l.take k).filter fun x => decide (A ≤ x.a)) ++ [K]) := by
          show _ = _
          rw [HU.out, if_pos hh]
        clear HU
        go_wp2_with (at_builtin; refine wpList_append_lies _ rfl _ _ 42 rfl w.heap.size 90 i0 (.agg #[.int .i64 0, .int .i64 0, .int .i64 0, .int .i64 0, .int .i64 0, .int .i64 0, .int .i64 0, .int .i64 0]) 8 64 Try.underlying42 hi hz0 hz1 hz2 rfl (by decide) _ _ _ rfl (own2.alloc _) ⟨V.heap.size, 0, none⟩ 1 1 (kc K) rfl rfl (World.news_of_block (cs := #[.int .i64 K.a, .int .i64 K.s.c, .int .i64 K.s.t, .int .i64 K.s.mn, .int .i64 K.s.mx, .int .i64 K.s.f, .int .i64 K.s.l, .int .i64 K.s.r]) (t := 90) (fr := (0, 0)) (by simpa using heap_alloc_new V _)) (by simp [kc, Value.oneCell']) (by decide) (by unfold maxLen; omega) (by omega) (by simp; omega) (V.heap.size + 1) (by simp) ?_)
        intro g' cp' w5 own5 gr5 hat5 hlt5
        have own6 : w5.ownsRow w.heap.size 90 8 (.slice (some ⟨g', 0, none⟩) (N + 1) cp') (N + 1) (kcells ((l.take (k + 1)).filter fun x => decide (A ≤ x.a))) := by
          rw [HE.out, kcells_snoc]; exact own5
        have bel5 : Below w.heap.size w w5 := (bel2.alloc hs2 _).grown gr5 (by simp; omega) (fun j hj => (own2.lt j hj).1)
        clear own5 gr5 hat5 hlt5 own2 HE hh
        go_wp2
        go_roundw
        case rel => exact ⟨k + 1, N + 1, cp', _, by omega, by go_num, rfl, by omega, own6, bel5⟩
        case measure => simp [intOf]; omega
      | false =>
        have HE : Hid (((l.take (k + 1)).filter fun x => decide (A ≤ x.a)) = (l.take k).filter fun x => decide (A ≤ x.a)) := by
          show _ = _
          rw [HU.out, if_neg (by rw [hh]; decide)]
        clear HU
        rw [← HE.out] at own2
        go_wp2
        go_roundw
        case rel => exact ⟨k + 1, N, d, co, by omega, by go_num, rfl, by omega, own2, bel2⟩
        case measure => simp [intOf]; omega
    · have he : k = n := by omega
      subst he
      have HT := hide (List.take_of_length_le (i := k) (l := l) (by rw [← HN.out]; omega))
      rw [HT.out] at own
      clear HT HN
      go_wp2
      go_ret
      exact ⟨co, N, d, rfl, own, bel⟩

end Go.Proofs.Ytfgablhgjbjbkae

/-
  The walk of the document's own Choose.
-/
namespace Go.Proofs.Ytfgablhgjbjbkae
open Go.RowKit Go.GrainU

theorem part_set {w : World} {B : Nat} {x0 x1 x2 : Value} (h : w.heap[B]? = some (.cells #[x0, x1, x2] 112 (0, 0))) (k f t : Int) :
    (((w.setCell ⟨B, 0, none⟩ (.int .i64 k)).setCell ⟨B, 1, none⟩ (.int .i64 f)).setCell ⟨B, 2, none⟩ (.int .i64 t)).heap[B]? = some (.cells #[.int .i64 k, .int .i64 f, .int .i64 t] 112 (0, 0)) := by
  simp [World.setCell, Array.getElem?_modify, h]

set_option maxRecDepth 20000 in
set_option maxHeartbeats 8000000 in
theorem rchoose_any (x : ShT) (f t : Int) (r : List Grain.Pt × Int) (w : World) (hx : ShIn w x) (hr : r = Grain.choose x.s f t) :
    Calls Try.prog 31 #[x.v, .int .i64 f, .int .i64 t] w fun e w' => ∃ (co : Option Addr) (m d : Nat), e = .returned (.tuple #[.slice co m d, .int .i64 r.2]) ∧ w'.ownsRow w.heap.size 112 3 (.slice co m d) m (pcells r.1) ∧ m ≤ 1000000 ∧ Below w.heap.size w w' := by
  obtain ⟨i0, hi, hz0, hz1, hz2⟩ := info_parts Try.infoPart
  have HR := hide hr
  clear hr
  obtain ⟨X, hX⟩ : ∃ X, X = w.heap.size := ⟨_, rfl⟩
  obtain ⟨V, hV⟩ : ∃ V, V = w.alloc (so x) := ⟨_, rfl⟩
  have bel : Below w.heap.size w V := by rw [hV]; exact (Below.refl _ _).alloc (Nat.le_refl _) _
  have S0 : V.heap[X]? = some (so x) := by rw [hV, hX]; exact heap_alloc_new w _
  have hxV := hx.below bel
  have HV : Hid (V = w.alloc (.cells #[.slice x.a0 x.s.se.length x.c0, .slice x.a1 x.s.ra.length x.c1, .slice x.a2 x.s.fi.length x.c2, .slice x.a3 x.s.co.length x.c3, .int .i64 x.s.rf, .int .i64 x.s.ff, .int .i64 x.s.ft, .int .i64 x.s.cf, .int .i64 x.s.ct] 44)) := hV
  have HX := hide hX
  have Hv : Hid (x.v = .agg #[.slice x.a0 x.s.se.length x.c0, .slice x.a1 x.s.ra.length x.c1, .slice x.a2 x.s.fi.length x.c2, .slice x.a3 x.s.co.length x.c3, .int .i64 x.s.rf, .int .i64 x.s.ff, .int .i64 x.s.ft, .int .i64 x.s.cf, .int .i64 x.s.ct]) := rfl
  obtain ⟨E, hE⟩ : ∃ E, E = Grain.swrong x.s := ⟨_, rfl⟩
  have HE := hide hE
  have hXV : X < V.heap.size := lt_of_block S0
  clear hV hX hE hx
  rw [Hv.out]
  go_enter Try.func31, Try.ntmps31
  go_wp2_with fail
  rw [← HV.out, ← Hv.out]
  refine (rshwrong_any x V hxV).mono ?_
  rintro e w1 ⟨rfl, hb1⟩
  rw [← HE.out]
  have bel1 : Below w.heap.size w w1 := below_pl hb1 bel
  have S1 := below_block hb1 S0
  by_cases hw : E = 0
  · subst hw
    by_cases h1 : f < 0
    · have e : r = ([], 3) := by rw [HR.out, Grain.choose, if_neg (by simp [← HE.out]), if_pos (.inl h1)]
      subst e
      go_wp2
      exact bodyPost_ret (v := .tuple #[.slice none 0 0, .int .i64 3]) (by simp [results, Try.results31, go_sem]) rfl ⟨none, 0, 0, rfl, World.ownsRow_nil _ _ _ _, by omega, bel1⟩
    · by_cases h2 : t < f
      · have e : r = ([], 3) := by rw [HR.out, Grain.choose, if_neg (by simp [← HE.out]), if_pos (.inr (.inl h2))]
        subst e
        go_wp2
        exact bodyPost_ret (v := .tuple #[.slice none 0 0, .int .i64 3]) (by simp [results, Try.results31, go_sem]) rfl ⟨none, 0, 0, rfl, World.ownsRow_nil _ _ _ _, by omega, bel1⟩
      · by_cases h3 : 1000000 < t
        · have e : r = ([], 3) := by rw [HR.out, Grain.choose, if_neg (by simp [← HE.out]), if_pos (.inr (.inr h3))]
          subst e
          go_wp2
          exact bodyPost_ret (v := .tuple #[.slice none 0 0, .int .i64 3]) (by simp [results, Try.results31, go_sem]) rfl ⟨none, 0, 0, rfl, World.ownsRow_nil _ _ _ _, by omega, bel1⟩
        · have HC : Hid (r = Grain.chsR x.s t (t - f).toNat f []) := by
            show _ = _
            rw [HR.out, Grain.choose_ref HE.out.symm (by omega) (by omega) (by omega)]
          have f0 : 0 ≤ f := by omega
          have ft : f ≤ t := by omega
          have t1 : t ≤ 1000000 := by omega
          clear h1 h2 h3 HR
          go_wp2
          rw [← HX.out]
          go_loopw [9, 10] (fun s9 s10 wr => ∃ (co : Option Addr) (m d fuel : Nat) (a : Int) (out : List Grain.Pt), s9 = .slice co m d ∧ s10 = .int .i64 a ∧ wr.ownsRow w1.heap.size 112 3 (.slice co m d) m (pcells out) ∧ Below w1.heap.size w1 wr ∧ Hid (r = Grain.chsR x.s t fuel a out) ∧ (t - a).toNat ≤ fuel ∧ 0 ≤ a ∧ a ≤ t ∧ m + fuel ≤ 1000000) (fun _ s10 _ => (t - intOf s10).toNat)
          case atStart => exact ⟨none, 0, 0, (t - f).toNat, f, [], rfl, rfl, World.ownsRow_nil _ _ _ _, Below.refl _ _, HC, Nat.le_refl _, f0, ft, by omega⟩
          case round =>
            obtain ⟨co, m, d, fuel, a, out, rfl, rfl, own, belr, HC2, hfu, ha0, hat, hmf⟩ := hrel
            have S2 := below_block belr S1
            have hsz := belr.size
            by_cases hlt : a < t
            · obtain ⟨fu, rfl⟩ : ∃ k, fuel = k + 1 := ⟨fuel - 1, by omega⟩
              obtain ⟨p, hp⟩ : ∃ p, p = Grain.nxtR x.s a t := ⟨_, rfl⟩
              have hpf : p.f = a := by rw [hp]; exact Grain.nxtR_f _ _ _
              have hpt : p.t ≤ t := by rw [hp]; exact Grain.nxtR_t _ _ _
              have HC3 : Hid (r = if Grain.may x.s p = true then Grain.chsR x.s t fu p.t (Grain.putP out p) else ([], 10)) := by
                show _ = _
                rw [HC2.out, Grain.chsR, if_pos hlt, ← hp]
              have HP := hide hp
              have HPF := hide hpf
              obtain ⟨Q, hQ⟩ : ∃ Q, Q = wr.heap.size := ⟨_, rfl⟩
              obtain ⟨W, hW⟩ : ∃ W, W = wr.alloc (.cells #[.int .i64 0, .int .i64 0, .int .i64 0] 112) := ⟨_, rfl⟩
              have hbW : Below wr.heap.size wr W := by rw [hW]; exact (Below.refl _ _).alloc (Nat.le_refl _) _
              have Q0 : W.heap[Q]? = some (.cells #[.int .i64 0, .int .i64 0, .int .i64 0] 112 (0, 0)) := by rw [hW, hQ]; exact heap_alloc_new wr _
              have S3 := below_block hbW S2
              have qR : wr.heap.size ≤ Q := by omega
              have HW := hide hW
              have HQ := hide hQ
              obtain ⟨x0, x1, x2, x3, x4, x5, x6, x7, x8⟩ := nine_cells S2
              have Xl : X < wr.heap.size := lt_of_block S2
              clear hp HC2 hpf hW hQ
              clear x0 x1 x2 x3 x4 x5 x6 x7 x8
              go_upto_region 9 with fail
              go_cut [11] from 11 to 12 (fun v wx => v = .pointer (some ⟨Q, 0, none⟩) ∧ Hid (wx = W))
              case first =>
                go_wp2
                go_meet
                exact ⟨by rw [HQ.out], HW.out.symm⟩
              case rest =>
              obtain ⟨rfl, HWC⟩ := hcut
              rw [HWC.out]
              clear HWC
              apply_assumption
              refine wp_seq_k fun KK hKK => ?_
              go_cut [] from 33 to 79 (fun wx => wx.heap[Q]? = some (.cells #[.int .i64 p.k, .int .i64 p.f, .int .i64 p.t] 112 (0, 0)) ∧ Below wr.heap.size wr wx ∧ Hid (Grain.may x.s p = true))
              case first =>
                by_cases h6 : a + 60 ≤ t
                · obtain ⟨m2, hm2⟩ : ∃ m, m = Grain.may x.s ⟨2, a, a + 60⟩ := ⟨_, rfl⟩
                  have HM2 := hide hm2
                  clear hm2
                  obtain ⟨x0, x1, x2, x3, x4, x5, x6, x7, x8⟩ := nine_cells S3
                  go_wp2_with fail
                  refine (rmay_any x.s _ _ _ _ ⟨2, a, a + 60⟩ m2 W HM2.out).mono ?_
                  rintro e w2 ⟨rfl, hb2⟩
                  have Q2 := below_block hb2 Q0
                  have S4 := below_block hb2 S3
                  have bel2 : Below wr.heap.size wr w2 := below_pl hb2 hbW
                  clear x0 x1 x2 x3 x4 x5 x6 x7 x8 hb2
                  cases m2
                  · have HA : Hid (¬ (a + 60 ≤ t ∧ Grain.may x.s ⟨2, a, a + 60⟩ = true)) := by intro h; rw [← HM2.out] at h; exact absurd h.2 (by decide)
                    clear h6
                    by_cases h1 : a + 10 ≤ t
                    · obtain ⟨m1, hm1⟩ : ∃ m, m = Grain.may x.s ⟨1, a, a + 10⟩ := ⟨_, rfl⟩
                      have HM1 := hide hm1
                      clear hm1
                      obtain ⟨x0, x1, x2, x3, x4, x5, x6, x7, x8⟩ := nine_cells S4
                      go_wp2_with fail
                      refine (rmay_any x.s _ _ _ _ ⟨1, a, a + 10⟩ m1 w2 HM1.out).mono ?_
                      rintro e w3 ⟨rfl, hb3⟩
                      have Q3 := below_block hb3 Q2
                      have S5 := below_block hb3 S4
                      have bel3 : Below wr.heap.size wr w3 := below_pl hb3 bel2
                      clear x0 x1 x2 x3 x4 x5 x6 x7 x8 hb3
                      cases m1
                      · have HA2 : Hid (¬ (a + 10 ≤ t ∧ Grain.may x.s ⟨1, a, a + 10⟩ = true)) := by intro h; rw [← HM1.out] at h; exact absurd h.2 (by decide)
                        clear h1
                        have e : p = ⟨0, a, min t (a / 10 * 10 + 10)⟩ := by rw [HP.out, Grain.nxtR, if_neg HA.out, if_neg HA2.out]
                        obtain ⟨T, hT⟩ : ∃ T, T = min t (a / 10 * 10 + 10) := ⟨_, rfl⟩
                        rw [← hT] at e
                        have HTT := hide hT
                        clear hT
                        subst e
                        obtain ⟨y0, y1, y2⟩ := three3 Q3
                        obtain ⟨f0', f1', f2'⟩ := three_thaw Q3
                        go_wp2_with fail
                        refine (least_any t (a / 10 * 10 + 10) _).mono ?_
                        rintro e w9 ⟨rfl, hw9⟩
                        rw [hw9, ← HTT.out]
                        clear hw9 w9
                        obtain ⟨W6, hW6⟩ : ∃ W6, W6 = (((w3.setCell ⟨Q, 0, none⟩ (.int .i64 0)).setCell ⟨Q, 1, none⟩ (.int .i64 a)).setCell ⟨Q, 2, none⟩ (.int .i64 T)) := ⟨_, rfl⟩
                        have Q6 : W6.heap[Q]? = some (.cells #[.int .i64 0, .int .i64 a, .int .i64 T] 112 (0, 0)) := by rw [hW6]; exact part_set Q3 0 a T
                        have bel6 : Below wr.heap.size wr W6 := by rw [hW6]; exact below_set3 bel3 qR _ _ _
                        have S6 := below_block bel6 S2
                        have HW6 := hide hW6
                        obtain ⟨b, hb⟩ : ∃ b, b = Grain.may x.s ⟨0, a, T⟩ := ⟨_, rfl⟩
                        have HBM := hide hb
                        clear hW6 hb
                        go_upto_region 11 with fail
                        rw [← HW6.out]
                        obtain ⟨z0, z1, z2⟩ := three3 Q6
                        obtain ⟨x0, x1, x2, x3, x4, x5, x6, x7, x8⟩ := nine_cells S6
                        go_wp2_with fail
                        refine (rmay_any x.s _ _ _ _ ⟨0, a, T⟩ b W6 HBM.out).mono ?_
                        rintro e w7 ⟨rfl, hb7⟩
                        have Q7 := below_block hb7 Q6
                        have bel7 : Below wr.heap.size wr w7 := below_pl hb7 bel6
                        clear x0 x1 x2 x3 x4 x5 x6 x7 x8 hb7
                        cases b
                        · have e : r = ([], 10) := by rw [HC3.out, ← HBM.out]; rfl
                          subst e
                          go_wp2
                          exact bodyPost_ret (v := .tuple #[.slice none 0 0, .int .i64 10]) (by simp [results, Try.results31, go_sem]) rfl ⟨none, 0, 0, rfl, World.ownsRow_nil _ _ _ _, by omega, below_pl bel7 (below_pl belr bel1)⟩
                        · go_wp2
                          go_meet
                          exact ⟨Q7, bel7, HBM.out.symm⟩
                      · have e : p = ⟨1, a, a + 10⟩ := by rw [HP.out, Grain.nxtR, if_neg HA.out, if_pos ⟨h1, HM1.out.symm⟩]
                        subst e
                        obtain ⟨y0, y1, y2⟩ := three3 Q3
                        obtain ⟨f0', f1', f2'⟩ := three_thaw Q3
                        go_wp2
                        go_meet
                        exact ⟨part_set Q3 1 a (a + 10), below_set3 bel3 qR _ _ _, HM1.out.symm⟩
                    · have HA2 : Hid (¬ (a + 10 ≤ t ∧ Grain.may x.s ⟨1, a, a + 10⟩ = true)) := fun h => h1 h.1
                      have e : p = ⟨0, a, min t (a / 10 * 10 + 10)⟩ := by rw [HP.out, Grain.nxtR, if_neg HA.out, if_neg HA2.out]
                      obtain ⟨T, hT⟩ : ∃ T, T = min t (a / 10 * 10 + 10) := ⟨_, rfl⟩
                      rw [← hT] at e
                      have HTT := hide hT
                      clear hT
                      subst e
                      obtain ⟨y0, y1, y2⟩ := three3 Q2
                      obtain ⟨f0', f1', f2'⟩ := three_thaw Q2
                      go_wp2_with fail
                      refine (least_any t (a / 10 * 10 + 10) _).mono ?_
                      rintro e w9 ⟨rfl, hw9⟩
                      rw [hw9, ← HTT.out]
                      clear hw9 w9
                      obtain ⟨W6, hW6⟩ : ∃ W6, W6 = (((w2.setCell ⟨Q, 0, none⟩ (.int .i64 0)).setCell ⟨Q, 1, none⟩ (.int .i64 a)).setCell ⟨Q, 2, none⟩ (.int .i64 T)) := ⟨_, rfl⟩
                      have Q6 : W6.heap[Q]? = some (.cells #[.int .i64 0, .int .i64 a, .int .i64 T] 112 (0, 0)) := by rw [hW6]; exact part_set Q2 0 a T
                      have bel6 : Below wr.heap.size wr W6 := by rw [hW6]; exact below_set3 bel2 qR _ _ _
                      have S6 := below_block bel6 S2
                      have HW6 := hide hW6
                      obtain ⟨b, hb⟩ : ∃ b, b = Grain.may x.s ⟨0, a, T⟩ := ⟨_, rfl⟩
                      have HBM := hide hb
                      clear hW6 hb
                      go_upto_region 11 with fail
                      rw [← HW6.out]
                      obtain ⟨z0, z1, z2⟩ := three3 Q6
                      obtain ⟨x0, x1, x2, x3, x4, x5, x6, x7, x8⟩ := nine_cells S6
                      go_wp2_with fail
                      refine (rmay_any x.s _ _ _ _ ⟨0, a, T⟩ b W6 HBM.out).mono ?_
                      rintro e w7 ⟨rfl, hb7⟩
                      have Q7 := below_block hb7 Q6
                      have bel7 : Below wr.heap.size wr w7 := below_pl hb7 bel6
                      clear x0 x1 x2 x3 x4 x5 x6 x7 x8 hb7
                      cases b
                      · have e : r = ([], 10) := by rw [HC3.out, ← HBM.out]; rfl
                        subst e
                        go_wp2
                        exact bodyPost_ret (v := .tuple #[.slice none 0 0, .int .i64 10]) (by simp [results, Try.results31, go_sem]) rfl ⟨none, 0, 0, rfl, World.ownsRow_nil _ _ _ _, by omega, below_pl bel7 (below_pl belr bel1)⟩
                      · go_wp2
                        go_meet
                        exact ⟨Q7, bel7, HBM.out.symm⟩
                  · have e : p = ⟨2, a, a + 60⟩ := by rw [HP.out, Grain.nxtR, if_pos ⟨h6, HM2.out.symm⟩]
                    subst e
                    obtain ⟨y0, y1, y2⟩ := three3 Q2
                    obtain ⟨f0', f1', f2'⟩ := three_thaw Q2
                    go_wp2
                    go_meet
                    exact ⟨part_set Q2 2 a (a + 60), below_set3 bel2 qR _ _ _, HM2.out.symm⟩
                · have HA : Hid (¬ (a + 60 ≤ t ∧ Grain.may x.s ⟨2, a, a + 60⟩ = true)) := fun h => h6 h.1
                  by_cases h1 : a + 10 ≤ t
                  · obtain ⟨m1, hm1⟩ : ∃ m, m = Grain.may x.s ⟨1, a, a + 10⟩ := ⟨_, rfl⟩
                    have HM1 := hide hm1
                    clear hm1
                    obtain ⟨x0, x1, x2, x3, x4, x5, x6, x7, x8⟩ := nine_cells S3
                    go_wp2_with fail
                    refine (rmay_any x.s _ _ _ _ ⟨1, a, a + 10⟩ m1 W HM1.out).mono ?_
                    rintro e w3 ⟨rfl, hb3⟩
                    have Q3 := below_block hb3 Q0
                    have S5 := below_block hb3 S3
                    have bel3 : Below wr.heap.size wr w3 := below_pl hb3 hbW
                    clear x0 x1 x2 x3 x4 x5 x6 x7 x8 hb3
                    cases m1
                    · have HA2 : Hid (¬ (a + 10 ≤ t ∧ Grain.may x.s ⟨1, a, a + 10⟩ = true)) := by intro h; rw [← HM1.out] at h; exact absurd h.2 (by decide)
                      clear h1
                      have e : p = ⟨0, a, min t (a / 10 * 10 + 10)⟩ := by rw [HP.out, Grain.nxtR, if_neg HA.out, if_neg HA2.out]
                      obtain ⟨T, hT⟩ : ∃ T, T = min t (a / 10 * 10 + 10) := ⟨_, rfl⟩
                      rw [← hT] at e
                      have HTT := hide hT
                      clear hT
                      subst e
                      obtain ⟨y0, y1, y2⟩ := three3 Q3
                      obtain ⟨f0', f1', f2'⟩ := three_thaw Q3
                      go_wp2_with fail
                      refine (least_any t (a / 10 * 10 + 10) _).mono ?_
                      rintro e w9 ⟨rfl, hw9⟩
                      rw [hw9, ← HTT.out]
                      clear hw9 w9
                      obtain ⟨W6, hW6⟩ : ∃ W6, W6 = (((w3.setCell ⟨Q, 0, none⟩ (.int .i64 0)).setCell ⟨Q, 1, none⟩ (.int .i64 a)).setCell ⟨Q, 2, none⟩ (.int .i64 T)) := ⟨_, rfl⟩
                      have Q6 : W6.heap[Q]? = some (.cells #[.int .i64 0, .int .i64 a, .int .i64 T] 112 (0, 0)) := by rw [hW6]; exact part_set Q3 0 a T
                      have bel6 : Below wr.heap.size wr W6 := by rw [hW6]; exact below_set3 bel3 qR _ _ _
                      have S6 := below_block bel6 S2
                      have HW6 := hide hW6
                      obtain ⟨b, hb⟩ : ∃ b, b = Grain.may x.s ⟨0, a, T⟩ := ⟨_, rfl⟩
                      have HBM := hide hb
                      clear hW6 hb
                      go_upto_region 11 with fail
                      rw [← HW6.out]
                      obtain ⟨z0, z1, z2⟩ := three3 Q6
                      obtain ⟨x0, x1, x2, x3, x4, x5, x6, x7, x8⟩ := nine_cells S6
                      go_wp2_with fail
                      refine (rmay_any x.s _ _ _ _ ⟨0, a, T⟩ b W6 HBM.out).mono ?_
                      rintro e w7 ⟨rfl, hb7⟩
                      have Q7 := below_block hb7 Q6
                      have bel7 : Below wr.heap.size wr w7 := below_pl hb7 bel6
                      clear x0 x1 x2 x3 x4 x5 x6 x7 x8 hb7
                      cases b
                      · have e : r = ([], 10) := by rw [HC3.out, ← HBM.out]; rfl
                        subst e
                        go_wp2
                        exact bodyPost_ret (v := .tuple #[.slice none 0 0, .int .i64 10]) (by simp [results, Try.results31, go_sem]) rfl ⟨none, 0, 0, rfl, World.ownsRow_nil _ _ _ _, by omega, below_pl bel7 (below_pl belr bel1)⟩
                      · go_wp2
                        go_meet
                        exact ⟨Q7, bel7, HBM.out.symm⟩
                    · have e : p = ⟨1, a, a + 10⟩ := by rw [HP.out, Grain.nxtR, if_neg HA.out, if_pos ⟨h1, HM1.out.symm⟩]
                      subst e
                      obtain ⟨y0, y1, y2⟩ := three3 Q3
                      obtain ⟨f0', f1', f2'⟩ := three_thaw Q3
                      go_wp2
                      go_meet
                      exact ⟨part_set Q3 1 a (a + 10), below_set3 bel3 qR _ _ _, HM1.out.symm⟩
                  · have HA2 : Hid (¬ (a + 10 ≤ t ∧ Grain.may x.s ⟨1, a, a + 10⟩ = true)) := fun h => h1 h.1
                    have e : p = ⟨0, a, min t (a / 10 * 10 + 10)⟩ := by rw [HP.out, Grain.nxtR, if_neg HA.out, if_neg HA2.out]
                    obtain ⟨T, hT⟩ : ∃ T, T = min t (a / 10 * 10 + 10) := ⟨_, rfl⟩
                    rw [← hT] at e
                    have HTT := hide hT
                    clear hT
                    subst e
                    obtain ⟨y0, y1, y2⟩ := three3 Q0
                    obtain ⟨f0', f1', f2'⟩ := three_thaw Q0
                    go_wp2_with fail
                    refine (least_any t (a / 10 * 10 + 10) _).mono ?_
                    rintro e w9 ⟨rfl, hw9⟩
                    rw [hw9, ← HTT.out]
                    clear hw9 w9
                    obtain ⟨W6, hW6⟩ : ∃ W6, W6 = (((W.setCell ⟨Q, 0, none⟩ (.int .i64 0)).setCell ⟨Q, 1, none⟩ (.int .i64 a)).setCell ⟨Q, 2, none⟩ (.int .i64 T)) := ⟨_, rfl⟩
                    have Q6 : W6.heap[Q]? = some (.cells #[.int .i64 0, .int .i64 a, .int .i64 T] 112 (0, 0)) := by rw [hW6]; exact part_set Q0 0 a T
                    have bel6 : Below wr.heap.size wr W6 := by rw [hW6]; exact below_set3 hbW qR _ _ _
                    have S6 := below_block bel6 S2
                    have HW6 := hide hW6
                    obtain ⟨b, hb⟩ : ∃ b, b = Grain.may x.s ⟨0, a, T⟩ := ⟨_, rfl⟩
                    have HBM := hide hb
                    clear hW6 hb
                    go_upto_region 11 with fail
                    rw [← HW6.out]
                    obtain ⟨z0, z1, z2⟩ := three3 Q6
                    obtain ⟨x0, x1, x2, x3, x4, x5, x6, x7, x8⟩ := nine_cells S6
                    go_wp2_with fail
                    refine (rmay_any x.s _ _ _ _ ⟨0, a, T⟩ b W6 HBM.out).mono ?_
                    rintro e w7 ⟨rfl, hb7⟩
                    have Q7 := below_block hb7 Q6
                    have bel7 : Below wr.heap.size wr w7 := below_pl hb7 bel6
                    clear x0 x1 x2 x3 x4 x5 x6 x7 x8 hb7
                    cases b
                    · have e : r = ([], 10) := by rw [HC3.out, ← HBM.out]; rfl
                      subst e
                      go_wp2
                      exact bodyPost_ret (v := .tuple #[.slice none 0 0, .int .i64 10]) (by simp [results, Try.results31, go_sem]) rfl ⟨none, 0, 0, rfl, World.ownsRow_nil _ _ _ _, by omega, below_pl bel7 (below_pl belr bel1)⟩
                    · go_wp2
                      go_meet
                      exact ⟨Q7, bel7, HBM.out.symm⟩
              case rest =>
              obtain ⟨Qc, belc, HMay⟩ := hcut
              obtain ⟨w5, hw5⟩ : ∃ w5, w5 = wc := ⟨_, rfl⟩
              rw [← hw5] at Qc belc ⊢
              have own5 := own_below own belc
              have bel5 : Below w1.heap.size w1 w5 := below_pl belc belr
              have hlow : ∀ g, (Value.slice co m d).ownBlock = some g → g < Q := fun g hg => by have := (own.lt g hg).2; omega
              have HLow := hide hlow
              have hlt2 : a < p.t := by have := Grain.may_lt HMay.out; rw [HPF.out] at this; exact this
              have HC4 : Hid (r = Grain.chsR x.s t fu p.t (Grain.putP out p)) := by show _ = _; rw [HC3.out, if_pos HMay.out]
              have hsz5 := bel5.size
              have hown := own5.lt
              obtain ⟨y0, y1, y2⟩ := three3 Qc
              have lQ : Q < w5.heap.size := lt_of_block Qc
              clear hw5 HC3 own belr hlow S2 S3 hbW Q0 HW HQ Xl
              rcases Grain.snoc_or out with rfl | ⟨R, q, rfl⟩
              · have hm0 : m = 0 := own_plen own5
                subst hm0
                have hg : decide ((0 : Int) < ((0 : Nat) : Int)) = false := by decide
                have hg' : decide ((0 : Int) < 0) = false := by decide
                have own6 : Hid (∀ qq, (w5.drewN qq).ownsRow w1.heap.size 112 3 (.slice co 0 d) 0 (pcells [])) := fun qq => own5
                have bel6 : Hid (∀ qq, Below w1.heap.size w1 (w5.drewN qq)) := fun qq => below_drewN bel5 qq
                go_wp2
                go_quiet (fail)
                go_wp2_with (at_builtin; refine wpList_append_lies _ rfl _ _ 66 rfl w1.heap.size 112 i0 (.agg #[.int .i64 0, .int .i64 0, .int .i64 0]) 3 24 Try.underlying66 hi hz0 hz1 hz2 rfl (by decide) _ _ _ rfl ((own6.out _).alloc _) ⟨w5.heap.size, 0, none⟩ 1 1 (ptc p) rfl rfl (World.news_of_block (cs := #[.int .i64 p.k, .int .i64 p.f, .int .i64 p.t]) (t := 112) (fr := (0, 0)) (heap_alloc_new (w5.drewN _) _)) (by simp [ptc, Value.oneCell']) (by decide) (by unfold maxLen; omega) (by omega) (by simp; omega) (w5.heap.size + 1) (by simp) ?_)
                intro g cap' w7 own7 gr7 hat7 hlt7
                have bel7 : Below w1.heap.size w1 w7 := ((bel6.out _).alloc (by have := (bel6.out 0).size; exact this) _).grown gr7 (by simp; omega) (fun j hj => (hown j hj).1)
                have own8 : w7.ownsRow w1.heap.size 112 3 (.slice (some ⟨g, 0, none⟩) (0 + 1) cap') (0 + 1) (pcells (Grain.putP [] p)) := by
                  rw [Grain.putP_nil, show ([p] : List Grain.Pt) = [] ++ [p] from rfl, pcells_snoc]; exact own7
                clear own6 bel6 own7 gr7 hat7 hlt7 own5 y0 y1 y2
                go_wp2
                go_roundw
                case rel => exact ⟨_, 0 + 1, cap', fu, p.t, _, rfl, rfl, own8, bel7, HC4, by omega, by omega, hpt, by omega⟩
                case measure => simp [intOf]; omega
              · have hlen : m = R.length + 1 := by have := own_plen own5; simpa using this
                subst hlen
                rcases own5.2 with ⟨h0, h1⟩ | ⟨g0, cap0, cur, h0, _⟩
                · omega
                · simp at h0
                  obtain ⟨rfl, rfl⟩ := h0
                  obtain ⟨c0, c1, c2⟩ := own_plast own5
                  have hg : decide ((0 : Int) < ((R.length + 1 : Nat) : Int)) = true := by simp
                  have hg' : decide ((0 : Int) < (R.length : Int) + 1) = true := by simp
                  have hw1 : IntKind.i64.wrap ((R.length : Int) + 1 - 1) = (R.length : Int) := by rw [IntKind.wrap_i64]; omega
                  have hw2 : IntKind.i64.wrap (R.length : Int) = (R.length : Int) := by rw [IntKind.wrap_i64]; omega
                  by_cases ek : q.k = p.k
                  · have ne : (q.k == p.k) = true := by simpa using ek
                    have t2 : w5.frozen? ⟨g0, R.length * 3 + 2, none⟩ = false := own_thaw own5 _
                    have own8 : Hid (∀ qq, ((w5.drewN qq).setCell ⟨g0, R.length * 3 + 2, none⟩ (.int .i64 p.t)).ownsRow w1.heap.size 112 3 (.slice (some ⟨g0, 0, none⟩) (R.length + 1) d) (R.length + 1) (pcells (Grain.putP (R ++ [q]) p))) := by
                      intro qq
                      rw [Grain.putP_same _ _ _ ek, ← pset]
                      exact own_set (w := w5.drewN qq) own5 _ _
                    have bel8 : Hid (∀ qq, Below w1.heap.size w1 ((w5.drewN qq).setCell ⟨g0, R.length * 3 + 2, none⟩ (.int .i64 p.t))) := fun qq => (below_drewN bel5 qq).setCell (hown g0 rfl).1 _
                    have HEK := hide ek
                    clear ek own5 hown HLow
                    go_wp2
                    go_quiet (fail)
                    go_wp2
                    go_roundw
                    case rel => exact ⟨_, R.length + 1, d, fu, p.t, _, rfl, rfl, own8.out _, bel8.out _, HC4, by omega, by omega, hpt, by omega⟩
                    case measure => simp [intOf]; omega
                  · have ne : (q.k == p.k) = false := by simpa using ek
                    have own6 : Hid (∀ qq, (w5.drewN qq).ownsRow w1.heap.size 112 3 (.slice (some ⟨g0, 0, none⟩) (R.length + 1) d) (R.length + 1) (pcells (R ++ [q]))) := fun qq => own5
                    have bel6 : Hid (∀ qq, Below w1.heap.size w1 (w5.drewN qq)) := fun qq => below_drewN bel5 qq
                    have HEK := hide ek
                    clear ek
                    go_wp2
                    go_quiet (fail)
                    go_wp2_with (at_builtin; refine wpList_append_lies _ rfl _ _ 66 rfl w1.heap.size 112 i0 (.agg #[.int .i64 0, .int .i64 0, .int .i64 0]) 3 24 Try.underlying66 hi hz0 hz1 hz2 rfl (by decide) _ _ _ rfl ((own6.out _).alloc _) ⟨w5.heap.size, 0, none⟩ 1 1 (ptc p) rfl rfl (World.news_of_block (cs := #[.int .i64 p.k, .int .i64 p.f, .int .i64 p.t]) (t := 112) (fr := (0, 0)) (heap_alloc_new (w5.drewN _) _)) (by simp [ptc, Value.oneCell']) (by decide) (by unfold maxLen; omega) (by omega) (by simp; omega) (w5.heap.size + 1) (by simp) ?_)
                    intro g cap' w7 own7 gr7 hat7 hlt7
                    have bel7 : Below w1.heap.size w1 w7 := ((bel6.out _).alloc (by have := (bel6.out 0).size; exact this) _).grown gr7 (by simp; omega) (fun j hj => (hown j hj).1)
                    have own8 : w7.ownsRow w1.heap.size 112 3 (.slice (some ⟨g, 0, none⟩) (R.length + 1 + 1) cap') (R.length + 1 + 1) (pcells (Grain.putP (R ++ [q]) p)) := by
                      rw [Grain.putP_other _ _ _ HEK.out, pcells_snoc (R ++ [q])]; exact own7
                    clear own6 bel6 own7 gr7 hat7 hlt7 own5 y0 y1 y2 c0 c1 c2
                    go_wp2
                    go_roundw
                    case rel => exact ⟨_, R.length + 1 + 1, cap', fu, p.t, _, rfl, rfl, own8, bel7, HC4, by omega, by omega, hpt, by omega⟩
                    case measure => simp [intOf]; omega
            · have e : r = (out, 0) := by rw [HC2.out, Grain.chsR_end hlt]
              subst e
              clear HC2
              go_wp2
              exact bodyPost_ret (v := .tuple #[.slice co m d, .int .i64 0]) (by simp [results, Try.results31, go_sem]) rfl ⟨co, m, d, rfl, own_down own bel1.size, by omega, below_pl belr bel1⟩
  · have e : r = ([], E) := by rw [HR.out, Grain.choose, ← HE.out, if_pos hw]
    subst e
    have hne : (E != 0) = true := by simpa using hw
    go_wp2
    exact bodyPost_ret (v := .tuple #[.slice none 0 0, .int .i64 E]) (by simp [results, Try.results31, go_sem]) rfl ⟨none, 0, 0, rfl, World.ownsRow_nil _ _ _ _, by omega, bel1⟩

end Go.Proofs.Ytfgablhgjbjbkae

/-
  An append of whatever slice to a row of the call's own, at a step of a region that draws its order.
-/
namespace Go.GrainU
open Go.RowKit

theorem seg_newsP {w : World} {ad : Addr} {news : List Value} (hseg : Seg w (some ad) news) : ∀ j u, news[j]? = some u → w.cell? (ad.add j) = some u := by
  rcases hseg with hn | ⟨b, off, e1, hc⟩
  · subst hn; intro j u hu; simp at hu
  · simp at e1
    subst e1
    intro j u hu
    have hj : j < news.length := by
      rcases Nat.lt_or_ge j news.length with h | h
      · exact h
      · rw [List.getElem?_eq_none h] at hu; cases hu
    have := hc j hj
    rw [hu] at this
    rw [show (⟨b, off, none⟩ : Addr).add j = ⟨b, off + j, none⟩ from by unfold Addr.add; split <;> simp_all]
    exact this

theorem run_append_segP {P : Program} {w : World} (t ty : TypeId) (base : Nat) (e : TypeId) (i : TypeInfo) (z : Value) (size bytes : Nat) (ht : P.underlying t = some (.slice e)) (hi : P.info? e = some i) (hz : i.zero = some z)
    (hsize : i.size = size) (hby : i.bytes = bytes) (hzs : z.cells.size = size) (hsz : 0 < size)
    (v : Value) (n : Nat) (xs : List Value) (hown : w.ownsRow base e size v n xs)
    (ao : Option Addr) (m c : Nat) (news : List Value) (hao : ao = none → m = 0 ∧ c = 0) (hseg : Seg w ao news) (hl : news.length = m * size) (h1 : ∀ u ∈ news, u.oneCell' = true)
    (h63 : n + m ≤ maxLen) (hbytes : (n + m) * bytes ≤ 140737488355328) (hbase : base ≤ w.heap.size) :
    ∃ v' w', (Builtin.append_ #[t, t] ty #[v, .slice ao m c]).run P w = .ok v' w' ∧ w'.ownsRow base e size v' (n + m) (xs ++ news) ∧ w.grownBy w' v.ownBlock ∧ (v'.ownBlock = v.ownBlock ∨ v'.ownBlock = some w.heap.size) := by
  cases ao with
  | none =>
    obtain ⟨rfl, rfl⟩ := hao rfl
    have hn : news = [] := List.length_eq_zero_iff.mp (by omega)
    subst hn
    exact ⟨v, w, run_append_owned_none (P := P) (w := w) base t ty e i size ht hi v n xs hown, by simpa using hown, ⟨rfl, rfl, rfl, Nat.le_refl _, fun _ _ _ => rfl⟩, .inl rfl⟩
  | some ad =>
    have hnews := seg_newsP hseg
    rcases Nat.eq_zero_or_pos m with hm | hm
    · subst hm
      have hn : news = [] := List.length_eq_zero_iff.mp (by omega)
      subst hn
      obtain ⟨v', w', hr, h2, h3, h4⟩ := run_append_own (P := P) w base t ty e i z size bytes ht hi hz hsize hby hzs hsz v n xs hown ad 0 c [] (by simp) hnews h1 h63 hbytes hbase
      refine ⟨v', w', hr, h2, h3, .inl ?_⟩
      rcases hown.2 with ⟨hv, _⟩ | ⟨g, cap, cur, hv, _, hg, hcap, _, hcs, _⟩
      · have := h4.2 ⟨hv, rfl⟩
        rw [this, hv]
      · have hroom := run_append_room (P := P) w t ty e i ht hi g n cap cur hg ad 0 c [] (by simp) hnews h1 (by simpa using hcap) (by
          have : n * i.size ≤ cur.size := by rw [hcs, hsize]; exact Nat.mul_le_mul_right _ hcap
          simpa using this)
        rw [hv, hroom] at hr
        simp only [Result.ok.injEq] at hr
        rw [← hr.1, hv]
        rfl
    · obtain ⟨g, cap', w', hr, h2, h3, h4, _⟩ := run_append_lies (P := P) w t ty base e i z size bytes ht hi hz hsize hby hzs hsz v n xs hown ad m c news hl hnews h1 hm h63 hbytes hbase w.heap.size rfl
      refine ⟨_, w', hr, h2, h3, ?_⟩
      rcases h4 with h4 | h4
      · exact .inl h4.symm
      · exact .inr (by rw [h4]; rfl)

theorem step_append_segP {P : Program} {w : World} {ops : Array Oper} {o : Oper} {a : Act} {K : Act → World → Prop} {Q : Exit → Act → World → Prop} {E : Prop} (hw : Region.wanted o (yielded ops a.tmps) = true) (s x : Operand) (t : TypeId)
    (ho : o.op = .call { callee := .builtin .append, args := #[s, x], argTypes := #[t, t] })
    (base : Nat) (e : TypeId) (i : TypeInfo) (z : Value) (size bytes : Nat) (ht : P.underlying t = some (.slice e)) (hi : P.info? e = some i) (hz : i.zero = some z)
    (hsize : i.size = size) (hby : i.bytes = bytes) (hzs : z.cells.size = size) (hsz : 0 < size)
    (v : Value) (n : Nat) (xs : List Value) (hs : a.eval s = v) (hown : w.ownsRow base e size v n xs)
    (ao : Option Addr) (m c : Nat) (news : List Value) (hx : a.eval x = .slice ao m c) (hao : ao = none → m = 0 ∧ c = 0) (hseg : Seg w ao news) (hl : news.length = m * size) (h1 : ∀ u ∈ news, u.oneCell' = true)
    (h63 : n + m ≤ maxLen) (hbytes : (n + m) * bytes ≤ 140737488355328) (hbase : base ≤ w.heap.size)
    (h : ∀ v' w', w'.ownsRow base e size v' (n + m) (xs ++ news) → w.grownBy w' v.ownBlock → (v'.ownBlock = v.ownBlock ∨ v'.ownBlock = some w.heap.size) → K (a.put o.dst v') w') :
    if Region.wanted o (yielded ops a.tmps) = true then Oper.wp P o a w K Q else E := by
  rw [if_pos hw]
  obtain ⟨v', w', hr, h2, h3, h4⟩ := run_append_segP (P := P) t o.type base e i z size bytes ht hi hz hsize hby hzs hsz v n xs hown ao m c news hao hseg hl h1 h63 hbytes hbase
  unfold Oper.wp execOp
  simp only [ho, resolve, invoke, builtin, Sem.run_bind, Sem.run_pure, Result.andThen_ok, List.map_toArray, List.map_cons, List.map_nil, hs, hx, hr]
  exact h v' w' h2 h3 h4

end Go.GrainU

/-
  The walk of the document's Up.
-/
namespace Go.Proofs.Ytfgablhgjbjbkae
open Go.RowKit Go.GrainU

set_option maxHeartbeats 400000 in
theorem up_any (a b : Int) (w : World) :
    Calls Try.prog 99 #[.int .i64 a, .int .i64 b] w fun e w' => e = .returned (.int .i64 (Grain.rise a b)) ∧ w' = w := by
  by_cases hn : b < a
  · have hf : Grain.rise a b = b := by simp [Grain.rise, hn]
    rw [hf]; clear hf
    go_enter Try.func99, Try.ntmps99
    go_wp2
    go_ret
    exact ⟨rfl, rfl⟩
  · have hf : Grain.rise a b = IntKind.i64.wrap (b - a) := by simp [Grain.rise, hn, Grain.wr]
    rw [hf]; clear hf
    go_enter Try.func99, Try.ntmps99
    go_wp2
    go_ret
    exact ⟨ret_int (by simp [IntWalk.i64_left]), rfl⟩

end Go.Proofs.Ytfgablhgjbjbkae

/-
  The walk of the document's Join.
-/
namespace Go.Proofs.Ytfgablhgjbjbkae
open Go.RowKit Go.GrainU

theorem rjoin_mid {w W : World} {x0 x1 x2 x3 x4 x5 x6 z0 z1 z2 z3 z4 z5 z6 : Value} {t : TypeId} (h1 : W.heap[w.heap.size + 1]? = some (.cells #[x0, x1, x2, x3, x4, x5, x6] t (0, 0))) (h2 : W.heap[w.heap.size + 1 + 1]? = some (.cells #[z0, z1, z2, z3, z4, z5, z6] t (0, 0))) (bel : Below w.heap.size w W) (v0 v1 v2 v3 v4 v5 v6 : Value) :
    ∃ V, V = (W.alloc (.cells #[v0, v1, v2, v3, v4, v5, v6] t)).drew ∧ ∃ D, V.cell? ⟨D, 0, none⟩ = some v0 ∧ V.cell? ⟨D, 1, none⟩ = some v1 ∧ V.cell? ⟨D, 2, none⟩ = some v2 ∧ V.cell? ⟨D, 3, none⟩ = some v3 ∧ V.cell? ⟨D, 4, none⟩ = some v4 ∧ V.cell? ⟨D, 5, none⟩ = some v5 ∧ V.cell? ⟨D, 6, none⟩ = some v6 ∧
      V.frozen? ⟨D, 2, none⟩ = false ∧ V.frozen? ⟨D, 3, none⟩ = false ∧ V.cell? ⟨w.heap.size + 1, 2, none⟩ = some x2 ∧ V.cell? ⟨w.heap.size + 1, 3, none⟩ = some x3 ∧ V.heap[w.heap.size + 1 + 1]? = some (.cells #[z0, z1, z2, z3, z4, z5, z6] t (0, 0)) ∧ Below w.heap.size w V ∧ D = W.heap.size ∧ w.heap.size + 1 + 1 < D := by
  have l2 := lt_of_block h2
  have hd : (W.alloc (.cells #[v0, v1, v2, v3, v4, v5, v6] t)).drew.heap[W.heap.size]? = some (.cells #[v0, v1, v2, v3, v4, v5, v6] t (0, 0)) := heap_alloc_new W _
  have h1' : (W.alloc (.cells #[v0, v1, v2, v3, v4, v5, v6] t)).drew.heap[w.heap.size + 1]? = some (.cells #[x0, x1, x2, x3, x4, x5, x6] t (0, 0)) := by
    show (W.alloc _).heap[_]? = _
    rw [Below.heap_alloc _ _ _ (by omega)]; exact h1
  have h2' : (W.alloc (.cells #[v0, v1, v2, v3, v4, v5, v6] t)).drew.heap[w.heap.size + 1 + 1]? = some (.cells #[z0, z1, z2, z3, z4, z5, z6] t (0, 0)) := by
    show (W.alloc _).heap[_]? = _
    rw [Below.heap_alloc _ _ _ (by omega)]; exact h2
  obtain ⟨c0, c1, c2, c3, c4, c5, c6⟩ := seven_cells hd
  obtain ⟨_, _, g2, g3, _, _, _⟩ := seven_thaw hd
  obtain ⟨_, _, y2, y3, _, _, _⟩ := seven_cells h1'
  exact ⟨_, rfl, W.heap.size, c0, c1, c2, c3, c4, c5, c6, g2, g3, y2, y3, h2', below_drewN (bel.alloc bel.size _) 1, rfl, l2⟩

set_option maxHeartbeats 4000000 in
theorem rjoin_any (a b : Grain.Sm) (w : World) :
    Calls Try.prog 78 #[sv a, sv b] w fun e w' => e = .returned (sv (Grain.join a b)) ∧ Below w.heap.size w w' := by
  by_cases ha : a.c = 0
  · rw [Grain.join_zero_left a b ha]
    obtain ⟨ac, at', amn, amx, af, al, ar⟩ := a
    obtain ⟨bc, bt, bmn, bmx, bf, bl, br⟩ := b
    simp only [sv] at ha ⊢
    subst ha
    go_enter Try.func78, Try.ntmps78
    go_wp2
    exact bodyPost_ret (v := sv ⟨bc, bt, bmn, bmx, bf, bl, br⟩) (by simp [results, Try.results78, go_sem, sv]) rfl ⟨rfl, by go_grown⟩
  · by_cases hb : b.c = 0
    · rw [Grain.join_zero_right a b ha hb]
      obtain ⟨ac, at', amn, amx, af, al, ar⟩ := a
      obtain ⟨bc, bt, bmn, bmx, bf, bl, br⟩ := b
      simp only [sv] at ha hb ⊢
      subst hb
      have ha' : (ac == 0) = false := by simpa using ha
      go_enter Try.func78, Try.ntmps78
      go_wp2
      exact bodyPost_ret (v := sv ⟨ac, at', amn, amx, af, al, ar⟩) (by simp [results, Try.results78, go_sem, sv]) rfl ⟨rfl, by go_grown⟩
    · obtain ⟨ac, at', amn, amx, af, al, ar⟩ := a
      obtain ⟨bc, bt, bmn, bmx, bf, bl, br⟩ := b
      simp only [sv] at ha hb ⊢
      have ha' : (ac == 0) = false := by simpa using ha
      have hb' : (bc == 0) = false := by simpa using hb
      have HJ := hide (Grain.join_full ⟨ac, at', amn, amx, af, al, ar⟩ ⟨bc, bt, bmn, bmx, bf, bl, br⟩ ha hb)
      go_enter Try.func78, Try.ntmps78
      obtain ⟨W, hW, F0, F1, F2, bel⟩ := three_new w (.cells #[.int .i64 ac, .int .i64 at', .int .i64 amn, .int .i64 amx, .int .i64 af, .int .i64 al, .int .i64 ar] 62) (.cells #[.int .i64 bc, .int .i64 bt, .int .i64 bmn, .int .i64 bmx, .int .i64 bf, .int .i64 bl, .int .i64 br] 62) (.cells #[.int .i64 0, .int .i64 0, .int .i64 0, .int .i64 0, .int .i64 0, .int .i64 0, .int .i64 0] 62)
      have HW := hide hW
      clear hW
      go_wp2_with fail
      rw [← HW.out]
      obtain ⟨x0, x1, x2, x3, x4, x5, x6⟩ := seven_cells F0
      obtain ⟨y0, y1, y2, y3, y4, y5, y6⟩ := seven_cells F1
      have l2 := lt_of_block F2
      have n1 : ¬ (w.heap.size = W.heap.size) := by omega
      have n2 : ¬ (W.heap.size = w.heap.size) := by omega
      have n3 : ¬ (w.heap.size + 1 = W.heap.size) := by omega
      have n4 : ¬ (W.heap.size = w.heap.size + 1) := by omega
      go_region_held3 (fun w' => w'.cell? ⟨w.heap.size, 0, none⟩ = some (.int .i64 ac) ∧ w'.cell? ⟨w.heap.size, 1, none⟩ = some (.int .i64 at') ∧ w'.cell? ⟨w.heap.size, 2, none⟩ = some (.int .i64 amn) ∧ w'.cell? ⟨w.heap.size, 3, none⟩ = some (.int .i64 amx) ∧ w'.cell? ⟨w.heap.size, 4, none⟩ = some (.int .i64 af) ∧ w'.cell? ⟨w.heap.size, 5, none⟩ = some (.int .i64 al) ∧ w'.cell? ⟨w.heap.size, 6, none⟩ = some (.int .i64 ar) ∧ w'.cell? ⟨w.heap.size + 1, 0, none⟩ = some (.int .i64 bc) ∧ w'.cell? ⟨w.heap.size + 1, 1, none⟩ = some (.int .i64 bt) ∧ w'.cell? ⟨w.heap.size + 1, 2, none⟩ = some (.int .i64 bmn) ∧ w'.cell? ⟨w.heap.size + 1, 3, none⟩ = some (.int .i64 bmx) ∧ w'.cell? ⟨w.heap.size + 1, 4, none⟩ = some (.int .i64 bf) ∧ w'.cell? ⟨w.heap.size + 1, 5, none⟩ = some (.int .i64 bl) ∧ w'.cell? ⟨w.heap.size + 1, 6, none⟩ = some (.int .i64 br)) (go_keep)
        (first
          | (go_at_call 99; refine (up_any _ _ _).mono ?_; rintro e w' ⟨rfl, rfl⟩))
      all_goals
        obtain ⟨V, hV, D, c0, c1, c2, c3, c4, c5, c6, g2, g3, y2', y3', z, belV, hDW, hD⟩ := rjoin_mid F1 F2 bel (.int .i64 (IntKind.i64.wrap (ac + bc))) (.int .i64 (IntKind.i64.wrap (at' + bt))) (.int .i64 amn) (.int .i64 amx) (.int .i64 af) (.int .i64 bl) (.int .i64 (IntKind.i64.wrap (IntKind.i64.wrap (ar + Grain.rise al bf) + br)))
        rw [← hV]
        obtain ⟨z0, z1, z2, z3, z4, z5, z6⟩ := seven_cells z
        obtain ⟨f0, f1, f2, f3, f4, f5, f6⟩ := seven_thaw z
        rw [← hDW]
        clear hV F0 F1 F2 x0 x1 x2 x3 x4 x5 x6 y0 y1 y2 y3 y4 y5 y6 n1 n2 n3 n4 HW bel l2 z hDW
        have n1 : ¬ (D = w.heap.size + 1 + 1) := by omega
        have n2 : ¬ (w.heap.size + 1 + 1 = D) := by omega
        have n3 : ¬ (D = w.heap.size + 1) := by omega
        have n4 : ¬ (w.heap.size + 1 = D) := by omega
        have hDw : w.heap.size ≤ D := by omega
        by_cases q1 : bmn < amn
        · by_cases q2 : amx < bmx
          · have p1 := hide q1
            have p2 := hide q2
            go_wp2
            exact bodyPost_ret (v := sv (Grain.join ⟨ac, at', amn, amx, af, al, ar⟩ ⟨bc, bt, bmn, bmx, bf, bl, br⟩)) (by have a1 := p1.out; have a2 := p2.out; rw [HJ.out]; simp [results, Try.results78, go_sem, sv, Grain.wr, IntWalk.i64_left, p1.out, p2.out, z0, z1, z2, z3, z4, z5, z6] <;> omega) rfl ⟨rfl, below_set7 ((belV.setCell hDw _).setCell hDw _) (by omega) _ _ _ _ _ _ _⟩
          · have p1 := hide q1
            have p2 := hide q2
            go_wp2
            exact bodyPost_ret (v := sv (Grain.join ⟨ac, at', amn, amx, af, al, ar⟩ ⟨bc, bt, bmn, bmx, bf, bl, br⟩)) (by have a1 := p1.out; have a2 := p2.out; rw [HJ.out]; simp [results, Try.results78, go_sem, sv, Grain.wr, IntWalk.i64_left, p1.out, z0, z1, z2, z3, z4, z5, z6] <;> omega) rfl ⟨rfl, below_set7 (belV.setCell hDw _) (by omega) _ _ _ _ _ _ _⟩
        · by_cases q2 : amx < bmx
          · have p1 := hide q1
            have p2 := hide q2
            go_wp2
            exact bodyPost_ret (v := sv (Grain.join ⟨ac, at', amn, amx, af, al, ar⟩ ⟨bc, bt, bmn, bmx, bf, bl, br⟩)) (by have a1 := p1.out; have a2 := p2.out; rw [HJ.out]; simp [results, Try.results78, go_sem, sv, Grain.wr, IntWalk.i64_left, p2.out, z0, z1, z2, z3, z4, z5, z6] <;> omega) rfl ⟨rfl, below_set7 (belV.setCell hDw _) (by omega) _ _ _ _ _ _ _⟩
          · have p1 := hide q1
            have p2 := hide q2
            go_wp2
            exact bodyPost_ret (v := sv (Grain.join ⟨ac, at', amn, amx, af, al, ar⟩ ⟨bc, bt, bmn, bmx, bf, bl, br⟩)) (by have a1 := p1.out; have a2 := p2.out; rw [HJ.out]; simp [results, Try.results78, go_sem, sv, Grain.wr, IntWalk.i64_left, z0, z1, z2, z3, z4, z5, z6] <;> omega) rfl ⟨rfl, below_set7 belV (by omega) _ _ _ _ _ _ _⟩

end Go.Proofs.Ytfgablhgjbjbkae

/-
  The walk of the document's In: what the buckets of a window come to.
-/
namespace Go.Proofs.Ytfgablhgjbjbkae
open Go.RowKit Go.GrainU

theorem rof_more {w wr : World} {s : Grain.Sm} (I : OfInv w wr s) (o : Obj) : OfInv w (wr.alloc o) s := by
  have h2 := lt_of_block I.cur
  have h1 := lt_of_block I.res
  refine ⟨?_, ?_, I.bel.alloc (by omega) _⟩
  · show (wr.alloc _).heap[_]? = _
    rw [Below.heap_alloc _ _ _ h1]; exact I.res
  · show (wr.alloc _).heap[_]? = _
    rw [Below.heap_alloc _ _ _ h2]; exact I.cur

theorem rjoin_let (a b : Grain.Sm) (w : World) :
    Calls Try.prog 78 #[sv a, sv b] w fun e w' => ∃ J : Grain.Sm, Hid (J = Grain.join a b) ∧ e = .returned (.agg #[.int .i64 J.c, .int .i64 J.t, .int .i64 J.mn, .int .i64 J.mx, .int .i64 J.f, .int .i64 J.l, .int .i64 J.r]) ∧ Below w.heap.size w w' :=
  (rjoin_any a b w).mono fun _ _ h => ⟨_, rfl, h.1, h.2⟩

set_option maxHeartbeats 2000000 in
theorem rof_any (B : List Grain.Bk) (ao : Option Addr) (n cap : Nat) (f t : Int) (w : World) (hs : Seg w ao (kcells B)) (hn : n = B.length) (hL : n ≤ 1000000) :
    Calls Try.prog 61 #[.slice ao n cap, .int .i64 f, .int .i64 t] w fun e w' => ∃ J : Grain.Sm, Hid (J = Grain.inB B f t) ∧ e = .returned (.agg #[.int .i64 J.c, .int .i64 J.t, .int .i64 J.mn, .int .i64 J.mx, .int .i64 J.f, .int .i64 J.l, .int .i64 J.r]) ∧ Below w.heap.size w w' := by
  have HN := hide hn
  clear hn
  go_enter Try.func61, Try.ntmps61
  go_wp2
  go_loopw [12] (fun i wr => ∃ (k : Nat) (s : Grain.Sm), k ≤ n ∧ i = .int .i64 k ∧ Hid (s = Grain.inB (B.take k) f t) ∧ OfInv w wr s) (fun i _ => n - (intOf i).toNat)
  case atStart => exact ⟨0, _, Nat.zero_le _, rfl, rfl, OfInv.start w⟩
  case round =>
    obtain ⟨k, s, hk, rfl, HS, I⟩ := hrel
    by_cases hlt : k < n
    · have hkl : k < B.length := by rw [← HN.out]; exact hlt
      obtain ⟨b, off, rfl, hb, hcell⟩ := seg_bucket hs hkl
      obtain ⟨K, hK⟩ : ∃ K, K = Grain.bk B k := ⟨_, rfl⟩
      have q := (hcell k hkl).below I.bel hb
      rw [← hK] at q
      obtain ⟨c0, c1, c2, c3, c4, c5, c6, c7⟩ := q
      have HT : Hid (Grain.inB (B.take (k + 1)) f t = if f ≤ K.a ∧ K.a < t then Grain.join s K.s else s) := by
        show _ = _
        rw [Grain.inB_take f t hkl, ← hK, ← HS.out]
      have I1 := rof_more I (ko K)
      have hw1 : w.heap.size + 1 < wr.heap.size := lt_of_block I.cur
      obtain ⟨s0, s1, s2, s3, s4, s5, s6⟩ := I.cur.cells
      clear hcell hK hkl HS I
      by_cases h1 : f ≤ K.a
      · by_cases h2 : K.a < t
        · go_wp2_with fail
          refine (rjoin_let s K.s _).mono ?_
          rintro e w2 ⟨J, HJ, rfl, hb2⟩
          have I3 := I1.call hb2
          obtain ⟨q0, q1, q2, q3, q4, q5, q6⟩ := I3.cur.cells
          obtain ⟨r0, r1, r2, r3, r4, r5, r6⟩ := seven_thaw I3.cur
          have I4 := I3.store J
          have HK : Hid (J = Grain.inB (B.take (k + 1)) f t) := by
            show J = _
            rw [HT.out, if_pos ⟨h1, h2⟩]; exact HJ.out
          clear HJ HT I1 I3 hb2 s0 s1 s2 s3 s4 s5 s6 c0 c1 c2 c3 c4 c5 c6 c7 h1 h2 hw1
          go_wp2
          go_roundw
          case rel => exact ⟨k + 1, J, by omega, by go_num, HK, I4⟩
          case measure => simp [intOf]; omega
        · have HK : Hid (s = Grain.inB (B.take (k + 1)) f t) := by
            show s = _
            rw [HT.out, if_neg (by omega)]
          clear HT s0 s1 s2 s3 s4 s5 s6
          go_wp2
          go_roundw
          case rel => exact ⟨k + 1, s, by omega, by go_num, HK, I1⟩
          case measure => simp [intOf]; omega
      · have HK : Hid (s = Grain.inB (B.take (k + 1)) f t) := by
          show s = _
          rw [HT.out, if_neg (by omega)]
        clear HT s0 s1 s2 s3 s4 s5 s6
        go_wp2
        go_roundw
        case rel => exact ⟨k + 1, s, by omega, by go_num, HK, I1⟩
        case measure => simp [intOf]; omega
    · have he : k = n := by omega
      subst he
      have HT := hide (List.take_of_length_le (i := k) (l := B) (by rw [← HN.out]; omega))
      have HJ : Hid (s = Grain.inB B f t) := by
        show s = _
        rw [HS.out, HT.out]
      obtain ⟨s0, s1, s2, s3, s4, s5, s6⟩ := I.cur.cells
      obtain ⟨z0, z1, z2, z3, z4, z5, z6⟩ := seven_cells I.res
      obtain ⟨r0, r1, r2, r3, r4, r5, r6⟩ := seven_thaw I.res
      clear HT HN HS
      go_wp2
      exact bodyPost_ret (v := sv s) (by simp [results, Try.results61, go_sem, sv, z0, z1, z2, z3, z4, z5, z6]) rfl ⟨s, HJ, rfl, below_set7 I.bel (Nat.le_refl _) _ _ _ _ _ _ _⟩

end Go.Proofs.Ytfgablhgjbjbkae

/-
  The walk of the document's Of.
-/
namespace Go.Proofs.Ytfgablhgjbjbkae
open Go.RowKit Go.GrainU

/-- the sum of the document's loop, k samples behind it: count, first and last are told at once -/
def rs (l : List (Int × Int)) (k : Nat) : Grain.Sm :=
  if k = 0 then ⟨l.length, 0, Grain.vl l 0, Grain.vl l 0, Grain.vl l 0, Grain.vl l (l.length - 1), 0⟩
  else ⟨l.length, (Grain.ofN l k).t, (Grain.ofN l k).mn, (Grain.ofN l k).mx, Grain.vl l 0, Grain.vl l (l.length - 1), (Grain.ofN l k).r⟩

theorem ofN_fl (l : List (Int × Int)) : ∀ k : Nat, k + 1 ≤ 1152921504606846976 → (Grain.ofN l (k + 1)).f = Grain.vl l 0 ∧ (Grain.ofN l (k + 1)).l = Grain.vl l k := by
  intro k
  induction k with
  | zero => intro _; rw [Grain.ofN, Grain.ofN, Grain.join_zero_left _ _ rfl]; exact ⟨rfl, rfl⟩
  | succ k ih =>
    intro h
    have ih := ih (by omega)
    have hc := Grain.ofN_c l (k + 1) (by omega)
    rw [Grain.ofN, Grain.join_full _ _ (by omega) (by simp [Grain.one])]
    exact ⟨ih.1, rfl⟩

theorem rs_end (l : List (Int × Int)) (h0 : 0 < l.length) (h1 : l.length ≤ 1152921504606846975) : rs l l.length = Grain.of l := by
  unfold rs Grain.of
  rw [if_neg (by omega)]
  obtain ⟨k, hk⟩ : ∃ k, l.length = k + 1 := ⟨l.length - 1, by omega⟩
  have hc := Grain.ofN_c l l.length (by omega)
  have hf := ofN_fl l k (by omega)
  rw [← hk] at hf
  apply Grain.Sm.ext
  · exact hc.symm
  · rfl
  · rfl
  · rfl
  · exact hf.1.symm
  · show Grain.vl l (l.length - 1) = _; rw [hf.2, hk]; rfl
  · rfl

/-- a sample more, behind the first one -/
theorem rs_next (l : List (Int × Int)) (k : Nat) (hk : k + 1 ≤ 1152921504606846975) :
    rs l (k + 1 + 1) = ⟨(rs l (k + 1)).c, Grain.wr ((rs l (k + 1)).t + Grain.vl l (k + 1)), if Grain.vl l (k + 1) < (rs l (k + 1)).mn then Grain.vl l (k + 1) else (rs l (k + 1)).mn, if (rs l (k + 1)).mx < Grain.vl l (k + 1) then Grain.vl l (k + 1) else (rs l (k + 1)).mx, (rs l (k + 1)).f, (rs l (k + 1)).l, Grain.wr ((rs l (k + 1)).r + Grain.rise (Grain.vl l k) (Grain.vl l (k + 1)))⟩ := by
  have hc := Grain.ofN_c l (k + 1) (by omega)
  have hf := ofN_fl l k (by omega)
  unfold rs
  rw [if_neg (by omega), if_neg (by omega), Grain.ofN, Grain.join_full _ _ (by omega) (by simp [Grain.one])]
  apply Grain.Sm.ext
  · rfl
  · rfl
  · rfl
  · rfl
  · rfl
  · rfl
  · show Grain.wr (Grain.wr ((Grain.ofN l (k + 1)).r + Grain.rise (Grain.ofN l (k + 1)).l (Grain.vl l (k + 1))) + 0) = Grain.wr ((Grain.ofN l (k + 1)).r + Grain.rise (Grain.vl l k) (Grain.vl l (k + 1)))
    rw [hf.2]
    simp only [Grain.wr_eq]
    omega

/-- the first one -/
theorem rs_first (l : List (Int × Int)) (h0 : -9223372036854775808 ≤ Grain.vl l 0) (h1 : Grain.vl l 0 ≤ 9223372036854775807) :
    rs l 1 = ⟨(rs l 0).c, Grain.wr ((rs l 0).t + Grain.vl l 0), (rs l 0).mn, (rs l 0).mx, (rs l 0).f, (rs l 0).l, (rs l 0).r⟩ := by
  unfold rs
  rw [if_neg (by omega), if_pos rfl, show Grain.ofN l 1 = Grain.one (Grain.vl l 0) from by rw [Grain.ofN, Grain.ofN, Grain.join_zero_left _ _ rfl]]
  apply Grain.Sm.ext
  · rfl
  · show Grain.vl l 0 = Grain.wr (0 + Grain.vl l 0); rw [Int.zero_add, Grain.wr_in h0 h1]
  · rfl
  · rfl
  · rfl
  · rfl
  · rfl

theorem OfInv.one {w V : World} {s s' : Grain.Sm} {i : Nat} {z : Value} (I : OfInv w V s) (h : SumAt (V.setCell ⟨w.heap.size + 1, i, none⟩ z) (w.heap.size + 1) s') : OfInv w (V.setCell ⟨w.heap.size + 1, i, none⟩ z) s' :=
  ⟨by unfold SumAt; rw [setCell_far (by omega)]; exact I.res, h, I.bel.setCell (by simp) _⟩
theorem OfInv.tot {w V : World} {s : Grain.Sm} (I : OfInv w V s) (z : Int) : OfInv w (V.setCell ⟨w.heap.size + 1, 1, none⟩ (.int .i64 z)) ⟨s.c, z, s.mn, s.mx, s.f, s.l, s.r⟩ :=
  I.one (by have h := I.cur; unfold SumAt at h ⊢; simp [World.setCell, Array.getElem?_modify, h])
theorem OfInv.min {w V : World} {s : Grain.Sm} (I : OfInv w V s) (z : Int) : OfInv w (V.setCell ⟨w.heap.size + 1, 2, none⟩ (.int .i64 z)) ⟨s.c, s.t, z, s.mx, s.f, s.l, s.r⟩ :=
  I.one (by have h := I.cur; unfold SumAt at h ⊢; simp [World.setCell, Array.getElem?_modify, h])
theorem OfInv.max {w V : World} {s : Grain.Sm} (I : OfInv w V s) (z : Int) : OfInv w (V.setCell ⟨w.heap.size + 1, 3, none⟩ (.int .i64 z)) ⟨s.c, s.t, s.mn, z, s.f, s.l, s.r⟩ :=
  I.one (by have h := I.cur; unfold SumAt at h ⊢; simp [World.setCell, Array.getElem?_modify, h])
theorem OfInv.ris {w V : World} {s : Grain.Sm} (I : OfInv w V s) (z : Int) : OfInv w (V.setCell ⟨w.heap.size + 1, 6, none⟩ (.int .i64 z)) ⟨s.c, s.t, s.mn, s.mx, s.f, s.l, z⟩ :=
  I.one (by have h := I.cur; unfold SumAt at h ⊢; simp [World.setCell, Array.getElem?_modify, h])

set_option maxHeartbeats 1000000 in
theorem rof_none (ao : Option Addr) (cap : Nat) (w : World) :
    Calls Try.prog 60 #[.slice ao 0 cap] w fun e w' => e = .returned (sv Grain.zero) ∧ Below w.heap.size w w' := by
  go_enter Try.func60, Try.ntmps60
  go_wp2
  exact bodyPost_ret (v := sv Grain.zero) (by simp [results, Try.results60, go_sem, sv, Grain.zero]) rfl ⟨rfl, by go_grown⟩

set_option maxHeartbeats 4000000 in
theorem rof_some (l : List (Int × Int)) (b off n cap : Nat) (w : World) (hs : Seg w (some ⟨b, off, none⟩) (scells l)) (hn : n = l.length) (h0 : 0 < n) (hL : n ≤ 1152921504606846975)
    (hv : ∀ j, j < n → -9223372036854775808 ≤ Grain.vl l j ∧ Grain.vl l j ≤ 9223372036854775807) :
    Calls Try.prog 60 #[.slice (some ⟨b, off, none⟩) n cap] w fun e w' => e = .returned (sv (Grain.of l)) ∧ Below w.heap.size w w' := by
  have Hn := hide hn
  have Hv := hide hv
  obtain ⟨b', off', e, hcell⟩ := hs.sample (k := 0) (by omega)
  simp at e
  obtain ⟨rfl, rfl⟩ := e
  have HC := hide hcell
  have hb : b < w.heap.size := World.block_lt_of_cell? w ⟨b, off + 0 * 2, none⟩ (hcell 0 (by omega)).1
  have c0 : w.cell? ⟨b, off + 1, none⟩ = some (.int .i64 (Grain.vl l 0)) := by simpa using (hcell 0 (by omega)).2
  obtain ⟨m, hm⟩ : ∃ m, m = n - 1 := ⟨_, rfl⟩
  have c1 : w.cell? ⟨b, off + m * 2 + 1, none⟩ = some (.int .i64 (Grain.vl l m)) := (hcell m (by omega)).2
  clear hn hv hcell
  have hq : (((n : Nat) : Int) == 0) = false := by simp; omega
  have hn1 : (0 : Int) < ((n : Nat) : Int) := by omega
  have k1 : IntKind.i64.wrap (((n : Nat) : Int) - 1) = ((m : Nat) : Int) := by rw [IntWalk.i64_in _ ⟨by omega, by omega⟩]; omega
  have m1 : (0 : Int) ≤ ((m : Nat) : Int) := by omega
  have m2 : ((m : Nat) : Int) < ((n : Nat) : Int) := by omega
  have m3 : m < n := by omega
  have Hm := hide hm
  clear hm
  obtain ⟨W, hW, F, d0, d1, bel, hWs⟩ : ∃ W, W = w.alloc (.cells #[.int .i64 0, .int .i64 0, .int .i64 0, .int .i64 0, .int .i64 0, .int .i64 0, .int .i64 0] 62) ∧ SumAt W w.heap.size Grain.zero ∧ W.cell? ⟨b, off + 1, none⟩ = some (.int .i64 (Grain.vl l 0)) ∧ W.cell? ⟨b, off + m * 2 + 1, none⟩ = some (.int .i64 (Grain.vl l m)) ∧ Below w.heap.size w W ∧ W.heap.size = w.heap.size + 1 :=
    ⟨_, rfl, heap_alloc_new w _, (World.cell?_alloc_lt _ _ _ hb).trans c0, (World.cell?_alloc_lt _ _ _ hb).trans c1, (Below.refl _ _).alloc (Nat.le_refl _) _, by simp⟩
  have HW := hide hW
  have HWs := hide hWs
  have n1 : ¬ (b = W.heap.size) := by omega
  have n2 : ¬ (W.heap.size = b) := by omega
  clear hW c0 c1 hWs
  go_enter Try.func60, Try.ntmps60
  go_wp2_with fail
  rw [← HW.out]
  go_region_held3 (fun w' => w'.cell? ⟨b, off + 1, none⟩ = some (.int .i64 (Grain.vl l 0)) ∧ w'.cell? ⟨b, off + m * 2 + 1, none⟩ = some (.int .i64 (Grain.vl l m))) (go_keep) (fail)
  have IS : Hid (OfInv w (W.alloc (.cells #[.int .i64 n, .int .i64 0, .int .i64 (Grain.vl l 0), .int .i64 (Grain.vl l 0), .int .i64 (Grain.vl l 0), .int .i64 (Grain.vl l m), .int .i64 0] 62)).drew (rs l 0)) := by
    have e : rs l 0 = ⟨n, 0, Grain.vl l 0, Grain.vl l 0, Grain.vl l 0, Grain.vl l m, 0⟩ := by unfold rs; rw [if_pos rfl, Hm.out, Hn.out]
    rw [e]
    refine ⟨?_, ?_, below_drewN (bel.alloc bel.size _) 1⟩
    · show (W.alloc _).heap[_]? = _
      rw [Below.heap_alloc _ _ _ (by rw [HWs.out]; omega)]; exact F
    · have := heap_alloc_new W (.cells #[.int .i64 n, .int .i64 0, .int .i64 (Grain.vl l 0), .int .i64 (Grain.vl l 0), .int .i64 (Grain.vl l 0), .int .i64 (Grain.vl l m), .int .i64 0] 62)
      rw [HWs.out] at this
      exact this
  clear F d0 d1 bel n1 n2 k1 m1 m2 m3
  go_wp2
  rw [HWs.out]
  go_loopw [34] (fun i wr => ∃ (k : Nat) (s : Grain.Sm), k ≤ n ∧ i = .int .i64 k ∧ Hid (s = rs l k) ∧ OfInv w wr s) (fun i _ => n - (intOf i).toNat)
  case atStart => exact ⟨0, _, Nat.zero_le _, rfl, rfl, IS.out⟩
  case round =>
    obtain ⟨k, s, hk, rfl, HS, I⟩ := hrel
    by_cases hlt : k < n
    · have hkl : k < l.length := by rw [← Hn.out]; exact hlt
      have c0 : wr.cell? ⟨b, off + k * 2, none⟩ = some (.int .i64 (Grain.tm l k)) := (I.bel.cell (by exact hb)).trans (HC.out k hkl).1
      have c1 : wr.cell? ⟨b, off + k * 2 + 1, none⟩ = some (.int .i64 (Grain.vl l k)) := (I.bel.cell (by exact hb)).trans (HC.out k hkl).2
      have rng := Hv.out k hlt
      have lD := lt_of_block I.cur
      obtain ⟨s0, s1, s2, s3, s4, s5, s6⟩ := I.cur.cells
      obtain ⟨f0, f1, f2, f3, f4, f5, f6⟩ := seven_thaw I.cur
      have nx : ¬ (wr.heap.size = w.heap.size + 1) := by omega
      have ny : ¬ (w.heap.size + 1 = wr.heap.size) := by omega
      have I1 := I.tot (wrap64 (s.t + Grain.vl l k))
      by_cases hk0 : k = 0
      · have e0 : s.mn = Grain.vl l k ∧ s.mx = Grain.vl l k := by rw [HS.out, hk0]; exact ⟨rfl, rfl⟩
        obtain ⟨V, hV, IV, _, _, _⟩ := I1.next (.int .i64 (Grain.tm l k)) (.int .i64 (Grain.vl l k))
        rw [hV] at IV
        have HN : Hid ((⟨s.c, wrap64 (s.t + Grain.vl l k), s.mn, s.mx, s.f, s.l, s.r⟩ : Grain.Sm) = rs l (k + 1)) := by
          show (⟨s.c, wrap64 (s.t + Grain.vl l k), s.mn, s.mx, s.f, s.l, s.r⟩ : Grain.Sm) = rs l (k + 1)
          subst hk0
          rw [rs_first l rng.1 rng.2, HS.out]
          simp [Grain.wr, IntWalk.i64_left]
        have t1 : decide (Grain.vl l k < s.mn) = false := by rw [e0.1]; simp
        have t2 : decide (s.mx < Grain.vl l k) = false := by rw [e0.2]; simp
        have hk0' : k ≤ 0 := by omega
        clear e0 hV I1 hk0 I
        go_wp2
        go_roundw
        case rel => exact ⟨k + 1, _, by omega, by go_num, HN, IV⟩
        case measure => simp [intOf]; omega
      · obtain ⟨j, hj⟩ : ∃ j, k = j + 1 := ⟨k - 1, by omega⟩
        have Hj := hide hj
        have hp : 0 < k := by omega
        have kk : IntKind.i64.wrap (((k : Nat) : Int) - 1) = ((j : Nat) : Int) := by rw [IntWalk.i64_in _ ⟨by omega, by omega⟩]; omega
        have j1 : (0 : Int) ≤ ((j : Nat) : Int) := by omega
        have j2 : ((j : Nat) : Int) < ((n : Nat) : Int) := by omega
        have j3 : j < n := by omega
        have HNX : Hid (∀ mn mx r : Int, mn = (if Grain.vl l k < s.mn then Grain.vl l k else s.mn) → mx = (if s.mx < Grain.vl l k then Grain.vl l k else s.mx) → r = IntKind.i64.wrap (s.r + Grain.rise (Grain.vl l j) (Grain.vl l k)) → (⟨s.c, wrap64 (s.t + Grain.vl l k), mn, mx, s.f, s.l, r⟩ : Grain.Sm) = rs l (k + 1)) := by
          intro mn mx r h1 h2 h3
          rw [h1, h2, h3, Hj.out, rs_next l j (by omega), HS.out, Hj.out]
          simp [Grain.wr, IntWalk.i64_left]
        clear hj hk0
        have hjl : j < l.length := by rw [← Hn.out]; exact j3
        by_cases q1 : Grain.vl l k < s.mn
        · by_cases q2 : s.mx < Grain.vl l k
          · skip
            have HQ : Hid (∀ r : Int, r = IntKind.i64.wrap (s.r + Grain.rise (Grain.vl l j) (Grain.vl l k)) → (⟨s.c, wrap64 (s.t + Grain.vl l k), Grain.vl l k, Grain.vl l k, s.f, s.l, r⟩ : Grain.Sm) = rs l (k + 1)) := fun r hr => HNX.out _ _ r (by simp [q1]) (by simp [q2]) hr
            obtain ⟨U, hU, IU, G, _, _⟩ := ((I1.min (Grain.vl l k)).max (Grain.vl l k)).next (.int .i64 (Grain.tm l k)) (.int .i64 (Grain.vl l k))
            have x1 : U.cell? ⟨wr.heap.size, 1, none⟩ = some (.int .i64 (Grain.vl l k)) := by
              have := (two_cells G).2.1
              simpa using this
            have lc : U.cell? ⟨b, off + j * 2 + 1, none⟩ = some (.int .i64 (Grain.vl l j)) := (IU.bel.cell (by exact hb)).trans (HC.out j (by omega)).2
            have u6 := IU.cur.cells.2.2.2.2.2.2
            have g6 := (seven_thaw IU.cur).2.2.2.2.2.2
            have HQ' := hide (HQ.out (wrap64 (s.r + Grain.rise (Grain.vl l j) (Grain.vl l k))) (by simp [IntWalk.i64_left]))
            have IR := (IU.ris (wrap64 (s.r + Grain.rise (Grain.vl l j) (Grain.vl l k)))).drew
            have HU := hide hU
            clear HQ
            clear hU G I I1 HNX
            go_wp2_with fail
            rw [← HU.out]
            clear s0 s1 s2 s3 s4 s5 s6 f0 f1 f2 f3 f4 f5 f6 c0 c1 q1 q2 HU
            go_region_with
              (first
                | (go_at_call 99; refine (up_any _ _ _).mono ?_; rintro e w' ⟨rfl, rfl⟩))
            all_goals
              go_wp2
              go_roundw
              case rel => exact ⟨k + 1, _, by omega, by go_num, HQ', IR⟩
              case measure => simp [intOf]; omega
          · skip
            have HQ : Hid (∀ r : Int, r = IntKind.i64.wrap (s.r + Grain.rise (Grain.vl l j) (Grain.vl l k)) → (⟨s.c, wrap64 (s.t + Grain.vl l k), Grain.vl l k, s.mx, s.f, s.l, r⟩ : Grain.Sm) = rs l (k + 1)) := fun r hr => HNX.out _ _ r (by simp [q1]) (by simp [q2]) hr
            obtain ⟨U, hU, IU, G, _, _⟩ := (I1.min (Grain.vl l k)).next (.int .i64 (Grain.tm l k)) (.int .i64 (Grain.vl l k))
            have x1 : U.cell? ⟨wr.heap.size, 1, none⟩ = some (.int .i64 (Grain.vl l k)) := by
              have := (two_cells G).2.1
              simpa using this
            have lc : U.cell? ⟨b, off + j * 2 + 1, none⟩ = some (.int .i64 (Grain.vl l j)) := (IU.bel.cell (by exact hb)).trans (HC.out j (by omega)).2
            have u6 := IU.cur.cells.2.2.2.2.2.2
            have g6 := (seven_thaw IU.cur).2.2.2.2.2.2
            have HQ' := hide (HQ.out (wrap64 (s.r + Grain.rise (Grain.vl l j) (Grain.vl l k))) (by simp [IntWalk.i64_left]))
            have IR := (IU.ris (wrap64 (s.r + Grain.rise (Grain.vl l j) (Grain.vl l k)))).drew
            have HU := hide hU
            clear HQ
            clear hU G I I1 HNX
            go_wp2_with fail
            rw [← HU.out]
            clear s0 s1 s2 s3 s4 s5 s6 f0 f1 f2 f3 f4 f5 f6 c0 c1 q1 q2 HU
            go_region_with
              (first
                | (go_at_call 99; refine (up_any _ _ _).mono ?_; rintro e w' ⟨rfl, rfl⟩))
            all_goals
              go_wp2
              go_roundw
              case rel => exact ⟨k + 1, _, by omega, by go_num, HQ', IR⟩
              case measure => simp [intOf]; omega
        · by_cases q2 : s.mx < Grain.vl l k
          · skip
            have HQ : Hid (∀ r : Int, r = IntKind.i64.wrap (s.r + Grain.rise (Grain.vl l j) (Grain.vl l k)) → (⟨s.c, wrap64 (s.t + Grain.vl l k), s.mn, Grain.vl l k, s.f, s.l, r⟩ : Grain.Sm) = rs l (k + 1)) := fun r hr => HNX.out _ _ r (by simp [q1]) (by simp [q2]) hr
            obtain ⟨U, hU, IU, G, _, _⟩ := (I1.max (Grain.vl l k)).next (.int .i64 (Grain.tm l k)) (.int .i64 (Grain.vl l k))
            have x1 : U.cell? ⟨wr.heap.size, 1, none⟩ = some (.int .i64 (Grain.vl l k)) := by
              have := (two_cells G).2.1
              simpa using this
            have lc : U.cell? ⟨b, off + j * 2 + 1, none⟩ = some (.int .i64 (Grain.vl l j)) := (IU.bel.cell (by exact hb)).trans (HC.out j (by omega)).2
            have u6 := IU.cur.cells.2.2.2.2.2.2
            have g6 := (seven_thaw IU.cur).2.2.2.2.2.2
            have HQ' := hide (HQ.out (wrap64 (s.r + Grain.rise (Grain.vl l j) (Grain.vl l k))) (by simp [IntWalk.i64_left]))
            have IR := (IU.ris (wrap64 (s.r + Grain.rise (Grain.vl l j) (Grain.vl l k)))).drew
            have HU := hide hU
            clear HQ
            clear hU G I I1 HNX
            go_wp2_with fail
            rw [← HU.out]
            clear s0 s1 s2 s3 s4 s5 s6 f0 f1 f2 f3 f4 f5 f6 c0 c1 q1 q2 HU
            go_region_with
              (first
                | (go_at_call 99; refine (up_any _ _ _).mono ?_; rintro e w' ⟨rfl, rfl⟩))
            all_goals
              go_wp2
              go_roundw
              case rel => exact ⟨k + 1, _, by omega, by go_num, HQ', IR⟩
              case measure => simp [intOf]; omega
          · skip
            have HQ : Hid (∀ r : Int, r = IntKind.i64.wrap (s.r + Grain.rise (Grain.vl l j) (Grain.vl l k)) → (⟨s.c, wrap64 (s.t + Grain.vl l k), s.mn, s.mx, s.f, s.l, r⟩ : Grain.Sm) = rs l (k + 1)) := fun r hr => HNX.out _ _ r (by simp [q1]) (by simp [q2]) hr
            obtain ⟨U, hU, IU, G, _, _⟩ := (I1).next (.int .i64 (Grain.tm l k)) (.int .i64 (Grain.vl l k))
            have x1 : U.cell? ⟨wr.heap.size, 1, none⟩ = some (.int .i64 (Grain.vl l k)) := by
              have := (two_cells G).2.1
              simpa using this
            have lc : U.cell? ⟨b, off + j * 2 + 1, none⟩ = some (.int .i64 (Grain.vl l j)) := (IU.bel.cell (by exact hb)).trans (HC.out j (by omega)).2
            have u6 := IU.cur.cells.2.2.2.2.2.2
            have g6 := (seven_thaw IU.cur).2.2.2.2.2.2
            have HQ' := hide (HQ.out (wrap64 (s.r + Grain.rise (Grain.vl l j) (Grain.vl l k))) (by simp [IntWalk.i64_left]))
            have IR := (IU.ris (wrap64 (s.r + Grain.rise (Grain.vl l j) (Grain.vl l k)))).drew
            have HU := hide hU
            clear HQ
            clear hU G I I1 HNX
            go_wp2_with fail
            rw [← HU.out]
            clear s0 s1 s2 s3 s4 s5 s6 f0 f1 f2 f3 f4 f5 f6 c0 c1 q1 q2 HU
            go_region_with
              (first
                | (go_at_call 99; refine (up_any _ _ _).mono ?_; rintro e w' ⟨rfl, rfl⟩))
            all_goals
              go_wp2
              go_roundw
              case rel => exact ⟨k + 1, _, by omega, by go_num, HQ', IR⟩
              case measure => simp [intOf]; omega
    · have he : k = n := by omega
      subst he
      have HE : Hid (s = Grain.of l) := by
        show s = Grain.of l
        rw [HS.out, Hn.out]
        exact rs_end l (by rw [← Hn.out]; exact h0) (by rw [← Hn.out]; exact hL)
      obtain ⟨s0, s1, s2, s3, s4, s5, s6⟩ := I.cur.cells
      obtain ⟨z0, z1, z2, z3, z4, z5, z6⟩ := seven_cells I.res
      obtain ⟨r0, r1, r2, r3, r4, r5, r6⟩ := seven_thaw I.res
      clear HS
      go_wp2
      exact bodyPost_ret (v := sv s) (by simp [results, Try.results60, go_sem, sv, z0, z1, z2, z3, z4, z5, z6]) rfl ⟨by rw [HE.out], below_set7 I.bel (Nat.le_refl _) _ _ _ _ _ _ _⟩

end Go.Proofs.Ytfgablhgjbjbkae

/-
  The walk of the document's own Read.
-/
namespace Grain
theorem rawB_take {l : List (Int × Int)} {k : Nat} (h : k < l.length) : rawB (l.take (k + 1)) = rawB (l.take k) ++ [⟨tm l k, one (vl l k)⟩] := by rw [take_tm h, rawB_snoc]
theorem rawB_len (l : List (Int × Int)) : (rawB l).length = l.length := by simp [rawB]
theorem winB_take {B : List Bk} {k : Nat} (f t : Int) (h : k < B.length) : (winB (B.take (k + 1)) f t).length = (winB (B.take k) f t).length + (if f ≤ (bk B k).a ∧ (bk B k).a < t then 1 else 0) := by
  rw [take_bk h, winB, winB, List.filter_append]
  by_cases c : f ≤ (bk B k).a ∧ (bk B k).a < t
  · rw [if_pos c, List.filter_cons_of_pos (by simpa using c)]; simp
  · rw [if_neg c, List.filter_cons_of_neg (by simpa using c)]; simp
def accB (B : List Bk) (f t : Int) (a : Sm) : Sm := B.foldl (fun acc b => if f ≤ b.a ∧ b.a < t then join acc b.s else acc) a
theorem accB_take {B : List Bk} {k : Nat} (f t : Int) (a : Sm) (h : k < B.length) : accB (B.take (k + 1)) f t a = if f ≤ (bk B k).a ∧ (bk B k).a < t then join (accB (B.take k) f t a) (bk B k).s else accB (B.take k) f t a := by
  unfold accB
  rw [take_bk h, List.foldl_append]; rfl
end Grain
namespace Go.GrainU
open Go.RowKit
theorem seg_set7 {w : World} {B : Nat} {ao : Option Addr} {xs : List Value} (h : Seg w ao xs) (hne : xs ≠ [] → ∀ b off, ao = some ⟨b, off, none⟩ → b ≠ B) (v0 v1 v2 v3 v4 v5 v6 : Value) :
    Seg (((((((w.setCell ⟨B, 0, none⟩ v0).setCell ⟨B, 1, none⟩ v1).setCell ⟨B, 2, none⟩ v2).setCell ⟨B, 3, none⟩ v3).setCell ⟨B, 4, none⟩ v4).setCell ⟨B, 5, none⟩ v5).setCell ⟨B, 6, none⟩ v6) ao xs := by
  rcases h with h | ⟨b, off, rfl, hc⟩
  · exact .inl h
  · by_cases hx : xs = []
    · exact .inl hx
    · have hb := hne hx b off rfl
      refine .inr ⟨b, off, rfl, fun j hj => ?_⟩
      rw [← hc j hj]
      have e : (((((((w.setCell ⟨B, 0, none⟩ v0).setCell ⟨B, 1, none⟩ v1).setCell ⟨B, 2, none⟩ v2).setCell ⟨B, 3, none⟩ v3).setCell ⟨B, 4, none⟩ v4).setCell ⟨B, 5, none⟩ v5).setCell ⟨B, 6, none⟩ v6).heap[b]? = w.heap[b]? := by
        rw [setCell_far hb, setCell_far hb, setCell_far hb, setCell_far hb, setCell_far hb, setCell_far hb, setCell_far hb]
      simp [World.cell?, e]
theorem far7 {w : World} {B C : Nat} {o : Option Obj} (h : w.heap[C]? = o) (hn : C ≠ B) (v0 v1 v2 v3 v4 v5 v6 : Value) :
    (((((((w.setCell ⟨B, 0, none⟩ v0).setCell ⟨B, 1, none⟩ v1).setCell ⟨B, 2, none⟩ v2).setCell ⟨B, 3, none⟩ v3).setCell ⟨B, 4, none⟩ v4).setCell ⟨B, 5, none⟩ v5).setCell ⟨B, 6, none⟩ v6).heap[C]? = o := by
  rw [setCell_far hn, setCell_far hn, setCell_far hn, setCell_far hn, setCell_far hn, setCell_far hn, setCell_far hn]; exact h
end Go.GrainU
namespace Go.Proofs.Ytfgablhgjbjbkae
open Go.RowKit Go.GrainU

theorem own_at3 {w : World} {base e size n c : Nat} {ao : Option Addr} {xs : List Value} (h : w.ownsRow base e size (.slice ao n c) n xs) {b off : Nat} (ha : ao = some ⟨b, off, none⟩) : base ≤ b := by
  subst ha
  rcases h.2 with ⟨h2, _⟩ | ⟨g, cap, cur, hv, hg, _⟩
  · simp at h2
  · simp at hv
    obtain ⟨⟨rfl, _⟩, _⟩ := hv
    exact hg

theorem seg_lt3 {w : World} {b off : Nat} {xs : List Value} (h : Seg w (some ⟨b, off, none⟩) xs) (hx : xs ≠ []) : b < w.heap.size := by
  rcases h with h | ⟨b', off', e, hc⟩
  · exact absurd h hx
  · simp at e
    obtain ⟨rfl, rfl⟩ := e
    exact Seg.block_lt hc hx

theorem kc_one (k : Grain.Bk) : ∀ u ∈ kc k, u.oneCell' = true := by
  intro u hu
  simp [kc] at hu
  rcases hu with rfl | rfl | rfl | rfl | rfl | rfl | rfl | rfl <;> rfl

theorem eight_seg (w : World) (v0 v1 v2 v3 v4 v5 v6 v7 : Value) (t : TypeId) : Seg (w.alloc (.cells #[v0, v1, v2, v3, v4, v5, v6, v7] t)) (some ⟨w.heap.size, 0, none⟩) [v0, v1, v2, v3, v4, v5, v6, v7] := by
  have h := heap_alloc_new w (.cells #[v0, v1, v2, v3, v4, v5, v6, v7] t)
  refine .inr ⟨w.heap.size, 0, rfl, fun j hj => ?_⟩
  have hj2 : j < 8 := hj
  rw [cell_of_row _ w.heap.size _ _ t (0, 0) h]
  rcases (show j = 0 ∨ j = 1 ∨ j = 2 ∨ j = 3 ∨ j = 4 ∨ j = 5 ∨ j = 6 ∨ j = 7 by omega) with rfl | rfl | rfl | rfl | rfl | rfl | rfl | rfl <;> rfl

theorem rone_any (t v : Int) (b : Nat) (w : World) (hs : Seg w (some ⟨b, 0, none⟩) (scells [(t, v)])) (h1 : -1000000000 ≤ v) (h2 : v ≤ 1000000000) :
    Calls Try.prog 60 #[.slice (some ⟨b, 0, none⟩) 1 1] w fun e w' => e = .returned (.agg #[.int .i64 1, .int .i64 v, .int .i64 v, .int .i64 v, .int .i64 v, .int .i64 v, .int .i64 0]) ∧ Below w.heap.size w w' := by
  refine (rof_some [(t, v)] b 0 1 1 w hs rfl (by decide) (by decide) (fun j hj => ?_)).mono ?_
  · obtain rfl : j = 0 := by omega
    simp [Grain.vl]; omega
  · rintro e w1 ⟨rfl, hb⟩
    exact ⟨rfl, hb⟩

set_option maxRecDepth 20000 in
set_option maxHeartbeats 16000000 in
theorem rread_any (x : ShT) (l : List Grain.Pt) (ao : Option Addr) (n c : Nat) (w : World) (hx : ShIn w x) (hs : Seg w ao (pcells l)) (hn : n = l.length) (hL : n ≤ 10000000000000) :
    Calls Try.prog 34 #[x.v, .slice ao n c] w fun e w' => ∃ (J : Grain.Sm) (N E : Int), e = .returned (.tuple #[.agg #[.int .i64 J.c, .int .i64 J.t, .int .i64 J.mn, .int .i64 J.mx, .int .i64 J.f, .int .i64 J.l, .int .i64 J.r], .int .i64 N, .int .i64 E]) ∧ Hid (Grain.read x.s l = (J, N, E)) ∧ Below w.heap.size w w' := by
  obtain ⟨i0, hi, hz0, hz1, hz2⟩ := info_parts Try.infoBucket
  have HN := hide hn
  clear hn
  obtain ⟨X, hX⟩ : ∃ X, X = w.heap.size := ⟨_, rfl⟩
  obtain ⟨V, hV⟩ : ∃ V, V = (w.alloc (so x)).alloc (.cells #[.int .i64 0, .int .i64 0, .int .i64 0, .int .i64 0, .int .i64 0, .int .i64 0, .int .i64 0] 62) := ⟨_, rfl⟩
  have bel : Below w.heap.size w V := by rw [hV]; exact ((Below.refl _ _).alloc (Nat.le_refl _) _).alloc (by simp) _
  have S0 : V.heap[X]? = some (so x) := by rw [hV, hX, Below.heap_alloc _ _ _ (by simp)]; exact heap_alloc_new w _
  have Z0 : SumAt V (X + 1) Grain.zero := by
    show V.heap[X + 1]? = _
    rw [hV, hX]; have := heap_alloc_new (w.alloc (so x)) (.cells #[.int .i64 0, .int .i64 0, .int .i64 0, .int .i64 0, .int .i64 0, .int .i64 0, .int .i64 0] 62); rwa [World.size_alloc] at this
  have hxV := hx.below bel
  have hsV := hs.below bel
  have HV : Hid (V = (w.alloc (.cells #[.slice x.a0 x.s.se.length x.c0, .slice x.a1 x.s.ra.length x.c1, .slice x.a2 x.s.fi.length x.c2, .slice x.a3 x.s.co.length x.c3, .int .i64 x.s.rf, .int .i64 x.s.ff, .int .i64 x.s.ft, .int .i64 x.s.cf, .int .i64 x.s.ct] 44)).alloc (.cells #[.int .i64 0, .int .i64 0, .int .i64 0, .int .i64 0, .int .i64 0, .int .i64 0, .int .i64 0] 62)) := hV
  have HX := hide hX
  have Hv : Hid (x.v = .agg #[.slice x.a0 x.s.se.length x.c0, .slice x.a1 x.s.ra.length x.c1, .slice x.a2 x.s.fi.length x.c2, .slice x.a3 x.s.co.length x.c3, .int .i64 x.s.rf, .int .i64 x.s.ff, .int .i64 x.s.ft, .int .i64 x.s.cf, .int .i64 x.s.ct]) := rfl
  have HXW := hide hx
  obtain ⟨E, hE⟩ : ∃ E, E = Grain.swrong x.s := ⟨_, rfl⟩
  have HE := hide hE
  clear hV hX hE hx hs
  rw [Hv.out]
  go_enter Try.func34, Try.ntmps34
  go_wp2_with fail
  rw [← HV.out, ← Hv.out]
  refine (rshwrong_any x V hxV).mono ?_
  rintro e w1 ⟨rfl, hb1⟩
  rw [← HE.out, ← HX.out]
  have bel1 : Below w.heap.size w w1 := below_pl hb1 bel
  have S1 := below_block hb1 S0
  have Z1 := Z0.below hb1
  have hx1 := hxV.below hb1
  have hs1 := hsV.below hb1
  clear hb1 S0 Z0 hxV hsV bel
  by_cases hw : E = 0
  · subst hw
    have sr := (Grain.sr_iff x.s).1 HE.out.symm
    have HSR := hide sr
    obtain ⟨B, hB⟩ : ∃ B, B = w1.heap.size := ⟨_, rfl⟩
    obtain ⟨U, hU⟩ : ∃ U, U = w1.alloc (.cells #[.int .i64 0, .int .i64 0, .int .i64 0, .int .i64 0, .int .i64 0, .int .i64 0, .int .i64 0] 62) := ⟨_, rfl⟩
    have A0 : SumAt U B Grain.zero := by show U.heap[B]? = _; rw [hU, hB]; exact heap_alloc_new w1 _
    have belU : Below w1.heap.size w1 U := by rw [hU]; exact (Below.refl _ _).alloc (Nat.le_refl _) _
    have wB : w.heap.size ≤ B := by rw [hB]; exact bel1.size
    have XB : X + 1 < B := by rw [hB]; exact lt_of_block Z1
    have HU := hide hU
    have HBB := hide hB
    have bB : w1.heap.size ≤ B := by omega
    clear hU hB sr
    go_wp2
    rw [← HU.out, ← HBB.out]
    go_loopw [9, 25] (fun s9 s25 wr => ∃ (k N : Nat) (s : Grain.Sm), k ≤ n ∧ s9 = .int .i64 N ∧ s25 = .int .i64 k ∧ N ≤ 500 * k ∧ SumAt wr B s ∧ Below w1.heap.size w1 wr ∧ Hid (s = Grain.rdS x.s (l.take k)) ∧ Hid (N = Grain.rdN x.s (l.take k)) ∧ Hid (∀ j, j < k → Grain.okp x.s l j = true)) (fun _ s25 _ => n - (intOf s25).toNat)
    case atStart => exact ⟨0, 0, Grain.zero, Nat.zero_le _, rfl, rfl, by omega, A0, belU, rfl, rfl, (fun j hj => absurd hj (Nat.not_lt_zero _) : ∀ j, j < 0 → Grain.okp x.s l j = true)⟩
    case round =>
      clear A0 belU
      obtain ⟨k, N, s, hk, rfl, rfl, hNk, A1, belr, H1, H2, HO⟩ := hrel
      by_cases hlt : k < n
      · have hkl : k < l.length := by rw [← HN.out]; exact hlt
        obtain ⟨bb, off, rfl, hbl, hcell⟩ := seg_part hs1 hkl
        obtain ⟨P, hP⟩ : ∃ P, P = Grain.pt l k := ⟨_, rfl⟩
        have q := (hcell k hkl).below belr hbl
        rw [← hP] at q
        obtain ⟨c0, c1, c2⟩ := q
        obtain ⟨Q, hQ⟩ : ∃ Q, Q = wr.heap.size := ⟨_, rfl⟩
        obtain ⟨W, hW⟩ : ∃ W, W = wr.alloc (.cells #[.int .i64 P.k, .int .i64 P.f, .int .i64 P.t] 112) := ⟨_, rfl⟩
        have hbW : Below wr.heap.size wr W := by rw [hW]; exact (Below.refl _ _).alloc (Nat.le_refl _) _
        have P0 : W.heap[Q]? = some (.cells #[.int .i64 P.k, .int .i64 P.f, .int .i64 P.t] 112 (0, 0)) := by rw [hW, hQ]; exact heap_alloc_new wr _
        have belW : Below w1.heap.size w1 W := below_pl hbW belr
        have A2 := A1.below hbW
        have S2 := below_block belW S1
        have BQ : B < Q := by rw [hQ]; exact lt_of_block A1
        have HW := hide hW
        have HQ := hide hQ
        have HP := hide hP
        have HCell := hide hcell
        have HKL := hide hkl
        obtain ⟨m, hm⟩ : ∃ m, m = Grain.may x.s P := ⟨_, rfl⟩
        have HM := hide hm
        obtain ⟨b', hb'⟩ : ∃ b', b' = !Grain.okp x.s l k := ⟨_, rfl⟩
        have HB' := hide hb'
        have hBr : B < wr.heap.size := lt_of_block A1
        clear hW hQ hP hcell hkl hm hb' hbW A1 belr
        go_upto_region 9 with fail
        rw [← HW.out, ← HQ.out]
        clear c0 c1 c2 HW HQ hBr
        obtain ⟨x0, x1, x2, x3, x4, x5, x6, x7, x8⟩ := nine_cells S2
        obtain ⟨y0, y1, y2⟩ := three3 P0
        have Xl : X < W.heap.size := lt_of_block S2
        have Yl : Q < W.heap.size := lt_of_block P0
        go_cut [48] from 30 to 49 (fun v wx => v = .bool b' ∧ Below W.heap.size W wx)
        case first =>
          cases m
          · have e : b' = true := by rw [HB'.out, Grain.okp, ← HP.out, ← HM.out]; rfl
            subst e
            have HS : Hid (∀ w', Below W.heap.size W w' → w'.cell? ⟨X, 0, none⟩ = some (.slice x.a0 x.s.se.length x.c0) ∧ w'.cell? ⟨X, 1, none⟩ = some (.slice x.a1 x.s.ra.length x.c1) ∧ w'.cell? ⟨X, 2, none⟩ = some (.slice x.a2 x.s.fi.length x.c2) ∧ w'.cell? ⟨X, 3, none⟩ = some (.slice x.a3 x.s.co.length x.c3) ∧ w'.cell? ⟨X, 4, none⟩ = some (.int .i64 x.s.rf) ∧ w'.cell? ⟨X, 5, none⟩ = some (.int .i64 x.s.ff) ∧ w'.cell? ⟨X, 6, none⟩ = some (.int .i64 x.s.ft) ∧ w'.cell? ⟨X, 7, none⟩ = some (.int .i64 x.s.cf) ∧ w'.cell? ⟨X, 8, none⟩ = some (.int .i64 x.s.ct) ∧ w'.cell? ⟨Q, 0, none⟩ = some (.int .i64 P.k) ∧ w'.cell? ⟨Q, 1, none⟩ = some (.int .i64 P.f) ∧ w'.cell? ⟨Q, 2, none⟩ = some (.int .i64 P.t)) := fun w' hb' => ⟨(hb'.cell (by exact Xl)).trans x0, (hb'.cell (by exact Xl)).trans x1, (hb'.cell (by exact Xl)).trans x2, (hb'.cell (by exact Xl)).trans x3, (hb'.cell (by exact Xl)).trans x4, (hb'.cell (by exact Xl)).trans x5, (hb'.cell (by exact Xl)).trans x6, (hb'.cell (by exact Xl)).trans x7, (hb'.cell (by exact Xl)).trans x8, (hb'.cell (by exact Yl)).trans y0, (hb'.cell (by exact Yl)).trans y1, (hb'.cell (by exact Yl)).trans y2⟩
            have R1 : Below W.heap.size W W.drew := below_drewN (Below.refl _ _) 1
            clear x0 x1 x2 x3 x4 x5 x6 x7 x8 y0 y1 y2
            obtain ⟨x0, x1, x2, x3, x4, x5, x6, x7, x8, y0, y1, y2⟩ := HS.out _ R1
            refine wp_region_any (by kernel_rfl) ?_
            try (change wpAny _ _ _ _ _ _ _ (World.drew _))
            refine wpAny_ready (rs := [0, 1]) (by kernel_rfl) (by simp) ?_
            refine AllReady.cons rfl (fun K hK => ?_) (AllReady.cons rfl (fun K hK => ?_) AllReady.nil)
            · go_simp
              refine hK _ _ ?_
              clear hK K
              refine wpAny_ready (rs := [1]) (by kernel_rfl) (by simp) ?_
              refine AllReady.cons rfl (fun K hK => ?_) AllReady.nil
              go_simp
              refine hK _ _ ?_
              clear hK K
              clear x0 x1 x2 x3 x4 x5 x6 x7 x8 y0 y1 y2
              refine wpAny_ready (rs := [2]) (by kernel_rfl) (by simp) ?_
              refine AllReady.cons rfl (fun K hK => ?_) AllReady.nil
              go_simp
              go_wp2_with (first | (go_at_call 74; refine (rmay_any x.s _ _ _ _ P false _ HM.out).mono ?_; rintro e w9 ⟨rfl, hb9⟩; have R2 := below_pl hb9 R1; obtain ⟨x0, x1, x2, x3, x4, x5, x6, x7, x8, y0, y1, y2⟩ := HS.out _ R2; clear hb9))
              refine wpAny_ready (rs := [3]) (by kernel_rfl) (by simp) ?_
              refine AllReady.cons rfl (fun K hK => ?_) AllReady.nil
              go_simp
              refine hK _ _ ?_
              clear hK K
              refine wpAny_ready (rs := [4]) (by kernel_rfl) (by simp) ?_
              refine AllReady.cons rfl (fun K hK => ?_) AllReady.nil
              go_simp
              refine hK _ _ ?_
              clear hK K
              refine wpAny_skips (by kernel_rfl) (fun _ _ _ _ h => h) [(5, 35), (6, 36), (7, 37), (8, 38), (9, 39), (10, 40), (11, 41), (12, 42), (13, 43), (14, 44), (15, 45), (16, 46), (17, 47)] 1 14 _ _ _ rfl (by kernel_rfl) ?_
              simp only [skipAct, skipSet]
              refine wpAny_ready (rs := [18]) (by kernel_rfl) (by simp) ?_
              refine AllReady.cons rfl (fun K hK => ?_) AllReady.nil
              go_simp
              refine hK _ _ ?_
              clear hK K
              refine wpAny_done (by kernel_rfl) ?_ _
              go_wp2
              go_meet
              exact ⟨rfl, R2⟩
            · go_simp
              refine hK _ _ ?_
              clear hK K
              refine wpAny_ready (rs := [0]) (by kernel_rfl) (by simp) ?_
              refine AllReady.cons rfl (fun K hK => ?_) AllReady.nil
              go_simp
              refine hK _ _ ?_
              clear hK K
              clear x0 x1 x2 x3 x4 x5 x6 x7 x8 y0 y1 y2
              refine wpAny_ready (rs := [2]) (by kernel_rfl) (by simp) ?_
              refine AllReady.cons rfl (fun K hK => ?_) AllReady.nil
              go_simp
              go_wp2_with (first | (go_at_call 74; refine (rmay_any x.s _ _ _ _ P false _ HM.out).mono ?_; rintro e w9 ⟨rfl, hb9⟩; have R2 := below_pl hb9 R1; obtain ⟨x0, x1, x2, x3, x4, x5, x6, x7, x8, y0, y1, y2⟩ := HS.out _ R2; clear hb9))
              refine wpAny_ready (rs := [3]) (by kernel_rfl) (by simp) ?_
              refine AllReady.cons rfl (fun K hK => ?_) AllReady.nil
              go_simp
              refine hK _ _ ?_
              clear hK K
              refine wpAny_ready (rs := [4]) (by kernel_rfl) (by simp) ?_
              refine AllReady.cons rfl (fun K hK => ?_) AllReady.nil
              go_simp
              refine hK _ _ ?_
              clear hK K
              refine wpAny_skips (by kernel_rfl) (fun _ _ _ _ h => h) [(5, 35), (6, 36), (7, 37), (8, 38), (9, 39), (10, 40), (11, 41), (12, 42), (13, 43), (14, 44), (15, 45), (16, 46), (17, 47)] 1 14 _ _ _ rfl (by kernel_rfl) ?_
              simp only [skipAct, skipSet]
              refine wpAny_ready (rs := [18]) (by kernel_rfl) (by simp) ?_
              refine AllReady.cons rfl (fun K hK => ?_) AllReady.nil
              go_simp
              refine hK _ _ ?_
              clear hK K
              refine wpAny_done (by kernel_rfl) ?_ _
              go_wp2
              go_meet
              exact ⟨rfl, R2⟩
          · rcases Nat.eq_zero_or_pos k with hk0 | hk0
            · subst hk0
              have e : b' = false := by rw [HB'.out, Grain.okp, ← HP.out, ← HM.out]; rfl
              subst e
              have HS : Hid (∀ w', Below W.heap.size W w' → w'.cell? ⟨X, 0, none⟩ = some (.slice x.a0 x.s.se.length x.c0) ∧ w'.cell? ⟨X, 1, none⟩ = some (.slice x.a1 x.s.ra.length x.c1) ∧ w'.cell? ⟨X, 2, none⟩ = some (.slice x.a2 x.s.fi.length x.c2) ∧ w'.cell? ⟨X, 3, none⟩ = some (.slice x.a3 x.s.co.length x.c3) ∧ w'.cell? ⟨X, 4, none⟩ = some (.int .i64 x.s.rf) ∧ w'.cell? ⟨X, 5, none⟩ = some (.int .i64 x.s.ff) ∧ w'.cell? ⟨X, 6, none⟩ = some (.int .i64 x.s.ft) ∧ w'.cell? ⟨X, 7, none⟩ = some (.int .i64 x.s.cf) ∧ w'.cell? ⟨X, 8, none⟩ = some (.int .i64 x.s.ct) ∧ w'.cell? ⟨Q, 0, none⟩ = some (.int .i64 P.k) ∧ w'.cell? ⟨Q, 1, none⟩ = some (.int .i64 P.f) ∧ w'.cell? ⟨Q, 2, none⟩ = some (.int .i64 P.t)) := fun w' hb' => ⟨(hb'.cell (by exact Xl)).trans x0, (hb'.cell (by exact Xl)).trans x1, (hb'.cell (by exact Xl)).trans x2, (hb'.cell (by exact Xl)).trans x3, (hb'.cell (by exact Xl)).trans x4, (hb'.cell (by exact Xl)).trans x5, (hb'.cell (by exact Xl)).trans x6, (hb'.cell (by exact Xl)).trans x7, (hb'.cell (by exact Xl)).trans x8, (hb'.cell (by exact Yl)).trans y0, (hb'.cell (by exact Yl)).trans y1, (hb'.cell (by exact Yl)).trans y2⟩
              have R1 : Below W.heap.size W W.drew := below_drewN (Below.refl _ _) 1
              clear x0 x1 x2 x3 x4 x5 x6 x7 x8 y0 y1 y2
              obtain ⟨x0, x1, x2, x3, x4, x5, x6, x7, x8, y0, y1, y2⟩ := HS.out _ R1
              refine wp_region_any (by kernel_rfl) ?_
              try (change wpAny _ _ _ _ _ _ _ (World.drew _))
              refine wpAny_ready (rs := [0, 1]) (by kernel_rfl) (by simp) ?_
              refine AllReady.cons rfl (fun K hK => ?_) (AllReady.cons rfl (fun K hK => ?_) AllReady.nil)
              · go_simp
                refine hK _ _ ?_
                clear hK K
                refine wpAny_ready (rs := [1]) (by kernel_rfl) (by simp) ?_
                refine AllReady.cons rfl (fun K hK => ?_) AllReady.nil
                go_simp
                refine hK _ _ ?_
                clear hK K
                clear x0 x1 x2 x3 x4 x5 x6 x7 x8 y0 y1 y2
                refine wpAny_ready (rs := [2]) (by kernel_rfl) (by simp) ?_
                refine AllReady.cons rfl (fun K hK => ?_) AllReady.nil
                go_simp
                go_wp2_with (first | (go_at_call 74; refine (rmay_any x.s _ _ _ _ P true _ HM.out).mono ?_; rintro e w9 ⟨rfl, hb9⟩; have R2 := below_pl hb9 R1; obtain ⟨x0, x1, x2, x3, x4, x5, x6, x7, x8, y0, y1, y2⟩ := HS.out _ R2; clear hb9))
                refine wpAny_ready (rs := [3]) (by kernel_rfl) (by simp) ?_
                refine AllReady.cons rfl (fun K hK => ?_) AllReady.nil
                go_simp
                refine hK _ _ ?_
                clear hK K
                refine wpAny_ready (rs := [4]) (by kernel_rfl) (by simp) ?_
                refine AllReady.cons rfl (fun K hK => ?_) AllReady.nil
                go_simp
                refine hK _ _ ?_
                clear hK K
                refine wpAny_ready (rs := [5]) (by kernel_rfl) (by simp) ?_
                refine AllReady.cons rfl (fun K hK => ?_) AllReady.nil
                go_simp
                refine hK _ _ ?_
                clear hK K
                refine wpAny_ready (rs := [6]) (by kernel_rfl) (by simp) ?_
                refine AllReady.cons rfl (fun K hK => ?_) AllReady.nil
                go_simp
                refine hK _ _ ?_
                clear hK K
                refine wpAny_ready (rs := [7]) (by kernel_rfl) (by simp) ?_
                refine AllReady.cons rfl (fun K hK => ?_) AllReady.nil
                go_simp
                refine hK _ _ ?_
                clear hK K
                refine wpAny_skips (by kernel_rfl) (fun _ _ _ _ h => h) [(8, 38), (9, 39), (10, 40), (11, 41), (12, 42), (13, 43), (14, 44), (15, 45), (16, 46)] 2 11 _ _ _ rfl (by kernel_rfl) ?_
                simp only [skipAct, skipSet]
                refine wpAny_ready (rs := [17]) (by kernel_rfl) (by simp) ?_
                refine AllReady.cons rfl (fun K hK => ?_) AllReady.nil
                go_simp
                refine hK _ _ ?_
                clear hK K
                refine wpAny_ready (rs := [18]) (by kernel_rfl) (by simp) ?_
                refine AllReady.cons rfl (fun K hK => ?_) AllReady.nil
                go_simp
                refine hK _ _ ?_
                clear hK K
                refine wpAny_done (by kernel_rfl) ?_ _
                go_wp2
                go_meet
                exact ⟨rfl, R2⟩
              · go_simp
                refine hK _ _ ?_
                clear hK K
                refine wpAny_ready (rs := [0]) (by kernel_rfl) (by simp) ?_
                refine AllReady.cons rfl (fun K hK => ?_) AllReady.nil
                go_simp
                refine hK _ _ ?_
                clear hK K
                clear x0 x1 x2 x3 x4 x5 x6 x7 x8 y0 y1 y2
                refine wpAny_ready (rs := [2]) (by kernel_rfl) (by simp) ?_
                refine AllReady.cons rfl (fun K hK => ?_) AllReady.nil
                go_simp
                go_wp2_with (first | (go_at_call 74; refine (rmay_any x.s _ _ _ _ P true _ HM.out).mono ?_; rintro e w9 ⟨rfl, hb9⟩; have R2 := below_pl hb9 R1; obtain ⟨x0, x1, x2, x3, x4, x5, x6, x7, x8, y0, y1, y2⟩ := HS.out _ R2; clear hb9))
                refine wpAny_ready (rs := [3]) (by kernel_rfl) (by simp) ?_
                refine AllReady.cons rfl (fun K hK => ?_) AllReady.nil
                go_simp
                refine hK _ _ ?_
                clear hK K
                refine wpAny_ready (rs := [4]) (by kernel_rfl) (by simp) ?_
                refine AllReady.cons rfl (fun K hK => ?_) AllReady.nil
                go_simp
                refine hK _ _ ?_
                clear hK K
                refine wpAny_ready (rs := [5]) (by kernel_rfl) (by simp) ?_
                refine AllReady.cons rfl (fun K hK => ?_) AllReady.nil
                go_simp
                refine hK _ _ ?_
                clear hK K
                refine wpAny_ready (rs := [6]) (by kernel_rfl) (by simp) ?_
                refine AllReady.cons rfl (fun K hK => ?_) AllReady.nil
                go_simp
                refine hK _ _ ?_
                clear hK K
                refine wpAny_ready (rs := [7]) (by kernel_rfl) (by simp) ?_
                refine AllReady.cons rfl (fun K hK => ?_) AllReady.nil
                go_simp
                refine hK _ _ ?_
                clear hK K
                refine wpAny_skips (by kernel_rfl) (fun _ _ _ _ h => h) [(8, 38), (9, 39), (10, 40), (11, 41), (12, 42), (13, 43), (14, 44), (15, 45), (16, 46)] 2 11 _ _ _ rfl (by kernel_rfl) ?_
                simp only [skipAct, skipSet]
                refine wpAny_ready (rs := [17]) (by kernel_rfl) (by simp) ?_
                refine AllReady.cons rfl (fun K hK => ?_) AllReady.nil
                go_simp
                refine hK _ _ ?_
                clear hK K
                refine wpAny_ready (rs := [18]) (by kernel_rfl) (by simp) ?_
                refine AllReady.cons rfl (fun K hK => ?_) AllReady.nil
                go_simp
                refine hK _ _ ?_
                clear hK K
                refine wpAny_done (by kernel_rfl) ?_ _
                go_wp2
                go_meet
                exact ⟨rfl, R2⟩
            · obtain ⟨j, rfl⟩ : ∃ j, k = j + 1 := ⟨k - 1, by omega⟩
              have hg : decide ((0 : Int) < ((j + 1 : Nat) : Int)) = true := by simp
              have hg' : decide ((0 : Int) < (j : Int) + 1) = true := by simp
              obtain ⟨M, hM⟩ : ∃ M, M = (Grain.pt l j).t := ⟨_, rfl⟩
              have z2' : W.cell? ⟨bb, off + j * 3 + 2, none⟩ = some (.int .i64 M) := by
                rw [hM]; exact ((HCell.out j (by have := HKL.out; omega)).below belW hbl).2.2
              have Bl : bb < W.heap.size := Nat.lt_of_lt_of_le hbl belW.size
              have hw1 : IntKind.i64.wrap ((j : Int) + 1 - 1) = (j : Int) := by rw [IntKind.wrap_i64]; omega
              have hw2 : IntKind.i64.wrap (j : Int) = (j : Int) := by rw [IntKind.wrap_i64]; omega
              have hj : (j : Int) < (n : Int) := by omega
              by_cases he : P.f = M
              · have e : b' = false := by rw [HB'.out, Grain.okp, ← HP.out, ← HM.out]; simp [← hM, he]
                subst e
                have en : (P.f != M) = false := by simp [he]
                clear hM he
                have HS : Hid (∀ w', Below W.heap.size W w' → w'.cell? ⟨X, 0, none⟩ = some (.slice x.a0 x.s.se.length x.c0) ∧ w'.cell? ⟨X, 1, none⟩ = some (.slice x.a1 x.s.ra.length x.c1) ∧ w'.cell? ⟨X, 2, none⟩ = some (.slice x.a2 x.s.fi.length x.c2) ∧ w'.cell? ⟨X, 3, none⟩ = some (.slice x.a3 x.s.co.length x.c3) ∧ w'.cell? ⟨X, 4, none⟩ = some (.int .i64 x.s.rf) ∧ w'.cell? ⟨X, 5, none⟩ = some (.int .i64 x.s.ff) ∧ w'.cell? ⟨X, 6, none⟩ = some (.int .i64 x.s.ft) ∧ w'.cell? ⟨X, 7, none⟩ = some (.int .i64 x.s.cf) ∧ w'.cell? ⟨X, 8, none⟩ = some (.int .i64 x.s.ct) ∧ w'.cell? ⟨Q, 0, none⟩ = some (.int .i64 P.k) ∧ w'.cell? ⟨Q, 1, none⟩ = some (.int .i64 P.f) ∧ w'.cell? ⟨Q, 2, none⟩ = some (.int .i64 P.t) ∧ w'.cell? ⟨bb, off + j * 3 + 2, none⟩ = some (.int .i64 M)) := fun w' hb' => ⟨(hb'.cell (by exact Xl)).trans x0, (hb'.cell (by exact Xl)).trans x1, (hb'.cell (by exact Xl)).trans x2, (hb'.cell (by exact Xl)).trans x3, (hb'.cell (by exact Xl)).trans x4, (hb'.cell (by exact Xl)).trans x5, (hb'.cell (by exact Xl)).trans x6, (hb'.cell (by exact Xl)).trans x7, (hb'.cell (by exact Xl)).trans x8, (hb'.cell (by exact Yl)).trans y0, (hb'.cell (by exact Yl)).trans y1, (hb'.cell (by exact Yl)).trans y2, (hb'.cell (by exact Bl)).trans z2'⟩
                have R1 : Below W.heap.size W W.drew := below_drewN (Below.refl _ _) 1
                clear x0 x1 x2 x3 x4 x5 x6 x7 x8 y0 y1 y2
                obtain ⟨x0, x1, x2, x3, x4, x5, x6, x7, x8, y0, y1, y2, z2'⟩ := HS.out _ R1
                refine wp_region_any (by kernel_rfl) ?_
                try (change wpAny _ _ _ _ _ _ _ (World.drew _))
                refine wpAny_ready (rs := [0, 1]) (by kernel_rfl) (by simp) ?_
                refine AllReady.cons rfl (fun K hK => ?_) (AllReady.cons rfl (fun K hK => ?_) AllReady.nil)
                · go_simp
                  refine hK _ _ ?_
                  clear hK K
                  refine wpAny_ready (rs := [1]) (by kernel_rfl) (by simp) ?_
                  refine AllReady.cons rfl (fun K hK => ?_) AllReady.nil
                  go_simp
                  refine hK _ _ ?_
                  clear hK K
                  clear x0 x1 x2 x3 x4 x5 x6 x7 x8 y0 y1 y2 z2'
                  refine wpAny_ready (rs := [2]) (by kernel_rfl) (by simp) ?_
                  refine AllReady.cons rfl (fun K hK => ?_) AllReady.nil
                  go_simp
                  go_wp2_with (first | (go_at_call 74; refine (rmay_any x.s _ _ _ _ P true _ HM.out).mono ?_; rintro e w9 ⟨rfl, hb9⟩; have R2 := below_pl hb9 R1; obtain ⟨x0, x1, x2, x3, x4, x5, x6, x7, x8, y0, y1, y2, z2'⟩ := HS.out _ R2; clear hb9))
                  refine wpAny_ready (rs := [3]) (by kernel_rfl) (by simp) ?_
                  refine AllReady.cons rfl (fun K hK => ?_) AllReady.nil
                  go_simp
                  refine hK _ _ ?_
                  clear hK K
                  refine wpAny_ready (rs := [4]) (by kernel_rfl) (by simp) ?_
                  refine AllReady.cons rfl (fun K hK => ?_) AllReady.nil
                  go_simp
                  refine hK _ _ ?_
                  clear hK K
                  refine wpAny_ready (rs := [5]) (by kernel_rfl) (by simp) ?_
                  refine AllReady.cons rfl (fun K hK => ?_) AllReady.nil
                  go_simp
                  refine hK _ _ ?_
                  clear hK K
                  refine wpAny_ready (rs := [6]) (by kernel_rfl) (by simp) ?_
                  refine AllReady.cons rfl (fun K hK => ?_) AllReady.nil
                  go_simp
                  refine hK _ _ ?_
                  clear hK K
                  refine wpAny_ready (rs := [7]) (by kernel_rfl) (by simp) ?_
                  refine AllReady.cons rfl (fun K hK => ?_) AllReady.nil
                  go_simp
                  refine hK _ _ ?_
                  clear hK K
                  refine wpAny_take (i := 8) (v := .pointer (some ⟨Q, 1, none⟩)) rfl (by kernel_rfl) (by kernel_rfl) (by kernel_rfl) (fun _ _ _ h => h) (Or.inl ⟨by kernel_rfl, fun w => by go_simp⟩) ?_
                  refine wpAny_take (i := 10) (v := .slice (some ⟨bb, off, none⟩) n c) rfl (by kernel_rfl) (by kernel_rfl) (by kernel_rfl) (fun _ _ _ h => h) (Or.inl ⟨by kernel_rfl, fun w => by go_simp⟩) ?_
                  refine wpAny_take (i := 11) (v := .int .i64 ((j + 1 : Nat) : Int)) rfl (by kernel_rfl) (by kernel_rfl) (by kernel_rfl) (fun _ _ _ h => h) (Or.inl ⟨by kernel_rfl, fun w => by go_simp⟩) ?_
                  refine wpAny_take (i := 12) (v := .int .i64 (j : Nat)) rfl (by kernel_rfl) (by kernel_rfl) (by kernel_rfl) (fun _ _ _ h => h) (Or.inl ⟨by kernel_rfl, fun w => by go_simp⟩) ?_
                  refine wpAny_take (i := 13) (v := .pointer (some ⟨bb, off + j * 3, none⟩)) rfl (by kernel_rfl) (by kernel_rfl) (by kernel_rfl) (fun _ _ _ h => h) (Or.inl ⟨by kernel_rfl, fun w => by go_simp⟩) ?_
                  refine wpAny_take (i := 14) (v := .pointer (some ⟨bb, off + j * 3 + 2, none⟩)) rfl (by kernel_rfl) (by kernel_rfl) (by kernel_rfl) (fun _ _ _ h => h) (Or.inl ⟨by kernel_rfl, fun w => by go_simp⟩) ?_
                  refine wpAny_ready (rs := [9, 15]) (by kernel_rfl) (by simp) ?_
                  refine AllReady.cons rfl (fun K hK => ?_) (AllReady.cons rfl (fun K hK => ?_) AllReady.nil)
                  · go_simp
                    refine hK _ _ ?_
                    clear hK K
                    refine wpAny_ready (rs := [15]) (by kernel_rfl) (by simp) ?_
                    refine AllReady.cons rfl (fun K hK => ?_) AllReady.nil
                    go_simp
                    refine hK _ _ ?_
                    clear hK K
                    refine wpAny_ready (rs := [16]) (by kernel_rfl) (by simp) ?_
                    refine AllReady.cons rfl (fun K hK => ?_) AllReady.nil
                    go_simp
                    refine hK _ _ ?_
                    clear hK K
                    refine wpAny_ready (rs := [17]) (by kernel_rfl) (by simp) ?_
                    refine AllReady.cons rfl (fun K hK => ?_) AllReady.nil
                    go_simp
                    refine hK _ _ ?_
                    clear hK K
                    refine wpAny_ready (rs := [18]) (by kernel_rfl) (by simp) ?_
                    refine AllReady.cons rfl (fun K hK => ?_) AllReady.nil
                    go_simp
                    refine hK _ _ ?_
                    clear hK K
                    refine wpAny_done (by kernel_rfl) ?_ _
                    go_wp2
                    go_meet
                    exact ⟨rfl, R2⟩
                  · go_simp
                    refine hK _ _ ?_
                    clear hK K
                    refine wpAny_ready (rs := [9]) (by kernel_rfl) (by simp) ?_
                    refine AllReady.cons rfl (fun K hK => ?_) AllReady.nil
                    go_simp
                    refine hK _ _ ?_
                    clear hK K
                    refine wpAny_ready (rs := [16]) (by kernel_rfl) (by simp) ?_
                    refine AllReady.cons rfl (fun K hK => ?_) AllReady.nil
                    go_simp
                    refine hK _ _ ?_
                    clear hK K
                    refine wpAny_ready (rs := [17]) (by kernel_rfl) (by simp) ?_
                    refine AllReady.cons rfl (fun K hK => ?_) AllReady.nil
                    go_simp
                    refine hK _ _ ?_
                    clear hK K
                    refine wpAny_ready (rs := [18]) (by kernel_rfl) (by simp) ?_
                    refine AllReady.cons rfl (fun K hK => ?_) AllReady.nil
                    go_simp
                    refine hK _ _ ?_
                    clear hK K
                    refine wpAny_done (by kernel_rfl) ?_ _
                    go_wp2
                    go_meet
                    exact ⟨rfl, R2⟩
                · go_simp
                  refine hK _ _ ?_
                  clear hK K
                  refine wpAny_ready (rs := [0]) (by kernel_rfl) (by simp) ?_
                  refine AllReady.cons rfl (fun K hK => ?_) AllReady.nil
                  go_simp
                  refine hK _ _ ?_
                  clear hK K
                  clear x0 x1 x2 x3 x4 x5 x6 x7 x8 y0 y1 y2 z2'
                  refine wpAny_ready (rs := [2]) (by kernel_rfl) (by simp) ?_
                  refine AllReady.cons rfl (fun K hK => ?_) AllReady.nil
                  go_simp
                  go_wp2_with (first | (go_at_call 74; refine (rmay_any x.s _ _ _ _ P true _ HM.out).mono ?_; rintro e w9 ⟨rfl, hb9⟩; have R2 := below_pl hb9 R1; obtain ⟨x0, x1, x2, x3, x4, x5, x6, x7, x8, y0, y1, y2, z2'⟩ := HS.out _ R2; clear hb9))
                  refine wpAny_ready (rs := [3]) (by kernel_rfl) (by simp) ?_
                  refine AllReady.cons rfl (fun K hK => ?_) AllReady.nil
                  go_simp
                  refine hK _ _ ?_
                  clear hK K
                  refine wpAny_ready (rs := [4]) (by kernel_rfl) (by simp) ?_
                  refine AllReady.cons rfl (fun K hK => ?_) AllReady.nil
                  go_simp
                  refine hK _ _ ?_
                  clear hK K
                  refine wpAny_ready (rs := [5]) (by kernel_rfl) (by simp) ?_
                  refine AllReady.cons rfl (fun K hK => ?_) AllReady.nil
                  go_simp
                  refine hK _ _ ?_
                  clear hK K
                  refine wpAny_ready (rs := [6]) (by kernel_rfl) (by simp) ?_
                  refine AllReady.cons rfl (fun K hK => ?_) AllReady.nil
                  go_simp
                  refine hK _ _ ?_
                  clear hK K
                  refine wpAny_ready (rs := [7]) (by kernel_rfl) (by simp) ?_
                  refine AllReady.cons rfl (fun K hK => ?_) AllReady.nil
                  go_simp
                  refine hK _ _ ?_
                  clear hK K
                  refine wpAny_take (i := 8) (v := .pointer (some ⟨Q, 1, none⟩)) rfl (by kernel_rfl) (by kernel_rfl) (by kernel_rfl) (fun _ _ _ h => h) (Or.inl ⟨by kernel_rfl, fun w => by go_simp⟩) ?_
                  refine wpAny_take (i := 10) (v := .slice (some ⟨bb, off, none⟩) n c) rfl (by kernel_rfl) (by kernel_rfl) (by kernel_rfl) (fun _ _ _ h => h) (Or.inl ⟨by kernel_rfl, fun w => by go_simp⟩) ?_
                  refine wpAny_take (i := 11) (v := .int .i64 ((j + 1 : Nat) : Int)) rfl (by kernel_rfl) (by kernel_rfl) (by kernel_rfl) (fun _ _ _ h => h) (Or.inl ⟨by kernel_rfl, fun w => by go_simp⟩) ?_
                  refine wpAny_take (i := 12) (v := .int .i64 (j : Nat)) rfl (by kernel_rfl) (by kernel_rfl) (by kernel_rfl) (fun _ _ _ h => h) (Or.inl ⟨by kernel_rfl, fun w => by go_simp⟩) ?_
                  refine wpAny_take (i := 13) (v := .pointer (some ⟨bb, off + j * 3, none⟩)) rfl (by kernel_rfl) (by kernel_rfl) (by kernel_rfl) (fun _ _ _ h => h) (Or.inl ⟨by kernel_rfl, fun w => by go_simp⟩) ?_
                  refine wpAny_take (i := 14) (v := .pointer (some ⟨bb, off + j * 3 + 2, none⟩)) rfl (by kernel_rfl) (by kernel_rfl) (by kernel_rfl) (fun _ _ _ h => h) (Or.inl ⟨by kernel_rfl, fun w => by go_simp⟩) ?_
                  refine wpAny_ready (rs := [9, 15]) (by kernel_rfl) (by simp) ?_
                  refine AllReady.cons rfl (fun K hK => ?_) (AllReady.cons rfl (fun K hK => ?_) AllReady.nil)
                  · go_simp
                    refine hK _ _ ?_
                    clear hK K
                    refine wpAny_ready (rs := [15]) (by kernel_rfl) (by simp) ?_
                    refine AllReady.cons rfl (fun K hK => ?_) AllReady.nil
                    go_simp
                    refine hK _ _ ?_
                    clear hK K
                    refine wpAny_ready (rs := [16]) (by kernel_rfl) (by simp) ?_
                    refine AllReady.cons rfl (fun K hK => ?_) AllReady.nil
                    go_simp
                    refine hK _ _ ?_
                    clear hK K
                    refine wpAny_ready (rs := [17]) (by kernel_rfl) (by simp) ?_
                    refine AllReady.cons rfl (fun K hK => ?_) AllReady.nil
                    go_simp
                    refine hK _ _ ?_
                    clear hK K
                    refine wpAny_ready (rs := [18]) (by kernel_rfl) (by simp) ?_
                    refine AllReady.cons rfl (fun K hK => ?_) AllReady.nil
                    go_simp
                    refine hK _ _ ?_
                    clear hK K
                    refine wpAny_done (by kernel_rfl) ?_ _
                    go_wp2
                    go_meet
                    exact ⟨rfl, R2⟩
                  · go_simp
                    refine hK _ _ ?_
                    clear hK K
                    refine wpAny_ready (rs := [9]) (by kernel_rfl) (by simp) ?_
                    refine AllReady.cons rfl (fun K hK => ?_) AllReady.nil
                    go_simp
                    refine hK _ _ ?_
                    clear hK K
                    refine wpAny_ready (rs := [16]) (by kernel_rfl) (by simp) ?_
                    refine AllReady.cons rfl (fun K hK => ?_) AllReady.nil
                    go_simp
                    refine hK _ _ ?_
                    clear hK K
                    refine wpAny_ready (rs := [17]) (by kernel_rfl) (by simp) ?_
                    refine AllReady.cons rfl (fun K hK => ?_) AllReady.nil
                    go_simp
                    refine hK _ _ ?_
                    clear hK K
                    refine wpAny_ready (rs := [18]) (by kernel_rfl) (by simp) ?_
                    refine AllReady.cons rfl (fun K hK => ?_) AllReady.nil
                    go_simp
                    refine hK _ _ ?_
                    clear hK K
                    refine wpAny_done (by kernel_rfl) ?_ _
                    go_wp2
                    go_meet
                    exact ⟨rfl, R2⟩
              · have e : b' = true := by rw [HB'.out, Grain.okp, ← HP.out, ← HM.out]; simp [← hM]; exact fun h => he h.symm
                subst e
                have en : (P.f != M) = true := by simp [he]
                clear hM he
                have HS : Hid (∀ w', Below W.heap.size W w' → w'.cell? ⟨X, 0, none⟩ = some (.slice x.a0 x.s.se.length x.c0) ∧ w'.cell? ⟨X, 1, none⟩ = some (.slice x.a1 x.s.ra.length x.c1) ∧ w'.cell? ⟨X, 2, none⟩ = some (.slice x.a2 x.s.fi.length x.c2) ∧ w'.cell? ⟨X, 3, none⟩ = some (.slice x.a3 x.s.co.length x.c3) ∧ w'.cell? ⟨X, 4, none⟩ = some (.int .i64 x.s.rf) ∧ w'.cell? ⟨X, 5, none⟩ = some (.int .i64 x.s.ff) ∧ w'.cell? ⟨X, 6, none⟩ = some (.int .i64 x.s.ft) ∧ w'.cell? ⟨X, 7, none⟩ = some (.int .i64 x.s.cf) ∧ w'.cell? ⟨X, 8, none⟩ = some (.int .i64 x.s.ct) ∧ w'.cell? ⟨Q, 0, none⟩ = some (.int .i64 P.k) ∧ w'.cell? ⟨Q, 1, none⟩ = some (.int .i64 P.f) ∧ w'.cell? ⟨Q, 2, none⟩ = some (.int .i64 P.t) ∧ w'.cell? ⟨bb, off + j * 3 + 2, none⟩ = some (.int .i64 M)) := fun w' hb' => ⟨(hb'.cell (by exact Xl)).trans x0, (hb'.cell (by exact Xl)).trans x1, (hb'.cell (by exact Xl)).trans x2, (hb'.cell (by exact Xl)).trans x3, (hb'.cell (by exact Xl)).trans x4, (hb'.cell (by exact Xl)).trans x5, (hb'.cell (by exact Xl)).trans x6, (hb'.cell (by exact Xl)).trans x7, (hb'.cell (by exact Xl)).trans x8, (hb'.cell (by exact Yl)).trans y0, (hb'.cell (by exact Yl)).trans y1, (hb'.cell (by exact Yl)).trans y2, (hb'.cell (by exact Bl)).trans z2'⟩
                have R1 : Below W.heap.size W W.drew := below_drewN (Below.refl _ _) 1
                clear x0 x1 x2 x3 x4 x5 x6 x7 x8 y0 y1 y2
                obtain ⟨x0, x1, x2, x3, x4, x5, x6, x7, x8, y0, y1, y2, z2'⟩ := HS.out _ R1
                refine wp_region_any (by kernel_rfl) ?_
                try (change wpAny _ _ _ _ _ _ _ (World.drew _))
                refine wpAny_ready (rs := [0, 1]) (by kernel_rfl) (by simp) ?_
                refine AllReady.cons rfl (fun K hK => ?_) (AllReady.cons rfl (fun K hK => ?_) AllReady.nil)
                · go_simp
                  refine hK _ _ ?_
                  clear hK K
                  refine wpAny_ready (rs := [1]) (by kernel_rfl) (by simp) ?_
                  refine AllReady.cons rfl (fun K hK => ?_) AllReady.nil
                  go_simp
                  refine hK _ _ ?_
                  clear hK K
                  clear x0 x1 x2 x3 x4 x5 x6 x7 x8 y0 y1 y2 z2'
                  refine wpAny_ready (rs := [2]) (by kernel_rfl) (by simp) ?_
                  refine AllReady.cons rfl (fun K hK => ?_) AllReady.nil
                  go_simp
                  go_wp2_with (first | (go_at_call 74; refine (rmay_any x.s _ _ _ _ P true _ HM.out).mono ?_; rintro e w9 ⟨rfl, hb9⟩; have R2 := below_pl hb9 R1; obtain ⟨x0, x1, x2, x3, x4, x5, x6, x7, x8, y0, y1, y2, z2'⟩ := HS.out _ R2; clear hb9))
                  refine wpAny_ready (rs := [3]) (by kernel_rfl) (by simp) ?_
                  refine AllReady.cons rfl (fun K hK => ?_) AllReady.nil
                  go_simp
                  refine hK _ _ ?_
                  clear hK K
                  refine wpAny_ready (rs := [4]) (by kernel_rfl) (by simp) ?_
                  refine AllReady.cons rfl (fun K hK => ?_) AllReady.nil
                  go_simp
                  refine hK _ _ ?_
                  clear hK K
                  refine wpAny_ready (rs := [5]) (by kernel_rfl) (by simp) ?_
                  refine AllReady.cons rfl (fun K hK => ?_) AllReady.nil
                  go_simp
                  refine hK _ _ ?_
                  clear hK K
                  refine wpAny_ready (rs := [6]) (by kernel_rfl) (by simp) ?_
                  refine AllReady.cons rfl (fun K hK => ?_) AllReady.nil
                  go_simp
                  refine hK _ _ ?_
                  clear hK K
                  refine wpAny_ready (rs := [7]) (by kernel_rfl) (by simp) ?_
                  refine AllReady.cons rfl (fun K hK => ?_) AllReady.nil
                  go_simp
                  refine hK _ _ ?_
                  clear hK K
                  refine wpAny_take (i := 8) (v := .pointer (some ⟨Q, 1, none⟩)) rfl (by kernel_rfl) (by kernel_rfl) (by kernel_rfl) (fun _ _ _ h => h) (Or.inl ⟨by kernel_rfl, fun w => by go_simp⟩) ?_
                  refine wpAny_take (i := 10) (v := .slice (some ⟨bb, off, none⟩) n c) rfl (by kernel_rfl) (by kernel_rfl) (by kernel_rfl) (fun _ _ _ h => h) (Or.inl ⟨by kernel_rfl, fun w => by go_simp⟩) ?_
                  refine wpAny_take (i := 11) (v := .int .i64 ((j + 1 : Nat) : Int)) rfl (by kernel_rfl) (by kernel_rfl) (by kernel_rfl) (fun _ _ _ h => h) (Or.inl ⟨by kernel_rfl, fun w => by go_simp⟩) ?_
                  refine wpAny_take (i := 12) (v := .int .i64 (j : Nat)) rfl (by kernel_rfl) (by kernel_rfl) (by kernel_rfl) (fun _ _ _ h => h) (Or.inl ⟨by kernel_rfl, fun w => by go_simp⟩) ?_
                  refine wpAny_take (i := 13) (v := .pointer (some ⟨bb, off + j * 3, none⟩)) rfl (by kernel_rfl) (by kernel_rfl) (by kernel_rfl) (fun _ _ _ h => h) (Or.inl ⟨by kernel_rfl, fun w => by go_simp⟩) ?_
                  refine wpAny_take (i := 14) (v := .pointer (some ⟨bb, off + j * 3 + 2, none⟩)) rfl (by kernel_rfl) (by kernel_rfl) (by kernel_rfl) (fun _ _ _ h => h) (Or.inl ⟨by kernel_rfl, fun w => by go_simp⟩) ?_
                  refine wpAny_ready (rs := [9, 15]) (by kernel_rfl) (by simp) ?_
                  refine AllReady.cons rfl (fun K hK => ?_) (AllReady.cons rfl (fun K hK => ?_) AllReady.nil)
                  · go_simp
                    refine hK _ _ ?_
                    clear hK K
                    refine wpAny_ready (rs := [15]) (by kernel_rfl) (by simp) ?_
                    refine AllReady.cons rfl (fun K hK => ?_) AllReady.nil
                    go_simp
                    refine hK _ _ ?_
                    clear hK K
                    refine wpAny_ready (rs := [16]) (by kernel_rfl) (by simp) ?_
                    refine AllReady.cons rfl (fun K hK => ?_) AllReady.nil
                    go_simp
                    refine hK _ _ ?_
                    clear hK K
                    refine wpAny_ready (rs := [17]) (by kernel_rfl) (by simp) ?_
                    refine AllReady.cons rfl (fun K hK => ?_) AllReady.nil
                    go_simp
                    refine hK _ _ ?_
                    clear hK K
                    refine wpAny_ready (rs := [18]) (by kernel_rfl) (by simp) ?_
                    refine AllReady.cons rfl (fun K hK => ?_) AllReady.nil
                    go_simp
                    refine hK _ _ ?_
                    clear hK K
                    refine wpAny_done (by kernel_rfl) ?_ _
                    go_wp2
                    go_meet
                    exact ⟨rfl, R2⟩
                  · go_simp
                    refine hK _ _ ?_
                    clear hK K
                    refine wpAny_ready (rs := [9]) (by kernel_rfl) (by simp) ?_
                    refine AllReady.cons rfl (fun K hK => ?_) AllReady.nil
                    go_simp
                    refine hK _ _ ?_
                    clear hK K
                    refine wpAny_ready (rs := [16]) (by kernel_rfl) (by simp) ?_
                    refine AllReady.cons rfl (fun K hK => ?_) AllReady.nil
                    go_simp
                    refine hK _ _ ?_
                    clear hK K
                    refine wpAny_ready (rs := [17]) (by kernel_rfl) (by simp) ?_
                    refine AllReady.cons rfl (fun K hK => ?_) AllReady.nil
                    go_simp
                    refine hK _ _ ?_
                    clear hK K
                    refine wpAny_ready (rs := [18]) (by kernel_rfl) (by simp) ?_
                    refine AllReady.cons rfl (fun K hK => ?_) AllReady.nil
                    go_simp
                    refine hK _ _ ?_
                    clear hK K
                    refine wpAny_done (by kernel_rfl) ?_ _
                    go_wp2
                    go_meet
                    exact ⟨rfl, R2⟩
                · go_simp
                  refine hK _ _ ?_
                  clear hK K
                  refine wpAny_ready (rs := [0]) (by kernel_rfl) (by simp) ?_
                  refine AllReady.cons rfl (fun K hK => ?_) AllReady.nil
                  go_simp
                  refine hK _ _ ?_
                  clear hK K
                  clear x0 x1 x2 x3 x4 x5 x6 x7 x8 y0 y1 y2 z2'
                  refine wpAny_ready (rs := [2]) (by kernel_rfl) (by simp) ?_
                  refine AllReady.cons rfl (fun K hK => ?_) AllReady.nil
                  go_simp
                  go_wp2_with (first | (go_at_call 74; refine (rmay_any x.s _ _ _ _ P true _ HM.out).mono ?_; rintro e w9 ⟨rfl, hb9⟩; have R2 := below_pl hb9 R1; obtain ⟨x0, x1, x2, x3, x4, x5, x6, x7, x8, y0, y1, y2, z2'⟩ := HS.out _ R2; clear hb9))
                  refine wpAny_ready (rs := [3]) (by kernel_rfl) (by simp) ?_
                  refine AllReady.cons rfl (fun K hK => ?_) AllReady.nil
                  go_simp
                  refine hK _ _ ?_
                  clear hK K
                  refine wpAny_ready (rs := [4]) (by kernel_rfl) (by simp) ?_
                  refine AllReady.cons rfl (fun K hK => ?_) AllReady.nil
                  go_simp
                  refine hK _ _ ?_
                  clear hK K
                  refine wpAny_ready (rs := [5]) (by kernel_rfl) (by simp) ?_
                  refine AllReady.cons rfl (fun K hK => ?_) AllReady.nil
                  go_simp
                  refine hK _ _ ?_
                  clear hK K
                  refine wpAny_ready (rs := [6]) (by kernel_rfl) (by simp) ?_
                  refine AllReady.cons rfl (fun K hK => ?_) AllReady.nil
                  go_simp
                  refine hK _ _ ?_
                  clear hK K
                  refine wpAny_ready (rs := [7]) (by kernel_rfl) (by simp) ?_
                  refine AllReady.cons rfl (fun K hK => ?_) AllReady.nil
                  go_simp
                  refine hK _ _ ?_
                  clear hK K
                  refine wpAny_take (i := 8) (v := .pointer (some ⟨Q, 1, none⟩)) rfl (by kernel_rfl) (by kernel_rfl) (by kernel_rfl) (fun _ _ _ h => h) (Or.inl ⟨by kernel_rfl, fun w => by go_simp⟩) ?_
                  refine wpAny_take (i := 10) (v := .slice (some ⟨bb, off, none⟩) n c) rfl (by kernel_rfl) (by kernel_rfl) (by kernel_rfl) (fun _ _ _ h => h) (Or.inl ⟨by kernel_rfl, fun w => by go_simp⟩) ?_
                  refine wpAny_take (i := 11) (v := .int .i64 ((j + 1 : Nat) : Int)) rfl (by kernel_rfl) (by kernel_rfl) (by kernel_rfl) (fun _ _ _ h => h) (Or.inl ⟨by kernel_rfl, fun w => by go_simp⟩) ?_
                  refine wpAny_take (i := 12) (v := .int .i64 (j : Nat)) rfl (by kernel_rfl) (by kernel_rfl) (by kernel_rfl) (fun _ _ _ h => h) (Or.inl ⟨by kernel_rfl, fun w => by go_simp⟩) ?_
                  refine wpAny_take (i := 13) (v := .pointer (some ⟨bb, off + j * 3, none⟩)) rfl (by kernel_rfl) (by kernel_rfl) (by kernel_rfl) (fun _ _ _ h => h) (Or.inl ⟨by kernel_rfl, fun w => by go_simp⟩) ?_
                  refine wpAny_take (i := 14) (v := .pointer (some ⟨bb, off + j * 3 + 2, none⟩)) rfl (by kernel_rfl) (by kernel_rfl) (by kernel_rfl) (fun _ _ _ h => h) (Or.inl ⟨by kernel_rfl, fun w => by go_simp⟩) ?_
                  refine wpAny_ready (rs := [9, 15]) (by kernel_rfl) (by simp) ?_
                  refine AllReady.cons rfl (fun K hK => ?_) (AllReady.cons rfl (fun K hK => ?_) AllReady.nil)
                  · go_simp
                    refine hK _ _ ?_
                    clear hK K
                    refine wpAny_ready (rs := [15]) (by kernel_rfl) (by simp) ?_
                    refine AllReady.cons rfl (fun K hK => ?_) AllReady.nil
                    go_simp
                    refine hK _ _ ?_
                    clear hK K
                    refine wpAny_ready (rs := [16]) (by kernel_rfl) (by simp) ?_
                    refine AllReady.cons rfl (fun K hK => ?_) AllReady.nil
                    go_simp
                    refine hK _ _ ?_
                    clear hK K
                    refine wpAny_ready (rs := [17]) (by kernel_rfl) (by simp) ?_
                    refine AllReady.cons rfl (fun K hK => ?_) AllReady.nil
                    go_simp
                    refine hK _ _ ?_
                    clear hK K
                    refine wpAny_ready (rs := [18]) (by kernel_rfl) (by simp) ?_
                    refine AllReady.cons rfl (fun K hK => ?_) AllReady.nil
                    go_simp
                    refine hK _ _ ?_
                    clear hK K
                    refine wpAny_done (by kernel_rfl) ?_ _
                    go_wp2
                    go_meet
                    exact ⟨rfl, R2⟩
                  · go_simp
                    refine hK _ _ ?_
                    clear hK K
                    refine wpAny_ready (rs := [9]) (by kernel_rfl) (by simp) ?_
                    refine AllReady.cons rfl (fun K hK => ?_) AllReady.nil
                    go_simp
                    refine hK _ _ ?_
                    clear hK K
                    refine wpAny_ready (rs := [16]) (by kernel_rfl) (by simp) ?_
                    refine AllReady.cons rfl (fun K hK => ?_) AllReady.nil
                    go_simp
                    refine hK _ _ ?_
                    clear hK K
                    refine wpAny_ready (rs := [17]) (by kernel_rfl) (by simp) ?_
                    refine AllReady.cons rfl (fun K hK => ?_) AllReady.nil
                    go_simp
                    refine hK _ _ ?_
                    clear hK K
                    refine wpAny_ready (rs := [18]) (by kernel_rfl) (by simp) ?_
                    refine AllReady.cons rfl (fun K hK => ?_) AllReady.nil
                    go_simp
                    refine hK _ _ ?_
                    clear hK K
                    refine wpAny_done (by kernel_rfl) ?_ _
                    go_wp2
                    go_meet
                    exact ⟨rfl, R2⟩
        case rest =>
        obtain ⟨rfl, R9⟩ := hcut
        obtain ⟨w2, hw2⟩ : ∃ w2, w2 = wc := ⟨_, rfl⟩
        rw [← hw2] at R9 ⊢
        have P2 := below_block R9 P0
        have A3 := A2.below R9
        have bel2 : Below w1.heap.size w1 w2 := below_pl R9 belW
        have S3 := below_block bel2 S1
        have Q2 : Q < w2.heap.size := lt_of_block P2
        clear hw2 R9 P0 A2 belW S2 x0 x1 x2 x3 x4 x5 x6 x7 x8 y0 y1 y2 Xl Yl
        cases b'
        · have hok : Grain.okp x.s l k = true := by have h := HB'.out; revert h; cases Grain.okp x.s l k <;> simp
          have hmay : Grain.may x.s P = true := by rw [HP.out]; unfold Grain.okp at hok; simp only [Bool.and_eq_true] at hok; exact hok.1
          have HO2 : Hid (∀ j, j < k + 1 → Grain.okp x.s l j = true) := by
            intro j hj
            rcases Nat.lt_or_ge j k with h | h
            · exact HO.out j h
            · obtain rfl : j = k := by omega
              exact hok
          have HMay := hide hmay
          have T1 : Hid (Grain.rdS x.s (l.take (k + 1)) = Grain.join s (Grain.psum x.s P)) := by
            show _ = _
            rw [Grain.take_pt HKL.out, Grain.rdS_snoc, ← HP.out, ← H1.out]
          have T2 : Hid (Grain.rdN x.s (l.take (k + 1)) = N + Grain.pcost x.s P) := by
            show _ = _
            rw [Grain.take_pt HKL.out, Grain.rdN_snoc, ← HP.out, ← H2.out]
          have HG : Hid (Grain.Good s (30000 * k)) := by
            have h := Grain.good_rdS HSR.out (l.take k) (fun p hp => by
              obtain ⟨j, hj, rfl⟩ := List.mem_iff_getElem.1 hp
              have hj2 : j < k := by simp at hj; omega
              have := HO.out j hj2
              unfold Grain.okp at this
              simp only [Bool.and_eq_true] at this
              have e : Grain.pt l j = (l.take k)[j] := by simp [Grain.pt, List.getD, List.getElem?_eq_getElem (show j < l.length by have := HKL.out; omega)]
              rw [← e]; exact this.1) (by simp; omega)
            rw [← H1.out] at h
            have e : (l.take k).length = k := by simp; have := HKL.out; omega
            rw [e] at h
            exact h
          clear hok hmay HO H1 H2 HB' HM HCell
          obtain ⟨x0, x1, x2, x3, x4, x5, x6, x7, x8⟩ := nine_cells S3
          obtain ⟨y0, y1, y2⟩ := three3 P2
          have Xl2 : X < w2.heap.size := lt_of_block S3
          go_upto_region 11 with fail
          go_cut [12] from 50 to 52 (fun v wx => v = .slice x.a2 x.s.fi.length x.c2 ∧ Hid (wx = w2))
          case first =>
            go_wp2
            go_meet
            exact ⟨rfl, rfl⟩
          case rest =>
          obtain ⟨rfl, HWC⟩ := hcut
          rw [HWC.out]
          clear HWC
          apply_assumption
          refine wp_seq_k fun KK hKK => ?_
          go_cut [12] from 52 to 57 (fun v wx => ∃ (bo : Option Addr) (m1 c1 : Nat), v = .slice bo m1 c1 ∧ Seg w bo (kcells (if P.k = 2 then x.s.co else x.s.fi)) ∧ Hid (m1 = (if P.k = 2 then x.s.co else x.s.fi).length) ∧ Hid (wx = w2))
          case first =>
            by_cases e2 : P.k = 2
            · have e2' : (P.k == 2) = true := by simpa using e2
              go_wp2
              go_meet
              exact ⟨_, _, _, rfl, by rw [if_pos e2]; exact HXW.out.g3, by rw [if_pos e2]; exact (rfl : Hid _), rfl⟩
            · have e2' : (P.k == 2) = false := by simpa using e2
              go_wp2
              go_meet
              exact ⟨_, _, _, rfl, by rw [if_neg e2]; exact HXW.out.g2, by rw [if_neg e2]; exact (rfl : Hid _), rfl⟩
          case rest =>
          obtain ⟨bo, m1, c1, rfl, seg1, HM1, HWC⟩ := hcut
          rw [HWC.out]
          clear HWC
          apply_assumption
          refine wp_seq_k fun KK2 hKK2 => ?_
          go_cut [12] from 57 to 77 (fun v wx => ∃ (bo : Option Addr) (m1 c1 : Nat), v = .slice bo m1 c1 ∧ Seg wx bo (kcells (Grain.ent x.s P)) ∧ Hid (m1 = (Grain.ent x.s P).length) ∧ Hid (kcells (Grain.ent x.s P) ≠ [] → ∀ b off, bo = some ⟨b, off, none⟩ → b ≠ B) ∧ Below w2.heap.size w2 wx)
          case first =>
            by_cases e0 : P.k = 0
            · have e0' : (P.k == 0) = true := by simpa using e0
              have hent : Grain.ent x.s P = Grain.rawB x.s.ra := by unfold Grain.ent; rw [if_pos e0]
              have HEnt := hide hent
              have segr := HXW.out.g1
              obtain ⟨a1, ha1⟩ : ∃ a1, a1 = x.a1 := ⟨_, rfl⟩
              rw [← ha1] at x1 segr
              have HA1 := hide ha1
              clear ha1
              have rl5 : x.s.ra.length ≤ 500 := HSR.out.rlen
              obtain ⟨R, hR⟩ : ∃ R, R = x.s.ra.length := ⟨_, rfl⟩
              rw [← hR] at x1 rl5
              have HRl := hide hR
              have ww2 : w.heap.size ≤ w2.heap.size := (below_pl bel2 bel1).size
              have belw2 : Below w.heap.size w w2 := below_pl bel2 bel1
              have e0'' := hide e0
              clear hent hR e0
              go_wp2
              go_loopw [12, 63] (fun s12 i wr => ∃ (j M d : Nat) (co : Option Addr), j ≤ R ∧ i = .int .i64 j ∧ s12 = .slice co M d ∧ M = j ∧ wr.ownsRow w2.heap.size 90 8 (.slice co M d) M (kcells (Grain.rawB (x.s.ra.take j))) ∧ Below w2.heap.size w2 wr) (fun _ i _ => R - (intOf i).toNat)
              case atStart => exact ⟨0, 0, 0, none, Nat.zero_le _, rfl, rfl, rfl, World.ownsRow_nil _ _ _ _, Below.refl _ _⟩
              case round =>
                obtain ⟨j, M, d, co, hj, rfl, rfl, hMj, own, bel⟩ := hrel
                subst hMj
                have hsz := bel.size
                by_cases hjl : M < R
                · have hjl' : M < x.s.ra.length := by rw [← HRl.out]; exact hjl
                  obtain ⟨rb, ro, rfl, hrc⟩ := segr.sample hjl'
                  obtain ⟨t, ht⟩ : ∃ t, t = Grain.tm x.s.ra M := ⟨_, rfl⟩
                  obtain ⟨v, hv⟩ : ∃ v, v = Grain.vl x.s.ra M := ⟨_, rfl⟩
                  have hrb : rb < w.heap.size := World.block_lt_of_cell? w ⟨rb, ro + M * 2, none⟩ (hrc M hjl').1
                  have belw : Below w.heap.size w wr := below_pl bel belw2
                  have c0 : wr.cell? ⟨rb, ro + M * 2, none⟩ = some (.int .i64 t) := by rw [ht]; exact (belw.cell (by exact hrb)).trans (hrc M hjl').1
                  have c1' : wr.cell? ⟨rb, ro + M * 2 + 1, none⟩ = some (.int .i64 v) := by rw [hv]; exact (belw.cell (by exact hrb)).trans (hrc M hjl').2
                  have hvr : -1000000000 ≤ v ∧ v ≤ 1000000000 := by
                    have hmem : (t, v) ∈ x.s.ra := by
                      rw [ht, hv]
                      have e : (Grain.tm x.s.ra M, Grain.vl x.s.ra M) = x.s.ra[M] := by simp [Grain.tm, Grain.vl, List.getD, List.getElem?_eq_getElem hjl']
                      rw [e]; exact List.getElem_mem hjl'
                    have := HSR.out.rin _ hmem
                    simp [Grain.inR] at this
                    omega
                  have HT : Hid (Grain.rawB (x.s.ra.take (M + 1)) = Grain.rawB (x.s.ra.take M) ++ [⟨t, Grain.one v⟩]) := by show _ = _; rw [ht, hv]; exact Grain.rawB_take hjl'
                  obtain ⟨T0, hT0⟩ : ∃ T0, T0 = wr.heap.size := ⟨_, rfl⟩
                  obtain ⟨W6, hW6⟩ : ∃ W6, W6 = wr.alloc (.cells #[.int .i64 t, .int .i64 v] 35) := ⟨_, rfl⟩
                  have hb6 : Below wr.heap.size wr W6 := by rw [hW6]; exact (Below.refl _ _).alloc (Nat.le_refl _) _
                  have F6 : W6.heap[T0]? = some (.cells #[.int .i64 t, .int .i64 v] 35 (0, 0)) := by rw [hW6, hT0]; exact heap_alloc_new wr _
                  have own6 := own_below own hb6
                  have bel6 : Below w2.heap.size w2 W6 := below_pl hb6 bel
                  have lT : T0 < W6.heap.size := lt_of_block F6
                  obtain ⟨p0, p1, _, _⟩ := two_cells F6
                  have HW6 := hide hW6
                  have HT0 := hide hT0
                  clear ht hv hrc hjl' hW6 hT0 own bel belw hrb
                  go_upto_region 19 with fail
                  rw [← HW6.out, ← HT0.out]
                  clear HW6 HT0 c0 c1'
                  obtain ⟨W7, hW7⟩ : ∃ W7, W7 = (W6.alloc (.cells #[.int .i64 t, .int .i64 v] 35)).drew := ⟨_, rfl⟩
                  have hb7 : Below W6.heap.size W6 W7 := by rw [hW7]; exact below_drewN ((Below.refl _ W6).alloc (Nat.le_refl _) _) 1
                  have F7 : W7.heap[W6.heap.size]? = some (.cells #[.int .i64 t, .int .i64 v] 35 (0, 0)) := by rw [hW7]; exact heap_alloc_new W6 _
                  have seg7 : Seg W7 (some ⟨W6.heap.size, 0, none⟩) (scells [(t, v)]) := by
                    refine .inr ⟨W6.heap.size, 0, rfl, fun j hj => ?_⟩
                    have hj2 : j < 2 := hj
                    rw [cell_of_row W7 W6.heap.size _ _ 35 (0, 0) F7]
                    rcases (show j = 0 ∨ j = 1 by omega) with rfl | rfl <;> rfl
                  have HOf : Hid (Calls Try.prog 60 #[.slice (some ⟨W6.heap.size, 0, none⟩) 1 1] W7 fun e w' => e = .returned (.agg #[.int .i64 1, .int .i64 v, .int .i64 v, .int .i64 v, .int .i64 v, .int .i64 v, .int .i64 0]) ∧ Below W7.heap.size W7 w') := rone_any t v W6.heap.size W7 seg7 hvr.1 hvr.2
                  have HW7 := hide hW7
                  have H67 := hide hb7
                  have HF6 := hide F6
                  clear hW7 F7 seg7 hb7
                  refine wp_region_any (by kernel_rfl) ?_
                  try (change wpAny _ _ _ _ _ _ _ (World.drew _))
                  refine wpAny_take (i := 0) (v := .slice co M d) rfl (by kernel_rfl) (by kernel_rfl) (by kernel_rfl) (fun _ _ _ h => h) (Or.inl ⟨by kernel_rfl, fun w => by go_simp⟩) ?_
                  refine wpAny_take (i := 1) (v := .pointer (some ⟨T0, 0, none⟩)) rfl (by kernel_rfl) (by kernel_rfl) (by kernel_rfl) (fun _ _ _ h => h) (Or.inl ⟨by kernel_rfl, fun w => by go_simp⟩) ?_
                  refine wpAny_ready (rs := [2, 3]) (by kernel_rfl) (by simp) ?_
                  refine AllReady.cons rfl (fun K hK => ?_) (AllReady.cons rfl (fun K hK => ?_) AllReady.nil)
                  · go_simp
                    refine hK _ _ ?_
                    clear hK K
                    refine wpAny_ready (rs := [3]) (by kernel_rfl) (by simp) ?_
                    refine AllReady.cons rfl (fun K hK => ?_) AllReady.nil
                    go_simp
                    refine hK _ _ ?_
                    clear hK K
                    refine wpAny_ready (rs := [4]) (by kernel_rfl) (by simp) ?_
                    refine AllReady.cons rfl (fun K hK => ?_) AllReady.nil
                    go_simp
                    refine hK _ _ ?_
                    clear hK K
                    refine wpAny_ready (rs := [5]) (by kernel_rfl) (by simp) ?_
                    refine AllReady.cons rfl (fun K hK => ?_) AllReady.nil
                    go_simp
                    go_wp2_with (first | (go_at_call 60; rw [← HW7.out]; refine HOf.out.mono ?_; rintro e w8 ⟨rfl, hb8⟩; have b68 := below_pl hb8 H67.out; have own8 := own_below own6 b68; have bel8 := below_pl b68 bel6; have hs8 := bel8.size; obtain ⟨p0', p1', _, _⟩ := two_cells (below_block b68 HF6.out)))
                    refine wpAny_ready (rs := [6]) (by kernel_rfl) (by simp) ?_
                    refine AllReady.cons rfl (fun K hK => ?_) AllReady.nil
                    go_simp
                    refine hK _ _ ?_
                    clear hK K
                    refine wpAny_ready (rs := [7]) (by kernel_rfl) (by simp) ?_
                    refine AllReady.cons rfl (fun K hK => ?_) AllReady.nil
                    go_simp
                    refine hK _ _ ?_
                    clear hK K
                    refine wpAny_ready (rs := [8]) (by kernel_rfl) (by simp) ?_
                    refine AllReady.cons rfl (fun K hK => ?_) AllReady.nil
                    refine step_append_segP (by rfl) (.tmp 67) (.tmp 74) 42 (by rfl) w2.heap.size 90 i0 (.agg #[.int .i64 0, .int .i64 0, .int .i64 0, .int .i64 0, .int .i64 0, .int .i64 0, .int .i64 0, .int .i64 0]) 8 64 Try.underlying42 hi hz0 hz1 hz2 rfl (by decide) (.slice co M d) M (kcells (Grain.rawB (x.s.ra.take M))) (by rfl) (own8.alloc _) (some ⟨w8.heap.size, 0, none⟩) 1 1 (kc ⟨t, Grain.one v⟩) (by rfl) (by simp) (eight_seg _ _ _ _ _ _ _ _ _ _) (by rfl) (kc_one _) (by unfold maxLen; omega) (by omega) (by simp; omega) ?_
                    intro v' w9 own9 gr9 hat9
                    obtain ⟨A, D, hvA, _, _⟩ := own_open own9
                    subst hvA
                    have bel9 := (bel8.alloc hs8 _).grown gr9 (by simp; omega) (fun j hj => (own8.lt j hj).1)
                    refine hK _ _ ?_
                    clear hK K hat9 gr9
                    refine wpAny_ready (rs := [9]) (by kernel_rfl) (by simp) ?_
                    refine AllReady.cons rfl (fun K hK => ?_) AllReady.nil
                    go_simp
                    refine hK _ _ ?_
                    clear hK K
                    refine wpAny_done (by kernel_rfl) ?_ _
                    have own10 : w9.ownsRow w2.heap.size 90 8 (.slice A (M + 1) D) (M + 1) (kcells (Grain.rawB (x.s.ra.take (M + 1)))) := by rw [HT.out, kcells_snoc]; exact own9
                    clear own9 own8 bel8 own6 HOf H67 HF6 HW7 HT p0' p1' hb8 b68
                    go_wp2
                    go_roundw
                    case rel => exact ⟨M + 1, M + 1, D, A, by omega, by go_num, rfl, rfl, own10, bel9⟩
                    case measure => simp [intOf]; omega
                  · go_simp
                    refine hK _ _ ?_
                    clear hK K
                    refine wpAny_ready (rs := [2, 4]) (by kernel_rfl) (by simp) ?_
                    refine AllReady.cons rfl (fun K hK => ?_) (AllReady.cons rfl (fun K hK => ?_) AllReady.nil)
                    · go_simp
                      refine hK _ _ ?_
                      clear hK K
                      refine wpAny_ready (rs := [4]) (by kernel_rfl) (by simp) ?_
                      refine AllReady.cons rfl (fun K hK => ?_) AllReady.nil
                      go_simp
                      refine hK _ _ ?_
                      clear hK K
                      refine wpAny_ready (rs := [5]) (by kernel_rfl) (by simp) ?_
                      refine AllReady.cons rfl (fun K hK => ?_) AllReady.nil
                      go_simp
                      go_wp2_with (first | (go_at_call 60; rw [← HW7.out]; refine HOf.out.mono ?_; rintro e w8 ⟨rfl, hb8⟩; have b68 := below_pl hb8 H67.out; have own8 := own_below own6 b68; have bel8 := below_pl b68 bel6; have hs8 := bel8.size; obtain ⟨p0', p1', _, _⟩ := two_cells (below_block b68 HF6.out)))
                      refine wpAny_ready (rs := [6]) (by kernel_rfl) (by simp) ?_
                      refine AllReady.cons rfl (fun K hK => ?_) AllReady.nil
                      go_simp
                      refine hK _ _ ?_
                      clear hK K
                      refine wpAny_ready (rs := [7]) (by kernel_rfl) (by simp) ?_
                      refine AllReady.cons rfl (fun K hK => ?_) AllReady.nil
                      go_simp
                      refine hK _ _ ?_
                      clear hK K
                      refine wpAny_ready (rs := [8]) (by kernel_rfl) (by simp) ?_
                      refine AllReady.cons rfl (fun K hK => ?_) AllReady.nil
                      refine step_append_segP (by rfl) (.tmp 67) (.tmp 74) 42 (by rfl) w2.heap.size 90 i0 (.agg #[.int .i64 0, .int .i64 0, .int .i64 0, .int .i64 0, .int .i64 0, .int .i64 0, .int .i64 0, .int .i64 0]) 8 64 Try.underlying42 hi hz0 hz1 hz2 rfl (by decide) (.slice co M d) M (kcells (Grain.rawB (x.s.ra.take M))) (by rfl) (own8.alloc _) (some ⟨w8.heap.size, 0, none⟩) 1 1 (kc ⟨t, Grain.one v⟩) (by rfl) (by simp) (eight_seg _ _ _ _ _ _ _ _ _ _) (by rfl) (kc_one _) (by unfold maxLen; omega) (by omega) (by simp; omega) ?_
                      intro v' w9 own9 gr9 hat9
                      obtain ⟨A, D, hvA, _, _⟩ := own_open own9
                      subst hvA
                      have bel9 := (bel8.alloc hs8 _).grown gr9 (by simp; omega) (fun j hj => (own8.lt j hj).1)
                      refine hK _ _ ?_
                      clear hK K hat9 gr9
                      refine wpAny_ready (rs := [9]) (by kernel_rfl) (by simp) ?_
                      refine AllReady.cons rfl (fun K hK => ?_) AllReady.nil
                      go_simp
                      refine hK _ _ ?_
                      clear hK K
                      refine wpAny_done (by kernel_rfl) ?_ _
                      have own10 : w9.ownsRow w2.heap.size 90 8 (.slice A (M + 1) D) (M + 1) (kcells (Grain.rawB (x.s.ra.take (M + 1)))) := by rw [HT.out, kcells_snoc]; exact own9
                      clear own9 own8 bel8 own6 HOf H67 HF6 HW7 HT p0' p1' hb8 b68
                      go_wp2
                      go_roundw
                      case rel => exact ⟨M + 1, M + 1, D, A, by omega, by go_num, rfl, rfl, own10, bel9⟩
                      case measure => simp [intOf]; omega
                    · go_simp
                      refine hK _ _ ?_
                      clear hK K
                      refine wpAny_ready (rs := [2, 5]) (by kernel_rfl) (by simp) ?_
                      refine AllReady.cons rfl (fun K hK => ?_) (AllReady.cons rfl (fun K hK => ?_) AllReady.nil)
                      · go_simp
                        refine hK _ _ ?_
                        clear hK K
                        refine wpAny_ready (rs := [5]) (by kernel_rfl) (by simp) ?_
                        refine AllReady.cons rfl (fun K hK => ?_) AllReady.nil
                        go_simp
                        go_wp2_with (first | (go_at_call 60; rw [← HW7.out]; refine HOf.out.mono ?_; rintro e w8 ⟨rfl, hb8⟩; have b68 := below_pl hb8 H67.out; have own8 := own_below own6 b68; have bel8 := below_pl b68 bel6; have hs8 := bel8.size; obtain ⟨p0', p1', _, _⟩ := two_cells (below_block b68 HF6.out)))
                        refine wpAny_ready (rs := [6]) (by kernel_rfl) (by simp) ?_
                        refine AllReady.cons rfl (fun K hK => ?_) AllReady.nil
                        go_simp
                        refine hK _ _ ?_
                        clear hK K
                        refine wpAny_ready (rs := [7]) (by kernel_rfl) (by simp) ?_
                        refine AllReady.cons rfl (fun K hK => ?_) AllReady.nil
                        go_simp
                        refine hK _ _ ?_
                        clear hK K
                        refine wpAny_ready (rs := [8]) (by kernel_rfl) (by simp) ?_
                        refine AllReady.cons rfl (fun K hK => ?_) AllReady.nil
                        refine step_append_segP (by rfl) (.tmp 67) (.tmp 74) 42 (by rfl) w2.heap.size 90 i0 (.agg #[.int .i64 0, .int .i64 0, .int .i64 0, .int .i64 0, .int .i64 0, .int .i64 0, .int .i64 0, .int .i64 0]) 8 64 Try.underlying42 hi hz0 hz1 hz2 rfl (by decide) (.slice co M d) M (kcells (Grain.rawB (x.s.ra.take M))) (by rfl) (own8.alloc _) (some ⟨w8.heap.size, 0, none⟩) 1 1 (kc ⟨t, Grain.one v⟩) (by rfl) (by simp) (eight_seg _ _ _ _ _ _ _ _ _ _) (by rfl) (kc_one _) (by unfold maxLen; omega) (by omega) (by simp; omega) ?_
                        intro v' w9 own9 gr9 hat9
                        obtain ⟨A, D, hvA, _, _⟩ := own_open own9
                        subst hvA
                        have bel9 := (bel8.alloc hs8 _).grown gr9 (by simp; omega) (fun j hj => (own8.lt j hj).1)
                        refine hK _ _ ?_
                        clear hK K hat9 gr9
                        refine wpAny_ready (rs := [9]) (by kernel_rfl) (by simp) ?_
                        refine AllReady.cons rfl (fun K hK => ?_) AllReady.nil
                        go_simp
                        refine hK _ _ ?_
                        clear hK K
                        refine wpAny_done (by kernel_rfl) ?_ _
                        have own10 : w9.ownsRow w2.heap.size 90 8 (.slice A (M + 1) D) (M + 1) (kcells (Grain.rawB (x.s.ra.take (M + 1)))) := by rw [HT.out, kcells_snoc]; exact own9
                        clear own9 own8 bel8 own6 HOf H67 HF6 HW7 HT p0' p1' hb8 b68
                        go_wp2
                        go_roundw
                        case rel => exact ⟨M + 1, M + 1, D, A, by omega, by go_num, rfl, rfl, own10, bel9⟩
                        case measure => simp [intOf]; omega
                      · go_simp
                        go_wp2_with (first | (go_at_call 60; rw [← HW7.out]; refine HOf.out.mono ?_; rintro e w8 ⟨rfl, hb8⟩; have b68 := below_pl hb8 H67.out; have own8 := own_below own6 b68; have bel8 := below_pl b68 bel6; have hs8 := bel8.size; obtain ⟨p0', p1', _, _⟩ := two_cells (below_block b68 HF6.out)))
                        refine wpAny_ready (rs := [2]) (by kernel_rfl) (by simp) ?_
                        refine AllReady.cons rfl (fun K hK => ?_) AllReady.nil
                        go_simp
                        refine hK _ _ ?_
                        clear hK K
                        refine wpAny_ready (rs := [6]) (by kernel_rfl) (by simp) ?_
                        refine AllReady.cons rfl (fun K hK => ?_) AllReady.nil
                        go_simp
                        refine hK _ _ ?_
                        clear hK K
                        refine wpAny_ready (rs := [7]) (by kernel_rfl) (by simp) ?_
                        refine AllReady.cons rfl (fun K hK => ?_) AllReady.nil
                        go_simp
                        refine hK _ _ ?_
                        clear hK K
                        refine wpAny_ready (rs := [8]) (by kernel_rfl) (by simp) ?_
                        refine AllReady.cons rfl (fun K hK => ?_) AllReady.nil
                        refine step_append_segP (by rfl) (.tmp 67) (.tmp 74) 42 (by rfl) w2.heap.size 90 i0 (.agg #[.int .i64 0, .int .i64 0, .int .i64 0, .int .i64 0, .int .i64 0, .int .i64 0, .int .i64 0, .int .i64 0]) 8 64 Try.underlying42 hi hz0 hz1 hz2 rfl (by decide) (.slice co M d) M (kcells (Grain.rawB (x.s.ra.take M))) (by rfl) (own8.alloc _) (some ⟨w8.heap.size, 0, none⟩) 1 1 (kc ⟨t, Grain.one v⟩) (by rfl) (by simp) (eight_seg _ _ _ _ _ _ _ _ _ _) (by rfl) (kc_one _) (by unfold maxLen; omega) (by omega) (by simp; omega) ?_
                        intro v' w9 own9 gr9 hat9
                        obtain ⟨A, D, hvA, _, _⟩ := own_open own9
                        subst hvA
                        have bel9 := (bel8.alloc hs8 _).grown gr9 (by simp; omega) (fun j hj => (own8.lt j hj).1)
                        refine hK _ _ ?_
                        clear hK K hat9 gr9
                        refine wpAny_ready (rs := [9]) (by kernel_rfl) (by simp) ?_
                        refine AllReady.cons rfl (fun K hK => ?_) AllReady.nil
                        go_simp
                        refine hK _ _ ?_
                        clear hK K
                        refine wpAny_done (by kernel_rfl) ?_ _
                        have own10 : w9.ownsRow w2.heap.size 90 8 (.slice A (M + 1) D) (M + 1) (kcells (Grain.rawB (x.s.ra.take (M + 1)))) := by rw [HT.out, kcells_snoc]; exact own9
                        clear own9 own8 bel8 own6 HOf H67 HF6 HW7 HT p0' p1' hb8 b68
                        go_wp2
                        go_roundw
                        case rel => exact ⟨M + 1, M + 1, D, A, by omega, by go_num, rfl, rfl, own10, bel9⟩
                        case measure => simp [intOf]; omega
                · have ek : x.s.ra.take M = x.s.ra := List.take_of_length_le (by have := HRl.out; omega)
                  rw [ek] at own
                  have hlen : M = (Grain.rawB x.s.ra).length := own_klen own
                  go_wp2
                  go_meet
                  exact ⟨co, M, d, rfl, by rw [HEnt.out]; exact own_seg' own, by rw [HEnt.out]; exact hlen, (fun _ b off e => by have := own_at3 own e; omega : kcells (Grain.ent x.s P) ≠ [] → ∀ b off, co = some ⟨b, off, none⟩ → b ≠ B), bel⟩
            · have e0' : (P.k == 0) = false := by simpa using e0
              have hent : Grain.ent x.s P = if P.k = 2 then x.s.co else x.s.fi := by unfold Grain.ent; rw [if_neg e0]
              have belw2 : Below w.heap.size w w2 := below_pl bel2 bel1
              have HEnt := hide hent
              clear hent
              go_wp2
              go_meet
              exact ⟨bo, m1, c1, rfl, by rw [HEnt.out]; exact seg1.below belw2, by rw [HEnt.out]; exact HM1, by rw [HEnt.out]; exact (fun hne b off e => by subst e; have := seg_lt3 seg1 hne; omega : kcells (if P.k = 2 then x.s.co else x.s.fi) ≠ [] → ∀ b off, bo = some ⟨b, off, none⟩ → b ≠ B), Below.refl _ _⟩
          case rest =>
          obtain ⟨bo3, m3, c3, rfl, seg3, HM3, HNE, R3⟩ := hcut
          obtain ⟨w3, hw3⟩ : ∃ w3, w3 = wc := ⟨_, rfl⟩
          rw [← hw3] at R3 seg3 ⊢
          obtain ⟨L3, hL3⟩ : ∃ L3, L3 = Grain.ent x.s P := ⟨_, rfl⟩
          rw [← hL3] at seg3 HM3 HNE
          have HL3 := hide hL3
          have hl5 : m3 ≤ 500 := by rw [HM3.out, hL3]; exact (Grain.ent_ok HSR.out P).2
          have P3 := below_block R3 P2
          have A4 := A3.below R3
          have bel3 : Below w1.heap.size w1 w3 := below_pl R3 bel2
          clear hw3 hL3 R3 P2 A3 bel2 x0 x1 x2 x3 x4 x5 x6 x7 x8 y0 y1 y2 seg1 HM1
          have BQ' := BQ
          go_wp2
          go_loopw [9, 79] (fun s9 i wr => ∃ (j N2 : Nat) (s2 : Grain.Sm), j ≤ m3 ∧ s9 = .int .i64 N2 ∧ i = .int .i64 j ∧ N2 ≤ N + j ∧ SumAt wr B s2 ∧ Below w1.heap.size w1 wr ∧ Seg wr bo3 (kcells L3) ∧ wr.heap[Q]? = some (.cells #[.int .i64 P.k, .int .i64 P.f, .int .i64 P.t] 112 (0, 0)) ∧ Hid (s2 = Grain.accB (L3.take j) P.f P.t s) ∧ Hid (N2 = N + (Grain.winB (L3.take j) P.f P.t).length)) (fun _ i _ => m3 - (intOf i).toNat)
          case atStart => exact ⟨0, N, s, Nat.zero_le _, rfl, rfl, by omega, A4, bel3, seg3, P3, rfl, rfl⟩
          case round =>
            clear A4 bel3 seg3 P3
            obtain ⟨j, N2, s2, hj, rfl, rfl, hN2, A5, bel5, seg5, P5, HA, HN2⟩ := hrel
            by_cases hjl : j < m3
            · have hjl' : j < L3.length := by rw [← HM3.out]; exact hjl
              obtain ⟨kb, ko', rfl, hkb, hkc⟩ := seg_bucket seg5 hjl'
              obtain ⟨K, hK⟩ : ∃ K, K = Grain.bk L3 j := ⟨_, rfl⟩
              have q := hkc j hjl'
              rw [← hK] at q
              obtain ⟨c0, c1, c2, c3, c4, c5, c6, c7⟩ := q
              have HT : Hid (Grain.accB (L3.take (j + 1)) P.f P.t s = if P.f ≤ K.a ∧ K.a < P.t then Grain.join s2 K.s else s2) := by
                show _ = _
                rw [Grain.accB_take _ _ _ hjl', ← hK, ← HA.out]
              have HT2 : Hid (N + (Grain.winB (L3.take (j + 1)) P.f P.t).length = N2 + if P.f ≤ K.a ∧ K.a < P.t then 1 else 0) := by
                show _ = _
                rw [Grain.winB_take _ _ hjl', ← hK, HN2.out]; omega
              obtain ⟨Z, hZ⟩ : ∃ Z, Z = wr.heap.size := ⟨_, rfl⟩
              obtain ⟨W7, hW7⟩ : ∃ W7, W7 = wr.alloc (ko K) := ⟨_, rfl⟩
              have hb7 : Below wr.heap.size wr W7 := by rw [hW7]; exact (Below.refl _ _).alloc (Nat.le_refl _) _
              have F7 : W7.heap[Z]? = some (ko K) := by rw [hW7, hZ]; exact heap_alloc_new wr _
              have A7 := A5.below hb7
              have P7 := below_block hb7 P5
              have seg7 := seg5.below hb7
              have bel7 : Below w1.heap.size w1 W7 := below_pl hb7 bel5
              have HW7 : Hid (W7 = wr.alloc (.cells #[.int .i64 K.a, .int .i64 K.s.c, .int .i64 K.s.t, .int .i64 K.s.mn, .int .i64 K.s.mx, .int .i64 K.s.f, .int .i64 K.s.l, .int .i64 K.s.r] 90)) := hW7
              have HZ := hide hZ
              have hQl : Q < wr.heap.size := lt_of_block P5
              have hBl : B < wr.heap.size := lt_of_block A5
              obtain ⟨y0, y1, y2⟩ := three3 P7
              obtain ⟨q0, q1, q2, q3, q4, q5, q6, q7⟩ := eight_cells F7
              clear hK hW7 hZ hkc hjl' HA HN2 hb7 A5 P5 seg5 bel5
              go_upto_region 24 with fail
              rw [← HW7.out, ← HZ.out]
              clear HW7 HZ c0 c1 c2 c3 c4 c5 c6 c7 hQl hBl
              by_cases g1 : P.f ≤ K.a
              · by_cases g2 : K.a < P.t
                · obtain ⟨a0, a1, a2, a3, a4, a5, a6⟩ := A7.cells
                  go_wp2_with fail
                  refine (rjoin_let s2 K.s W7).mono ?_
                  rintro e w8 ⟨J, HJ, rfl, hb8⟩
                  have A8 := A7.below hb8
                  have P8 := below_block hb8 P7
                  have seg8 := seg7.below hb8
                  have bel8 : Below w1.heap.size w1 w8 := below_pl hb8 bel7
                  obtain ⟨d0, d1, d2, d3, d4, d5, d6⟩ := A8.cells
                  obtain ⟨e0, e1, e2, e3, e4, e5, e6⟩ := seven_thaw A8
                  have HA2 : Hid (J = Grain.accB (L3.take (j + 1)) P.f P.t s) := by show _ = _; rw [HT.out, if_pos ⟨g1, g2⟩]; exact HJ.out
                  have HN3 : Hid (N2 + 1 = N + (Grain.winB (L3.take (j + 1)) P.f P.t).length) := by show _ = _; rw [HT2.out, if_pos ⟨g1, g2⟩]
                  clear HT HT2 HJ a0 a1 a2 a3 a4 a5 a6 A7 P7 seg7 bel7 y0 y1 y2 q0 q1 q2 q3 q4 q5 q6 q7 g1 g2 F7
                  go_wp2
                  go_roundw
                  case rel => exact ⟨j + 1, N2 + 1, J, by omega, by go_num, by go_num, by omega, A8.set J, below_set7 bel8 bB _ _ _ _ _ _ _, seg_set7 seg8 HNE.out _ _ _ _ _ _ _, far7 P8 (by omega) _ _ _ _ _ _ _, HA2, HN3⟩
                  case measure => simp [intOf]; omega
                · have HA2 : Hid (s2 = Grain.accB (L3.take (j + 1)) P.f P.t s) := by show _ = _; rw [HT.out, if_neg (by omega)]
                  have HN3 : Hid (N2 = N + (Grain.winB (L3.take (j + 1)) P.f P.t).length) := by show _ = _; rw [HT2.out, if_neg (by omega)]; rfl
                  clear HT HT2
                  go_wp2
                  go_roundw
                  case rel => exact ⟨j + 1, N2, s2, by omega, rfl, by go_num, by omega, A7, bel7, seg7, P7, HA2, HN3⟩
                  case measure => simp [intOf]; omega
              · have HA2 : Hid (s2 = Grain.accB (L3.take (j + 1)) P.f P.t s) := by show _ = _; rw [HT.out, if_neg (by omega)]
                have HN3 : Hid (N2 = N + (Grain.winB (L3.take (j + 1)) P.f P.t).length) := by show _ = _; rw [HT2.out, if_neg (by omega)]; rfl
                clear HT HT2
                go_wp2
                go_roundw
                case rel => exact ⟨j + 1, N2, s2, by omega, rfl, by go_num, by omega, A7, bel7, seg7, P7, HA2, HN3⟩
                case measure => simp [intOf]; omega
            · have ek : L3.take j = L3 := List.take_of_length_le (by have := HM3.out; omega)
              have hent := Grain.ent_ok HSR.out P
              have T3 : Hid (s2 = Grain.rdS x.s (l.take (k + 1))) := by
                show _ = _
                rw [T1.out, HA.out, ek, (Grain.psum_ent HSR.out HMay.out).1, HL3.out]
                exact Grain.foldl_inB P.f P.t HG.out (by omega) _ hent.1 (by omega)
              have T4 : Hid (N2 = Grain.rdN x.s (l.take (k + 1))) := by
                show _ = _
                rw [T2.out, HN2.out, ek, (Grain.psum_ent HSR.out HMay.out).2, HL3.out]
              clear T1 T2 HA HN2 ek hent
              go_wp2
              go_roundw
              case rel => exact ⟨k + 1, N2, s2, by omega, rfl, by go_num, by omega, A5, bel5, T3, T4, HO2⟩
              case measure => simp [intOf]; omega
        · have hno : Grain.fol x.s l = false := by
            rw [Bool.eq_false_iff]
            intro h
            have := (Grain.fol_iff x.s l).1 h k HKL.out
            have h2 := HB'.out
            rw [this] at h2
            cases h2
          have HR : Hid (Grain.read x.s l = (Grain.zero, 0, 8)) := by
            show _ = _
            rw [Grain.read, if_neg (by simp [← HE.out]), if_pos hno]
          have Z3 := Z1.below bel2
          obtain ⟨z0, z1, z2, z3, z4, z5, z6⟩ := Z3.cells
          obtain ⟨y0, y1, y2, y3, y4, y5, y6⟩ := seven_thaw Z3
          clear hno
          go_wp2
          exact bodyPost_ret (v := .tuple #[.agg #[.int .i64 0, .int .i64 0, .int .i64 0, .int .i64 0, .int .i64 0, .int .i64 0, .int .i64 0], .int .i64 0, .int .i64 8]) (by simp [results, Try.results34, go_sem, z0, z1, z2, z3, z4, z5, z6]) rfl ⟨Grain.zero, 0, 8, rfl, HR, below_set7 (below_pl bel2 bel1) (by have := HX.out; omega) _ _ _ _ _ _ _⟩
      · have ek : l.take k = l := List.take_of_length_le (by have := HN.out; omega)
        have hall : Grain.fol x.s l = true := by
          rw [Grain.fol_iff]
          intro i hi
          exact HO.out i (by have := HN.out; omega)
        have HR : Hid (Grain.read x.s l = (s, (N : Int), 0)) := by
          show _ = _
          rw [Grain.read, if_neg (by simp [← HE.out]), if_neg (by rw [hall]; decide), H1.out, H2.out, ek]
        obtain ⟨g0, g1, g2, g3, g4, g5, g6⟩ := A1.cells
        have Z3 := Z1.below belr
        obtain ⟨z0, z1, z2, z3, z4, z5, z6⟩ := Z3.cells
        obtain ⟨y0, y1, y2, y3, y4, y5, y6⟩ := seven_thaw Z3
        clear ek hall H1 H2
        go_wp2
        exact bodyPost_ret (v := .tuple #[.agg #[.int .i64 s.c, .int .i64 s.t, .int .i64 s.mn, .int .i64 s.mx, .int .i64 s.f, .int .i64 s.l, .int .i64 s.r], .int .i64 N, .int .i64 0]) (by simp [results, Try.results34, go_sem, z0, z1, z2, z3, z4, z5, z6]) rfl ⟨s, N, 0, rfl, HR, below_set7 (below_pl belr bel1) (by have := HX.out; omega) _ _ _ _ _ _ _⟩
  · have HR : Hid (Grain.read x.s l = (Grain.zero, 0, E)) := by
      show _ = _
      rw [Grain.read, ← HE.out, if_pos hw]
    have hne : (E != 0) = true := by simpa using hw
    obtain ⟨z0, z1, z2, z3, z4, z5, z6⟩ := Z1.cells
    obtain ⟨y0, y1, y2, y3, y4, y5, y6⟩ := seven_thaw Z1
    go_wp2
    exact bodyPost_ret (v := .tuple #[.agg #[.int .i64 0, .int .i64 0, .int .i64 0, .int .i64 0, .int .i64 0, .int .i64 0, .int .i64 0], .int .i64 0, .int .i64 E]) (by simp [results, Try.results34, go_sem, z0, z1, z2, z3, z4, z5, z6]) rfl ⟨Grain.zero, 0, E, rfl, HR, below_set7 bel1 (by have := HX.out; omega) _ _ _ _ _ _ _⟩

end Go.Proofs.Ytfgablhgjbjbkae

/-
  The walk of PlanTells.
-/
namespace Go.Proofs.Ytfgablhgjbjbkae
open Go.RowKit Go.GrainU

set_option maxRecDepth 20000 in
set_option maxHeartbeats 8000000 in
theorem ptells_any (x : ShT) (l : List Grain.Pt) (ao : Option Addr) (n c : Nat) (f t : Int) (w : World) (hx : ShIn w x) (hcap : ShCap x) (hs : Seg w ao (pcells l)) (hn : n = l.length) (hL : n ≤ 10000000000000) :
    Calls Try.prog 8 #[x.v, .slice ao n c, .int .i64 f, .int .i64 t] w fun e w' => e = .returned (.bool true) ∧ Below w.heap.size w w' := by
  obtain ⟨X, hX⟩ : ∃ X, X = w.heap.size := ⟨_, rfl⟩
  obtain ⟨V, hV⟩ : ∃ V, V = w.alloc (so x) := ⟨_, rfl⟩
  have bel : Below w.heap.size w V := by rw [hV]; exact (Below.refl _ _).alloc (Nat.le_refl _) _
  have F0 : V.heap[X]? = some (so x) := by rw [hV, hX]; exact heap_alloc_new w _
  have inV := hx.below bel
  have hsV := hs.below bel
  have HV : Hid (V = w.alloc (.cells #[.slice x.a0 x.s.se.length x.c0, .slice x.a1 x.s.ra.length x.c1, .slice x.a2 x.s.fi.length x.c2, .slice x.a3 x.s.co.length x.c3, .int .i64 x.s.rf, .int .i64 x.s.ff, .int .i64 x.s.ft, .int .i64 x.s.cf, .int .i64 x.s.ct] 44)) := hV
  have Hv : Hid (x.v = .agg #[.slice x.a0 x.s.se.length x.c0, .slice x.a1 x.s.ra.length x.c1, .slice x.a2 x.s.fi.length x.c2, .slice x.a3 x.s.co.length x.c3, .int .i64 x.s.rf, .int .i64 x.s.ff, .int .i64 x.s.ft, .int .i64 x.s.cf, .int .i64 x.s.ct]) := rfl
  have HX := hide hX
  have HN := hide hn
  have hL2 : n ≤ 1000000000000000 := by omega
  obtain ⟨b, hb⟩ : ∃ b, b = Grain.cvr x.s l f t := ⟨_, rfl⟩
  have HCA : Hid (∀ w', Below V.heap.size V w' → Calls Try.prog 28 #[.agg #[.slice x.a0 x.s.se.length x.c0, .slice x.a1 x.s.ra.length x.c1, .slice x.a2 x.s.fi.length x.c2, .slice x.a3 x.s.co.length x.c3, .int .i64 x.s.rf, .int .i64 x.s.ff, .int .i64 x.s.ft, .int .i64 x.s.cf, .int .i64 x.s.ct], .slice ao n c, .int .i64 f, .int .i64 t] w' fun e w'' => e = .returned (.bool b) ∧ Below w'.heap.size w' w'') := fun w' hb' => covers_any x.s _ _ _ _ l ao n c f t b w' (hsV.below hb') hn hL2 hb
  have HCB : Hid (∀ w', Below V.heap.size V w' → Calls Try.prog 29 #[.agg #[.slice x.a0 x.s.se.length x.c0, .slice x.a1 x.s.ra.length x.c1, .slice x.a2 x.s.fi.length x.c2, .slice x.a3 x.s.co.length x.c3, .int .i64 x.s.rf, .int .i64 x.s.ff, .int .i64 x.s.ft, .int .i64 x.s.cf, .int .i64 x.s.ct], .slice ao n c, .int .i64 f, .int .i64 t] w' fun e w'' => e = .returned (.bool b) ∧ Below w'.heap.size w' w'') := fun w' hb' => rcovers_any x.s _ _ _ _ l ao n c f t b w' (hsV.below hb') hn hL2 hb
  have Xl : X < V.heap.size := lt_of_block F0
  obtain ⟨b0, b1, b2, b3, b4, b5, b6, b7, b8⟩ := nine_cells F0
  have HS : Hid (∀ w', Below V.heap.size V w' → w'.cell? ⟨X, 0, none⟩ = some (.slice x.a0 x.s.se.length x.c0) ∧ w'.cell? ⟨X, 1, none⟩ = some (.slice x.a1 x.s.ra.length x.c1) ∧ w'.cell? ⟨X, 2, none⟩ = some (.slice x.a2 x.s.fi.length x.c2) ∧ w'.cell? ⟨X, 3, none⟩ = some (.slice x.a3 x.s.co.length x.c3) ∧ w'.cell? ⟨X, 4, none⟩ = some (.int .i64 x.s.rf) ∧ w'.cell? ⟨X, 5, none⟩ = some (.int .i64 x.s.ff) ∧ w'.cell? ⟨X, 6, none⟩ = some (.int .i64 x.s.ft) ∧ w'.cell? ⟨X, 7, none⟩ = some (.int .i64 x.s.cf) ∧ w'.cell? ⟨X, 8, none⟩ = some (.int .i64 x.s.ct)) := fun w' hb' => ⟨(hb'.cell (by exact Xl)).trans b0, (hb'.cell (by exact Xl)).trans b1, (hb'.cell (by exact Xl)).trans b2, (hb'.cell (by exact Xl)).trans b3, (hb'.cell (by exact Xl)).trans b4, (hb'.cell (by exact Xl)).trans b5, (hb'.cell (by exact Xl)).trans b6, (hb'.cell (by exact Xl)).trans b7, (hb'.cell (by exact Xl)).trans b8⟩
  have R1 : Below V.heap.size V V.drew := below_drewN (Below.refl _ _) 1
  have hbb : (b != b) = false := by simp
  rw [Hv.out]
  clear hV hX hx hs hn hb b0 b1 b2 b3 b4 b5 b6 b7 b8
  go_enter Try.func8, Try.ntmps8
  go_upto_region 1 with fail
  rw [← HV.out, ← HX.out]
  go_cut [27] from 17 to 28 (fun v wx => v = .bool false ∧ Below V.heap.size V wx)
  case first =>
    go_region_held3 (fun w' => w'.cell? ⟨X, 0, none⟩ = some (.slice x.a0 x.s.se.length x.c0) ∧ w'.cell? ⟨X, 1, none⟩ = some (.slice x.a1 x.s.ra.length x.c1) ∧ w'.cell? ⟨X, 2, none⟩ = some (.slice x.a2 x.s.fi.length x.c2) ∧ w'.cell? ⟨X, 3, none⟩ = some (.slice x.a3 x.s.co.length x.c3) ∧ w'.cell? ⟨X, 4, none⟩ = some (.int .i64 x.s.rf) ∧ w'.cell? ⟨X, 5, none⟩ = some (.int .i64 x.s.ff) ∧ w'.cell? ⟨X, 6, none⟩ = some (.int .i64 x.s.ft) ∧ w'.cell? ⟨X, 7, none⟩ = some (.int .i64 x.s.cf) ∧ w'.cell? ⟨X, 8, none⟩ = some (.int .i64 x.s.ct)) (exact HS.out _ (by assumption))
      (first
        | (go_at_call 28; refine (HCA.out _ (by assumption)).mono ?_; rintro e w8 ⟨rfl, hb8⟩; have R2 := below_pl hb8 (by assumption))
        | (go_at_call 29; refine (HCB.out _ (by assumption)).mono ?_; rintro e w9 ⟨rfl, hb9⟩; have R3 := below_pl hb9 (by assumption)))
    all_goals
      go_wp2
      go_meet
      refine ⟨?_, by assumption⟩
      first | rfl | simp
  case rest =>
  obtain ⟨rfl, R2⟩ := hcut
  obtain ⟨w2, hw2⟩ : ∃ w2, w2 = wc := ⟨_, rfl⟩
  rw [← hw2] at R2 ⊢
  have F2 := below_block R2 F0
  have in2 := inV.below R2
  have hs2 := hsV.below R2
  have bel2 : Below w.heap.size w w2 := below_pl R2 bel
  obtain ⟨r, hr⟩ : ∃ r, r = Grain.choose x.s f t := ⟨_, rfl⟩
  have HR := hide hr
  clear hw2 R2 R1 HS HCA HCB F0 inV hsV bel HV hr
  obtain ⟨b0, b1, b2, b3, b4, b5, b6, b7, b8⟩ := nine_cells F2
  go_wp2_with fail
  rw [← Hv.out]
  refine (choose_any x f t r w2 in2 HR.out).mono ?_
  rintro e w3 ⟨co, m3, d3, rfl, own3, hm3, hb3⟩
  have F3 := below_block hb3 F2
  have in3 := in2.below hb3
  have hs3 := hs2.below hb3
  have seg3 := own_seg' own3
  have bel3 : Below w.heap.size w w3 := below_pl hb3 bel2
  have HL3 := hide (own_plen own3)
  clear b0 b1 b2 b3 b4 b5 b6 b7 b8 hb3 F2 in2 hs2 bel2 own3
  obtain ⟨b0, b1, b2, b3, b4, b5, b6, b7, b8⟩ := nine_cells F3
  go_wp2_with fail
  rw [← Hv.out]
  refine (rchoose_any x f t r w3 in3 HR.out).mono ?_
  rintro e w4 ⟨co4, m4, d4, rfl, own4, hm4, hb4⟩
  have F4 := below_block hb4 F3
  have in4 := in3.below hb4
  have hs4 := hs3.below hb4
  have seg3' := seg3.below hb4
  have seg4 := own_seg' own4
  have bel4 : Below w.heap.size w w4 := below_pl hb4 bel3
  have e34 : m4 = m3 := by have := own_plen own4; have := HL3.out; omega
  subst e34
  obtain ⟨L, E⟩ := r
  simp only at seg3' seg4 HL3 ⊢
  have hEE : (E != E) = false := by simp
  clear b0 b1 b2 b3 b4 b5 b6 b7 b8 hb4 F3 in3 hs3 bel3 own4 seg3
  go_wp2_with fail
  refine (psame_any L co co4 m4 d3 d4 w4 seg3' seg4 HL3.out (by omega)).mono ?_
  rintro e w5 ⟨rfl, hb5⟩
  have F5 := below_block hb5 F4
  have in5 := in4.below hb5
  have hs5 := hs4.below hb5
  have bel5 : Below w.heap.size w w5 := below_pl hb5 bel4
  clear hb5 F4 in4 hs4 bel4 seg3' seg4
  obtain ⟨b0, b1, b2, b3, b4, b5, b6, b7, b8⟩ := nine_cells F5
  go_wp2_with fail
  rw [← Hv.out]
  refine (read_any x l ao n c w5 in5 hcap hs5 HN.out hL2).mono ?_
  rintro e w6 ⟨J, N, E6, rfl, HR1, hb6⟩
  have F6 := below_block hb6 F5
  have in6 := in5.below hb6
  have hs6 := hs5.below hb6
  have bel6 : Below w.heap.size w w6 := below_pl hb6 bel5
  obtain ⟨Y, hY⟩ : ∃ Y, Y = w6.heap.size := ⟨_, rfl⟩
  obtain ⟨W7, hW7⟩ : ∃ W, W = w6.alloc (.cells #[.int .i64 J.c, .int .i64 J.t, .int .i64 J.mn, .int .i64 J.mx, .int .i64 J.f, .int .i64 J.l, .int .i64 J.r] 62) := ⟨_, rfl⟩
  have hb7 : Below w6.heap.size w6 W7 := by rw [hW7]; exact (Below.refl _ _).alloc (Nat.le_refl _) _
  have A7 : SumAt W7 Y J := by show W7.heap[Y]? = _; rw [hW7, hY]; exact heap_alloc_new w6 _
  have F7 := below_block hb7 F6
  have in7 := in6.below hb7
  have hs7 := hs6.below hb7
  have bel7 : Below w.heap.size w W7 := below_pl hb7 bel6
  have HW7 := hide hW7
  have HY := hide hY
  have Xl6 : X < w6.heap.size := lt_of_block F6
  clear b0 b1 b2 b3 b4 b5 b6 b7 b8 hb6 hb7 hW7 hY F5 in5 hs5 bel5 in6 hs6 bel6
  go_upto_region 8 with fail
  rw [← HW7.out, ← HY.out]
  clear HW7 HY Xl6 F6
  obtain ⟨b0, b1, b2, b3, b4, b5, b6, b7, b8⟩ := nine_cells F7
  go_wp2_with fail
  rw [← Hv.out]
  refine (rread_any x l ao n c W7 in7 hs7 HN.out hL).mono ?_
  rintro e w8 ⟨J2, N2, E2, rfl, HR2, hb8⟩
  have h := HR1.out
  rw [HR2.out] at h
  simp only [Prod.mk.injEq] at h
  obtain ⟨rfl, rfl, rfl⟩ := h
  have A8 := A7.below hb8
  have bel8 : Below w.heap.size w w8 := below_pl hb8 bel7
  have bel9 : Below w.heap.size w (w8.alloc (.cells #[.int .i64 J2.c, .int .i64 J2.t, .int .i64 J2.mn, .int .i64 J2.mx, .int .i64 J2.f, .int .i64 J2.l, .int .i64 J2.r] 62)) := bel8.alloc bel8.size _
  obtain ⟨a0, a1, a2, a3, a4, a5, a6⟩ := A8.cells
  have Yl : Y < w8.heap.size := lt_of_block A8
  have hE2 : (E2 == E2) = true := by simp
  have hN2 : (N2 == N2) = true := by simp
  clear b0 b1 b2 b3 b4 b5 b6 b7 b8 hb8 F7 in7 hs7 bel7 HR1 HR2
  go_wp2
  go_ret
  exact ⟨rfl, bel9⟩

end Go.Proofs.Ytfgablhgjbjbkae

/-
  For every input, PlanTells returns true: Covers, Choose and Read tell which parts cover a window of any shelf, which are chosen, and what any come to. No condition.
-/
namespace Go.Proofs.Ytfgablhgjbjbkae
open Go.ChangeShapes Go.WideShapes Go.ChangeAt Go.RowKit Go.GrainU

theorem ptellstrods {H : Type} {enc : TypeId × Value → H} {P : Program} {w : World} {base : Nat} {sp : Nat → Bool} {held : Bool} {t0 t1 t2 t3 : TypeId} {args : Array Value} {ds : List (DataW H)} {p : List MemPlace} (h : DataW.TrodAll enc P w base sp held [t0, t1, t2, t3] args.toList ds p) :
    ∃ v0 v1 v2 v3 d0 d1 d2 d3 p0 p1 p2 p3, args = #[v0, v1, v2, v3] ∧ ds = [d0, d1, d2, d3] ∧ p = p0 ++ (p1 ++ (p2 ++ (p3 ++ ([])))) ∧ DataW.Trod enc P w base sp held t0 v0 d0 p0 ∧ DataW.Trod enc P w base sp held t1 v1 d1 p1 ∧ DataW.Trod enc P w base sp held t2 v2 d2 p2 ∧ DataW.Trod enc P w base sp held t3 v3 d3 p3 := by
  obtain ⟨v0, vs0, d0, ds0, p0, q0, e0, rfl, rfl, h0, r0⟩ := trodAll_cons h
  obtain ⟨v1, vs1, d1, ds1, p1, q1, e1, rfl, rfl, h1, r1⟩ := trodAll_cons r0
  obtain ⟨v2, vs2, d2, ds2, p2, q2, e2, rfl, rfl, h2, r2⟩ := trodAll_cons r1
  obtain ⟨v3, vs3, d3, ds3, p3, q3, e3, rfl, rfl, h3, r3⟩ := trodAll_cons r2
  obtain ⟨rfl, rfl, rfl⟩ := trodAll_nil r3
  refine ⟨v0, v1, v2, v3, d0, d1, d2, d3, p0, p1, p2, p3, ?_, rfl, rfl, h0, h1, h2, h3⟩
  cases args
  simp_all

theorem ptells_array {cs : Array Value} {l : List Value} (h : cs.toList = l) : cs = l.toArray := by rw [← h]

set_option maxRecDepth 100000 in
theorem ptells_lifted (os : Os) (started : os.Started) (H : Type) (enc : TypeId × Value → H) :
    ReturnsInHanded {} Try.checked os 8 .any (Rows.planTellsSpec.pre6 enc Try.prog Try.f8 Rows.planTellsRow.domain false) (Rows.planTellsSpec.post enc Try.prog Try.f8 false true false false) := by
  refine returnsInHanded_of_change_sized (C := Try.checked) Try.own started (by kernel_rfl) Try.func8
    (ChangeSpec.witness6 (enc := enc) (C := Try.checked) false ⟨#[], #[.agg #[.slice none 0 0, .slice none 0 0, .slice none 0 0, .slice none 0 0, .int .i64 0, .int .i64 0, .int .i64 0, .int .i64 0, .int .i64 0], .slice none 0 0, .int .i64 0, .int .i64 0], []⟩ 8 (by kernel_rfl) (by kernel_rfl) (by kernel_rfl) (by kernel_rfl)) ?_
  intro W base args ds gs before hval0 hW hcnd hsz0 _
  have hval : ∀ (j : Nat) t v, Try.f8.params[j]? = some t → args[j]? = some v → Value.okWide Try.prog W .any base t v := hval0
  have hsz : (DataW.weightsEach Try.prog (Try.f8.params.toList ++ Rows.planTellsSpec.plain.varTypes Try.prog) (ds ++ gs)).all (· ≤ reachBytes) = true := hsz0
  have hW' := hW
  obtain ⟨p, q, hA0, hV, rfl, hfz, hnd⟩ := hW
  have hA : DataW.TrodAll enc Try.prog W 0 (fun _ => true) true Try.f8.params.toList args.toList ds p := hA0
  rw [Try.params8] at hA hval hsz
  obtain ⟨v0, v1, v2, v3, d0, d1, d2, d3, p0, p1, p2, p3, rfl, rfl, rfl, h0, h1, h2, h3⟩ := ptellstrods hA
  obtain ⟨rfl, rfl⟩ := trodVars_none hV
  have lt0 : ∀ x ∈ p0, x.block < W.heap.size := by obtain ⟨m, hm⟩ := h0; exact DataW.trod_lt m _ _ _ hm
  obtain ⟨cs, rfl, hcs⟩ := okWide_struct Try.underlying44 (hval 0 44 v0 rfl rfl)
  have k0 := h0
  obtain ⟨f0, hf0⟩ := h0
  obtain ⟨x, ht, hin, hcp⟩ := open_shelf_cap hf0 (fun k hk => of_decide_eq_true (List.all_eq_true.1 hsz k (DataW.weights_mem_each (j := 0) rfl rfl k hk)))
  have hv : Value.agg cs = x.v := by
    simp only [Value.cells] at ht
    rw [ptells_array ht]
    rfl
  have lt1 : ∀ x ∈ p1, x.block < W.heap.size := by obtain ⟨m, hm⟩ := h1; exact DataW.trod_lt m _ _ _ hm
  obtain ⟨a1, n1, c1, rfl⟩ := okWide_slice Try.underlying66 (hval 1 66 v1 rfl rfl)
  have k1 := h1
  obtain ⟨f1, hf1⟩ := h1
  obtain ⟨l1, e1, s1, b1⟩ := open_pts hf1 (fun k hk => of_decide_eq_true (List.all_eq_true.1 hsz k (DataW.weights_mem_each (j := 1) rfl rfl k hk)))
  obtain ⟨z2, rfl, rfl, rfl, w2⟩ := open_int Try.underlying3 (hval 2 3 v2 rfl rfl) h2
  obtain ⟨z3, rfl, rfl, rfl, w3⟩ := open_int Try.underlying3 (hval 3 3 v3 rfl rfl) h3
  clear hA0 hval0 hsz0 hsz
  rw [hv] at hW' k0 ⊢
  refine (ptells_any x l1 a1 n1 c1 z2 z3 W hin hcp s1 e1 (by omega)).mono fun e W' ⟨he, bel⟩ => ?_
  subst he
  exact ⟨_, rfl, _, _, _, [], _, [], hW', trodAll_mk1 (shut_bool Try.underlying4 _), (trodAll_cons_mk (Below.trod Try.laidOut (by kernel_rfl) (of_decide_eq_true (by kernel_rfl)) k0 bel lt0) (trodAll_cons_mk (Below.trod Try.laidOut (by kernel_rfl) (of_decide_eq_true (by kernel_rfl)) k1 bel lt1) (trodAll_cons_mk (shut_int Try.underlying3 w2) (trodAll_cons_mk (shut_int Try.underlying3 w3) trodAll_mk0)))), rfl, bel.frame _, fun h => by cases h⟩

theorem ptells_holds : Rows.PlanTellsSaid :=
  OpenClaim.holds_of_wide 8 Try.f8 rfl rfl rfl rfl rfl rfl rfl ⟨rfl, rfl, rfl, rfl, rfl⟩ rfl rfl rfl rfl rfl (by kernel_rfl) Try.func8 (by kernel_rfl)
    (of_decide_eq_true (by kernel_rfl)) (by unfold Func.isWrapper; first | (rw [if_pos (by decide +kernel)]; kernel_rfl) | (rw [if_neg (by decide +kernel)]; exact ⟨rfl, rfl⟩))
    (fun os started H enc _ => ptells_lifted os started H enc)

end Go.Proofs.Ytfgablhgjbjbkae
