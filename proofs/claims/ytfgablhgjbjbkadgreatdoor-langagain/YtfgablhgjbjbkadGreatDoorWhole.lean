/-
  For every text, LangAgain returns true: a text's expression is right, and is printed as a text of the same one, that is printed so again, if that is not too much; a fault leaves nothing. The listed variables of the library (internal/strconv.uint64pow10, math/bits.deBruijn32tab, math/bits.deBruijn64tab, strconv.ErrRange, strconv.ErrSyntax) start as the program's text lays them: the card ties them. No other condition.
-/
import Derived.Test.YtfgablhgjbjbkadGreatDoorRT
import Derived.Test.YtfgablhgjbjbkadGreatDoorRFa
import Derived.Defers
import Derived.Recover
import Derived.Test.YtfgablhgjbjbkadGreatDoorExD
import Derived.Test.YtfgablhgjbjbkadGreatDoorPTd
import Derived.Test.YtfgablhgjbjbkadGreatDoorPL
import Derived.KernelRfl
import Derived.Test.YtfgablhgjbjbkadGreatDoorExI
import Derived.Test.YtfgablhgjbjbkadGreatDoorExY
import Derived.Test.YtfgablhgjbjbkadGreatDoorOpenExpr
import Derived.Test.YtfgablhgjbjbkadGreatDoorCards
import Derived.Test.YtfgablhgjbjbkadGreatDoorTie
import Derived.LaidMore
import Derived.Lib.LaidTab
import Derived.MakeChecks
import Derived.LaidHandle
import Derived.Stop.Joined
import Derived.Stop.LaidErr
import Derived.SevenTiedAt
import Derived.ChangeMaps5
/-
  deeper walked.
-/
namespace Go.GrainU
open Go.RowKit

theorem dprL_take {l : List ET} {k n : Nat} (h : k < l.length) : dprL (exL (l.take (k + 1))) n = (dprL (exL (l.take k)) n || dpr (l[k]).ex n) := by
  rw [List.take_add_one, List.getElem?_eq_getElem h]
  simp only [Option.toList_some]
  generalize l.take k = a
  induction a with
  | nil => simp [exL, dprL]
  | cons x r ih => simp [exL, dprL, ih, Bool.or_assoc]

theorem dprL_at {l : List ET} {k n : Nat} (h : k < l.length) (h' : dpr (l[k]).ex n = true) : dprL (exL l) n = true := by
  induction l generalizing k with
  | nil => simp at h
  | cons x r ih =>
    match k, h with
    | 0, _ => simp at h'; simp [exL, dprL, h']
    | k + 1, h => simp only [exL, dprL]; rw [ih (k := k) (by simpa using h) (by simpa using h')]; simp

theorem dprL_end {l : List ET} {k n : Nat} (hk : k = l.length) (h : dprL (exL (l.take k)) n = false) : dprL (exL l) n = false := by
  rw [hk, List.take_length] at h; exact h

end Go.GrainU
namespace Go.Proofs.YtfgablhgjbjbkadGreatDoor
open Go.RowKit Go.GrainU

/-- deeper tells, of this expression, whatever the depth -/
abbrev Deeps (t : ET) : Prop := ∀ (k : Nat) (w : World), t.In w → k ≤ 100 → Calls Tryz.prog 27 #[eval t, .int .i64 (k : Nat)] w fun e w' => e = .returned (.bool (dpr t.ex k)) ∧ Below w.heap.size w w'

set_option maxHeartbeats 1000000 in
theorem dclos_of (t : ET) (ih : Deeps t) (k P : Nat) (w : World) (hin : t.In w) (hk : k ≤ 99) (hP : w.cell? ⟨P, 0, none⟩ = some (.int .i64 ((k : Int) + 1))) :
    Calls Tryz.prog 36 #[eval t, .pointer (some ⟨P, 0, none⟩)] w fun e w' => e = .returned (.bool (dpr t.ex k)) ∧ Below w.heap.size w w' := by
  have hl : P < w.heap.size := World.block_lt_of_cell? w _ hP
  have HIN := hide hin
  have HIH := hide (ih k)
  obtain ⟨D, hD⟩ : ∃ D, D = dpr t.ex k := ⟨_, rfl⟩
  rw [← hD] at HIH ⊢
  clear hD ih hin
  unfold eval at HIH ⊢
  generalize t.hd.ms.length = ml at *
  generalize t.hd.bs.length = bl at *
  generalize t.kids.length = kl at *
  have bel : Below w.heap.size w (w.alloc (.cells #[.int .i64 t.hd.kind, .int .i64 t.hd.n, .int .i64 t.hd.range, .string t.hd.word, .slice t.sp.ma ml t.sp.mc, .slice t.sp.ba bl t.sp.bc, .slice t.sp.ka kl t.sp.kc] 26)) := (Below.refl _ _).alloc (Nat.le_refl _) _
  have e1 : ((k : Int) + 1) - 1 = (k : Int) := by omega
  go_enter Tryz.func36, Tryz.ntmps36
  go_wp2_with fail
  refine (HIH.out _ (ET.In.below bel t HIN.out) (by omega)).mono ?_
  rintro e w1 ⟨rfl, b1⟩
  go_wp2_with fail
  go_ret
  exact ⟨rfl, bel.trans (b1.mono bel.size)⟩

set_option maxHeartbeats 1000000 in
theorem dindex_any (kids : List ET) (ih : ∀ t ∈ kids, Deeps t) (n P : Nat) (hn : n ≤ 99)
    (ka : Option Addr) (kl kc : Nat) (w : World) (hK : Seg w ka (ecells kids)) (hkl : kl = kids.length) (lK : kl ≤ 9223372036854775806) (hL : InL w kids) (hP : w.cell? ⟨P, 0, none⟩ = some (.int .i64 ((n : Int) + 1))) :
    Calls Tryz.prog 29 #[.slice ka kl kc, .func (.func 36) #[] #[.pointer (some ⟨P, 0, none⟩)]] w fun e w' => (∃ i : Int, e = .returned (.int .i64 i) ∧ decide (0 ≤ i) = dprL (exL kids) n) ∧ Below w.heap.size w w' := by
  have HK := hide hkl
  have hPl : P < w.heap.size := World.block_lt_of_cell? w _ hP
  have HP := hide hP
  clear hkl hP
  go_enter Tryz.func29, Tryz.ntmps29
  go_wp2
  go_loopw [8] (fun i wr => ∃ k : Nat, k ≤ kl ∧ i = .int .i64 k ∧ Hid (dprL (exL (kids.take k)) n = false) ∧ Below w.heap.size w wr) (fun i _ => kl - (intOf i).toNat)
  case atStart => exact ⟨0, Nat.zero_le _, rfl, by show _ = _; simp [exL, dprL], Below.refl _ _⟩
  case round =>
    obtain ⟨k, hk, rfl, HJ, bel⟩ := hrel
    by_cases hlt : k < kl
    · have hkl : k < kids.length := by rw [← HK.out]; exact hlt
      obtain ⟨b, off, rfl, hbl, hcell⟩ := seg_expr hK hkl
      obtain ⟨t, ht⟩ : ∃ t, t = kids[k] := ⟨_, rfl⟩
      have hc := (hcell k hkl).below bel
      rw [← ht] at hc
      have hmem : t ∈ kids := by rw [ht]; exact List.getElem_mem hkl
      have HT := hide (inL_mem hL t hmem)
      have Ht := hide ht
      clear ht hcell hK
      obtain ⟨c0, c1, c2, c3, c4, c5, c6⟩ := hc
      go_wp2_with fail
      refine (dclos_of t (ih t hmem) n P _ (ET.In.below bel t HT.out) hn ((bel.cell (p := ⟨P, 0, none⟩) (by exact hPl)).trans HP.out)).mono ?_
      rintro e w1 ⟨rfl, b1⟩
      have bel1 : Below w.heap.size w w1 := bel.trans (b1.mono bel.size)
      obtain ⟨D, hD⟩ : ∃ D, D = dpr t.ex n := ⟨_, rfl⟩
      rw [← hD]
      have HD := hide hD
      clear hD
      cases D with
      | true =>
        go_wp2
        go_ret
        exact ⟨⟨k, rfl, by rw [dprL_at hkl (by rw [← Ht.out]; exact HD.out.symm)]; simp⟩, bel1⟩
      | false =>
        have HJ' : Hid (dprL (exL (kids.take (k + 1))) n = false) := by show _ = _; rw [dprL_take hkl, HJ.out, ← Ht.out, ← HD.out]; rfl
        go_wp2
        go_roundw
        case rel => exact ⟨k + 1, by omega, by go_num, HJ', bel1⟩
        case measure => simp [intOf]; omega
    · go_wp2
      go_ret
      exact ⟨⟨-1, rfl, by rw [dprL_end (by have := HK.out; omega) HJ.out]; decide⟩, bel⟩

theorem dcont_any (kids : List ET) (ih : ∀ t ∈ kids, Deeps t) (n P : Nat) (hn : n ≤ 99)
    (ka : Option Addr) (kl kc : Nat) (w : World) (hK : Seg w ka (ecells kids)) (hkl : kl = kids.length) (lK : kl ≤ 9223372036854775806) (hL : InL w kids) (hP : w.cell? ⟨P, 0, none⟩ = some (.int .i64 ((n : Int) + 1))) :
    Calls Tryz.prog 18 #[.slice ka kl kc, .func (.func 36) #[] #[.pointer (some ⟨P, 0, none⟩)]] w fun e w' => e = .returned (.bool (dprL (exL kids) n)) ∧ Below w.heap.size w w' := by
  have HI := hide (dindex_any kids ih n P hn ka kl kc w hK hkl lK hL hP)
  clear hkl hP
  obtain ⟨D, hD⟩ : ∃ D, D = dprL (exL kids) n := ⟨_, rfl⟩
  rw [← hD]
  have HD := hide hD
  clear hD
  go_enter Tryz.func18, Tryz.ntmps18
  go_wp2_with fail
  refine HI.out.mono ?_
  rintro e w1 ⟨⟨i, rfl, hi⟩, b1⟩
  rw [← HD.out] at hi
  go_wp2
  go_ret
  exact ⟨rfl, b1⟩

set_option maxHeartbeats 1000000 in
theorem deeper_any : ∀ t : ET, Deeps t := by
  refine ET.ind ?_
  intro h s kids ih k w hin hk100
  obtain ⟨kd, n, rg, wd, ms, bs⟩ := h
  obtain ⟨ma, mc, ba, bc, ka, kc⟩ := s
  simp only [ET.In] at hin
  obtain ⟨⟨_, _, hK⟩, ⟨_, _, lK, _⟩, hL⟩ := hin
  have hdp : dpr (ET.ex (.node ⟨kd, n, rg, wd, ms, bs⟩ ⟨ma, mc, ba, bc, ka, kc⟩ kids)) k = match k with | 0 => true | k + 1 => dprL (exL kids) k := by
    cases k <;> simp [ET.ex, dpr]
  rw [hdp]
  show Calls Tryz.prog _ #[.agg #[.int .i64 kd, .int .i64 n, .int .i64 rg, .string wd, .slice ma ms.length mc, .slice ba bs.length bc, .slice ka kids.length kc], .int .i64 (k : Nat)] w _
  generalize ms.length = ml
  generalize bs.length = bl
  obtain ⟨kl, hkl⟩ : ∃ x, x = kids.length := ⟨_, rfl⟩
  rw [← hkl] at lK ⊢
  have HK := hide hkl
  clear hkl hdp
  cases k with
  | zero =>
    have bel : Below w.heap.size w ((w.alloc (.cells #[.int .i64 kd, .int .i64 n, .int .i64 rg, .string wd, .slice ma ml mc, .slice ba bl bc, .slice ka kl kc] 26)).alloc (.cells #[.int .i64 0] 3)) := ((Below.refl _ _).alloc (Nat.le_refl _) _).alloc (by simp) _
    go_enter Tryz.func27, Tryz.ntmps27
    go_wp2_with fail
    go_ret
    exact ⟨rfl, bel⟩
  | succ k =>
    simp only [Int.natCast_add]
    obtain ⟨V, hV⟩ : ∃ V, V = (w.alloc (.cells #[.int .i64 kd, .int .i64 n, .int .i64 rg, .string wd, .slice ma ml mc, .slice ba bl bc, .slice ka kl kc] 26)).alloc (.cells #[.int .i64 ((k : Int) + 1)] 3) := ⟨_, rfl⟩
    have bel : Below w.heap.size w V := by rw [hV]; exact ((Below.refl _ _).alloc (Nat.le_refl _) _).alloc (by simp) _
    have F1 : V.heap[w.heap.size + 1]? = some (.cells #[.int .i64 ((k : Int) + 1)] 3 (0, 0)) := by
      have := heap_alloc_new (w.alloc (.cells #[.int .i64 kd, .int .i64 n, .int .i64 rg, .string wd, .slice ma ml mc, .slice ba bl bc, .slice ka kl kc] 26)) (.cells #[.int .i64 ((k : Int) + 1)] 3)
      rw [hV]; simpa using this
    have HC := hide (dcont_any kids ih k (w.heap.size + 1) (by omega) ka kl kc V (hK.below bel) HK.out lK (hL.below bel) (one_cell7 F1).1)
    have HV := hide hV
    have h1 : ¬ ((k : Int) + 1) < 1 := by omega
    clear hV F1
    go_enter Tryz.func27, Tryz.ntmps27
    go_wp2_with fail
    rw [← HV.out]
    refine HC.out.mono ?_
    rintro e w1 ⟨rfl, b1⟩
    go_wp2_with fail
    go_ret
    exact ⟨rfl, bel.trans (b1.mono bel.size)⟩

end Go.Proofs.YtfgablhgjbjbkadGreatDoor

/-
  whole and caught walked.
-/
namespace Go.GrainU
open Go.RowKit

theorem pos_lt {s : ByteArray} {r : List UInt8} (h : r <:+ s.data.toList) : pos s r < s.size ↔ r ≠ [] := by
  have := suf_len h
  unfold pos
  constructor
  · intro h1 h2; rw [h2] at h1; simp at h1
  · intro h1
    have : 0 < r.length := List.length_pos_iff.2 h1
    omega

end Go.GrainU
namespace Go.Proofs.YtfgablhgjbjbkadGreatDoor
open Go.RowKit Go.GrainU

/-- what the reading of a whole text leaves -/
abbrev WPost (s : ByteArray) (B : Nat) (w : World) (e : Ending) (w' : World) : Prop :=
  ((∃ t : ET, prs s.data.toList = .ok t.ex ∧ e = .returned (eval t) ∧ t.In (cut w.heap.size w')) ∨ ∃ f, prs s.data.toList = .error f ∧ e = .panicked [thr s f]) ∧ w.grownBy w' (some B)

set_option maxHeartbeats 4000000 in
theorem whole_any (s : ByteArray) (B : Nat) (w0 w : World) (h : Rd 43 w B s ⟨s.data.toList, 0⟩) (hs63 : s.size ≤ 9223372036854775807) (hv : ErrV w0) (hb0 : Below w0.heap.size w0 w) (hB0 : w0.heap.size ≤ B) :
    Calls Tryz.prog 16 #[.pointer (some ⟨B, 0, none⟩)] w (WPost s B w) := by
  have hB := h.lt
  obtain ⟨X, hX⟩ : ∃ X, X = w.heap.size := ⟨_, rfl⟩
  obtain ⟨V, hV⟩ : ∃ V, V = w.alloc (.cells #[.int .i64 0, .int .i64 0, .int .i64 0, .string ⟨#[]⟩, .slice none 0 0, .slice none 0 0, .slice none 0 0] 26) := ⟨_, rfl⟩
  have R0 : Rd 43 V B s ⟨s.data.toList, 0⟩ := by rw [hV]; exact h.alloc _
  have G0 : w.grownBy V (some B) := by rw [hV]; exact grown_trans (World.grownBy.refl _ _) (World.grownBy_alloc _ _ none) (fun _ hk => by cases hk)
  have FX0 : V.heap[X]? = some (.cells #[.int .i64 0, .int .i64 0, .int .i64 0, .string ⟨#[]⟩, .slice none 0 0, .slice none 0 0, .slice none 0 0] 26 (0, 0)) := by rw [hV, hX]; exact heap_alloc_new w _
  have hXB : X ≠ B := by omega
  have hXw : w.heap.size ≤ X := by omega
  have c0 := R0.cells.1
  rw [hV] at c0
  have hlen : s.data.toList.length = s.size := (size_len s).symm
  have HV := hide hV
  have HX := hide hX
  clear hV hX h
  by_cases h1 : 2000 < s.size
  · have HE : Hid (prs s.data.toList = .error (4, s.size)) := by show _ = _; unfold prs; rw [if_pos (by omega), hlen]
    have h1' : (2000 : Int) < (s.size : Int) := by omega
    clear hlen
    go_enter Tryz.func16, Tryz.ntmps16
    go_wp2_with fail
    refine (throw_any _ _ _).mono ?_
    intro e w2 hh
    rw [hh.1, hh.2]
    clear hh
    go_wp2_with fail
    rw [← HV.out]
    exact ⟨rfl, .inr ⟨_, HE.out, by simp [thr]⟩, G0⟩
  · have h1' : ¬ (2000 : Int) < (s.size : Int) := by omega
    have hs : s.size ≤ 2000 := by omega
    have HP : Hid (∀ t : ET, ∀ q : St, smm (fct 20) ⟨s.data.toList, 0⟩ = .ok (t.ex, q) → prs s.data.toList = (if skip q.r ≠ [] then .error (2, (skip q.r).length) else if dpr t.ex 20 = true then .error (4, 0) else .ok t.ex)) := by
      intro t q hq
      unfold prs
      rw [if_neg (by omega), hq]
    have HPE : Hid (∀ f, smm (fct 20) ⟨s.data.toList, 0⟩ = .error f → prs s.data.toList = .error f) := by
      intro f hf
      unfold prs
      rw [if_neg (by omega), hf]
    have HSC := hide (sum_any s ⟨s.data.toList, 0⟩ B w0 V R0 hs (by simp) hv (hb0.grown G0 hb0.size (fun j hj => by cases hj; exact hB0)) hB0)
    obtain ⟨S, hS⟩ : ∃ S, S = V.heap.size := ⟨_, rfl⟩
    have hXS : X < S := by rw [hS]; exact lt_of_block FX0
    have hBS : B < S := by rw [hS]; exact R0.lt
    unfold EPost at HSC; rw [← hS] at HSC
    have HS := hide hS
    clear hS hlen h1 hv hb0
    go_enter Tryz.func16, Tryz.ntmps16
    go_wp2_with fail
    rw [← HV.out, ← HX.out]
    refine HSC.out.mono ?_
    rintro e w2 ⟨⟨t, q, hx, rfl, IN2, R2, hq⟩ | ⟨f, hf, rfl⟩, g⟩
    rotate_left
    · have HE := hide (HPE.out f hf)
      have G := grown_trans G0 g (fun _ hk => .inl hk)
      clear hf
      go_wp2_with fail
      exact ⟨rfl, .inr ⟨_, HE.out, rfl⟩, G⟩
    have HPR := hide (HP.out t q hx)
    have G2 := grown_trans G0 g (fun _ hk => .inl hk)
    have FX2 := grown_block g FX0 hXB
    have hS2 : S ≤ w2.heap.size := by have := g.size; have := HS.out; omega
    clear g hx G0 FX0 R0 HSC c0 HP HPE
    obtain ⟨Y, hY⟩ : ∃ Y, Y = w2.heap.size := ⟨_, rfl⟩
    have hYB : Y ≠ B := by omega
    obtain ⟨w3, hw3⟩ : ∃ v, v = w2.alloc (.cells #[.int .i64 t.hd.kind, .int .i64 t.hd.n, .int .i64 t.hd.range, .string t.hd.word, .slice t.sp.ma t.hd.ms.length t.sp.mc, .slice t.sp.ba t.hd.bs.length t.sp.bc, .slice t.sp.ka t.kids.length t.sp.kc] 26) := ⟨_, rfl⟩
    have R3 : Rd 43 w3 B s q := by rw [hw3]; exact R2.alloc _
    have G3 : w.grownBy w3 (some B) := by rw [hw3]; exact grown_trans G2 (World.grownBy_alloc _ _ none) (fun _ hk => by cases hk)
    have FX3 : w3.heap[X]? = some (.cells #[.int .i64 0, .int .i64 0, .int .i64 0, .string ⟨#[]⟩, .slice none 0 0, .slice none 0 0, .slice none 0 0] 26 (0, 0)) := by rw [hw3, Below.heap_alloc _ _ _ (by omega)]; exact FX2
    have FY3 : w3.heap[Y]? = some (.cells #[.int .i64 t.hd.kind, .int .i64 t.hd.n, .int .i64 t.hd.range, .string t.hd.word, .slice t.sp.ma t.hd.ms.length t.sp.mc, .slice t.sp.ba t.hd.bs.length t.sp.bc, .slice t.sp.ka t.kids.length t.sp.kc] 26 (0, 0)) := by rw [hw3, hY]; exact heap_alloc_new w2 _
    have IN3 : t.In (cut S w3) := by rw [hw3]; exact IN2.grown (B := B) (grown_trans (World.grownBy.refl _ _) (World.grownBy_alloc _ _ none) (fun _ hk => by cases hk)) hBS
    have HW3 := hide hw3
    have HY := hide hY
    clear hw3 hY R2 G2 FX2 IN2
    obtain ⟨c0, c1, c2⟩ := R3.cells
    have hsuf := (skip_suf q.r).trans R3.suf
    have hpl := pos_lt hsuf
    have HBG := hide (begin_any s q B w3 R3 hs)
    obtain ⟨K, hK⟩ : ∃ K, K = pos s (skip q.r) := ⟨_, rfl⟩
    rw [← hK] at HBG hpl
    have HK := hide hK
    have hsuf' := suf_len hsuf
    clear hK hsuf c1 c2
    obtain ⟨y0, y1, y2, y3, y4, y5, y6⟩ := seven_cells FY3
    unfold eval
    go_wp2_with fail
    rw [← HW3.out, ← HY.out]
    refine HBG.out.mono ?_
    intro e w4 hh
    rw [hh.1, hh.2]
    clear hh HBG
    by_cases h2 : K < s.size
    · have HE : Hid (prs s.data.toList = .error (2, (skip q.r).length)) := by show _ = _; rw [HPR.out, if_pos (hpl.1 h2)]
      have h2' : (K : Int) < (s.size : Int) := by omega
      clear hpl
      go_wp2_with fail
      refine (throw_any _ _ w3).mono ?_
      intro e w5 hh
      rw [hh.1, hh.2]
      clear hh
      go_wp2_with fail
      exact ⟨rfl, .inr ⟨_, HE.out, by rw [HK.out]; rfl⟩, G3⟩
    · have h2' : ¬ (K : Int) < (s.size : Int) := by omega
      have hnil : skip q.r = [] := by
        rcases Classical.em (skip q.r = []) with e | e
        · exact e
        · exact absurd (hpl.2 e) h2
      have HKS : Hid (K = s.size) := by show _ = _; rw [HK.out, hnil]; simp [pos]
      have HDP := hide (deeper_any t 20 w3 (ET.In.whole IN3) (by omega))
      have HPR2 : Hid (prs s.data.toList = if dpr t.ex 20 = true then .error (4, 0) else .ok t.ex) := by show _ = _; rw [HPR.out, if_neg (by rw [hnil]; simp)]
      unfold eval at HDP
      clear hpl hnil HPR
      rw [show ((20 : Nat) : Int) = 20 from rfl] at HDP
      go_wp2_with fail
      refine HDP.out.mono ?_
      rintro e w5 ⟨rfl, b5⟩
      have G5 : w.grownBy w5 (some B) := grown_trans G3 (grown_of_below b5) (fun _ hk => by cases hk)
      have FX5 := below_block b5 FX3
      have FY5 := below_block b5 FY3
      have IN5 : t.In (cut S w5) := IN3.grown (B := B) (grown_trans (World.grownBy.refl _ _) (grown_of_below b5) (fun _ hk => by cases hk)) hBS
      clear y0 y1 y2 y3 y4 y5 y6 b5 G3 FX3 FY3 IN3 HDP c0
      obtain ⟨y0, y1, y2, y3, y4, y5, y6⟩ := seven_cells FY5
      cases hd : dpr t.ex 20 with
      | true =>
        have HE : Hid (prs s.data.toList = .error (4, 0)) := by show _ = _; rw [HPR2.out, hd]; rfl
        clear hd HPR2
        go_wp2_with fail
        refine (throw_any _ _ w5).mono ?_
        intro e w6 hh
        rw [hh.1, hh.2]
        clear hh
        go_wp2_with fail
        exact ⟨rfl, .inr ⟨_, HE.out, by rw [HKS.out]; simp [thr]⟩, G5⟩
      | false =>
        have HE : Hid (prs s.data.toList = .ok t.ex) := by show _ = _; rw [HPR2.out, hd]; rfl
        obtain ⟨z0, z1, z2, z3, z4, z5, z6⟩ := seven_cells FX5
        obtain ⟨u0, u1, u2, u3, u4, u5, u6⟩ := thaw7 FX5
        have HGF := hide (put7_grown (t := t) G5 (X := X) hXw)
        have HIN := hide (ET.In.low (b' := w.heap.size) (by omega) t (put7_in (t := t) IN5 (X := X) (by omega)))
        clear hd HPR2 G5 FX5 FY5 IN5
        unfold put7 at HGF HIN
        go_wp2
        exact bodyPost_ret (v := eval t) (by simp [eval, results, Tryz.results16, go_sem, z0, z1, z2, z3, z4, z5, z6]) rfl ⟨.inl ⟨t, HE.out, rfl, HIN.out⟩, HGF.out⟩

theorem assert_thrown (W : World) (v : Value) : (Instr.typeAssert (.iface 57 v) 20 57 true).run Tryz.prog W = .ok (.tuple #[v, .bool true]) W := by kernel_rfl

set_option maxRecDepth 20000 in
set_option maxHeartbeats 1000000 in
theorem caught_any (a b : Int) (w : World) :
    Calls Tryz.prog 15 #[.iface 57 (.agg #[.int .i64 a, .int .i64 b])] w fun e w' => e = .returned (.agg #[.int .i64 a, .int .i64 b]) ∧ Below w.heap.size w w' := by
  have hta := assert_thrown
  go_enter Tryz.func15, Tryz.ntmps15
  go_wp2
  exact bodyPost_ret (v := .agg #[.int .i64 a, .int .i64 b]) (by simp [results, Tryz.results15, go_sem]) rfl ⟨rfl, ((Below.refl _ _).alloc (Nat.le_refl _) _).alloc (by simp) _⟩

end Go.Proofs.YtfgablhgjbjbkadGreatDoor

/-
  Parse walked.
-/
namespace Go.Proofs.YtfgablhgjbjbkadGreatDoor
open Go.RowKit Go.GrainU

set_option maxRecDepth 20000 in
set_option maxHeartbeats 2000000 in
theorem catch_idle (p q : Addr) (w : World) :
    CallsD Tryz.prog 14 #[.pointer (some p), .pointer (some q)] .returning w fun e u' w' => e = .returned (.tuple #[]) ∧ u' = .returning ∧ w' = w := by
  refine callsD_of_wpS Tryz.func14 rfl fun c₀ cs hu => ?_
  apply wpS_seq
  apply wpS_region
  simp [wpOpsS, go_sem, recoverD, hu, Tryz.ntmps14, Exit.thenS]
  have e1 : (#[Value.pointer (some p), Value.pointer (some q)] ++ ((Array.replicate 7 undef).setIfInBounds 1 Value.nilIface).setIfInBounds 0 Value.nilIface) = #[Value.pointer (some p), Value.pointer (some q), Value.nilIface, Value.nilIface, undef, undef, undef, undef, undef] := rfl
  rw [e1]
  refine wpS_of_wp ?_
  go_wp2
  cases c₀
  simp_all [bodyPostS, results, Tryz.results14]

set_option maxRecDepth 20000 in
set_option maxHeartbeats 2000000 in
theorem catch_panicking (P Q : Nat) (a b : Int) (older : List PanicEntry) (w : World) (hPQ : P ≠ Q) (x0 x1 x2 x3 x4 x5 x6 y0 y1 : Value) (FP : w.heap[P]? = some (.cells #[x0, x1, x2, x3, x4, x5, x6] 26 (0, 0))) (FQ : w.heap[Q]? = some (.cells #[y0, y1] 32 (0, 0))) :
    CallsD Tryz.prog 14 #[.pointer (some ⟨P, 0, none⟩), .pointer (some ⟨Q, 0, none⟩)] (.panicking ({ v := .iface 57 (.agg #[.int .i64 a, .int .i64 b]), recovered := false } :: older)) w fun e u' w' => e = .returned (.tuple #[]) ∧ u' = .panicking ({ v := .iface 57 (.agg #[.int .i64 a, .int .i64 b]), recovered := true } :: older) ∧ ∃ w1, Below w.heap.size w w1 ∧ w' = (((((((((w1.setCell ⟨P, 0, none⟩ (.int .i64 0)).setCell ⟨P, 1, none⟩ (.int .i64 0)).setCell ⟨P, 2, none⟩ (.int .i64 0)).setCell ⟨P, 3, none⟩ (.string ⟨#[]⟩)).setCell ⟨P, 4, none⟩ (.slice none 0 0)).setCell ⟨P, 5, none⟩ (.slice none 0 0)).setCell ⟨P, 6, none⟩ (.slice none 0 0)).setCell ⟨Q, 0, none⟩ (.int .i64 a)).setCell ⟨Q, 1, none⟩ (.int .i64 b)) := by
  refine callsD_of_wpS Tryz.func14 rfl fun c₀ cs hu => ?_
  apply wpS_seq
  apply wpS_region
  simp [wpOpsS, go_sem, recoverD, hu, Tryz.ntmps14, Exit.thenS]
  have e1 : (#[Value.pointer (some ⟨P, 0, none⟩), Value.pointer (some ⟨Q, 0, none⟩)] ++ ((Array.replicate 7 undef).setIfInBounds 1 (Value.iface 57 (Value.agg #[Value.int IntKind.i64 a, Value.int IntKind.i64 b]))).setIfInBounds 0 (Value.iface 57 (Value.agg #[Value.int IntKind.i64 a, Value.int IntKind.i64 b]))) = #[Value.pointer (some ⟨P, 0, none⟩), Value.pointer (some ⟨Q, 0, none⟩), Value.iface 57 (Value.agg #[Value.int IntKind.i64 a, Value.int IntKind.i64 b]), Value.iface 57 (Value.agg #[Value.int IntKind.i64 a, Value.int IntKind.i64 b]), undef, undef, undef, undef, undef] := rfl
  rw [e1]
  refine wpS_of_wp ?_
  go_wp2_with fail
  refine (caught_any a b w).mono ?_
  rintro e w1 ⟨rfl, b1⟩
  have FP1 := below_block b1 FP
  have FQ1 := below_block b1 FQ
  obtain ⟨p0, p1, p2, p3, p4, p5, p6⟩ := seven_cells FP1
  obtain ⟨u0, u1, u2, u3, u4, u5, u6⟩ := thaw7 FP1
  obtain ⟨q0, q1⟩ := two_cells FQ1
  have t0 : w1.frozen? ⟨Q, 0, none⟩ = false := by simp [World.frozen?, FQ1]
  have t1 : w1.frozen? ⟨Q, 1, none⟩ = false := by simp [World.frozen?, FQ1]
  have HB := hide b1
  clear b1 FP FQ FP1 FQ1
  go_wp2
  cases c₀
  simp_all [bodyPostS, results, Tryz.results14]
  exact ⟨w1, HB.out, rfl⟩

/-- what Parse leaves -/
abbrev PPost (s : ByteArray) (w : World) (e : Ending) (w' : World) : Prop :=
  ((∃ t : ET, prs s.data.toList = .ok t.ex ∧ e = .returned (.tuple #[eval t, .agg #[.int .i64 0, .int .i64 0]]) ∧ t.In (cut w.heap.size w')) ∨ ∃ f : Flt, prs s.data.toList = .error f ∧ e = .returned (.tuple #[.agg #[.int .i64 0, .int .i64 0, .int .i64 0, .string ⟨#[]⟩, .slice none 0 0, .slice none 0 0, .slice none 0 0], .agg #[.int .i64 f.1, .int .i64 (s.size - f.2 : Nat)]])) ∧ Below w.heap.size w w'

/-- the door, where all went well -/
theorem door_ret (s : ByteArray) (t : ET) (P : Nat) (w w1 : World) (x0 x1 x4 x5 x6 x7 x8 x9 : Value) (hx : prs s.data.toList = .ok t.ex) (FP : w1.heap[P]? = some (.cells #[.int .i64 t.hd.kind, .int .i64 t.hd.n, .int .i64 t.hd.range, .string t.hd.word, .slice t.sp.ma t.hd.ms.length t.sp.mc, .slice t.sp.ba t.hd.bs.length t.sp.bc, .slice t.sp.ka t.kids.length t.sp.kc] 26 (0, 0))) (FQ : w1.heap[P + 1]? = some (.cells #[.int .i64 0, .int .i64 0] 32 (0, 0))) (hin : t.In (cut w.heap.size w1)) (hb : Below w.heap.size w w1) :
    Leaves Tryz.prog Tryz.f7 #[x0, x1, .pointer (some ⟨P, 0, none⟩), .pointer (some ⟨P + 1, 0, none⟩), x4, x5, x6, x7, x8, x9] (PPost s w) [{ target := .fn (.func 14) #[.pointer (some ⟨P, 0, none⟩), .pointer (some ⟨P + 1, 0, none⟩)], args := #[] }] .returning w1 := by
  refine leaves_cons (f := 14) (args := #[.pointer (some ⟨P, 0, none⟩), .pointer (some ⟨P + 1, 0, none⟩)]) (by simp) (by simp [go_sem]) ?_
  refine (catch_idle _ _ _).mono ?_
  rintro e u' w'' ⟨rfl, rfl, rfl⟩
  obtain ⟨p0, p1, p2, p3, p4, p5, p6⟩ := seven_cells FP
  obtain ⟨q0, q1, _, _⟩ := two_cells FQ
  refine ⟨.tuple #[eval t, .agg #[.int .i64 0, .int .i64 0]], ?_, .inl ⟨t, hx, rfl, hin⟩, hb⟩
  simp [eval, results, Tryz.results7, go_sem, p0, p1, p2, p3, p4, p5, p6, q0, q1]

/-- the door, where a fault was thrown -/
theorem door_thrown (s : ByteArray) (f : Flt) (P : Nat) (w w1 : World) (x0 x1 x4 x5 x6 x7 x8 x9 : Value) (y0 y1 y2 y3 y4 y5 y6 z0 z1 : Value) (hx : prs s.data.toList = .error f) (FP : w1.heap[P]? = some (.cells #[y0, y1, y2, y3, y4, y5, y6] 26 (0, 0))) (FQ : w1.heap[P + 1]? = some (.cells #[z0, z1] 32 (0, 0))) (hb : Below w.heap.size w w1) (hP : w.heap.size ≤ P) :
    Leaves Tryz.prog Tryz.f7 #[x0, x1, .pointer (some ⟨P, 0, none⟩), .pointer (some ⟨P + 1, 0, none⟩), x4, x5, x6, x7, x8, x9] (PPost s w) [{ target := .fn (.func 14) #[.pointer (some ⟨P, 0, none⟩), .pointer (some ⟨P + 1, 0, none⟩)], args := #[] }] (.panicking [thr s f]) w1 := by
  refine leaves_cons (f := 14) (args := #[.pointer (some ⟨P, 0, none⟩), .pointer (some ⟨P + 1, 0, none⟩)]) (by simp) (by simp [go_sem]) ?_
  refine (catch_panicking P (P + 1) f.1 (s.size - f.2 : Nat) [] w1 (by omega) _ _ _ _ _ _ _ _ _ FP FQ).mono ?_
  rintro e u' w'' ⟨rfl, rfl, w2, b2, rfl⟩
  have FP2 := below_block b2 FP
  have FQ2 := below_block b2 FQ
  have hb2 : Below w.heap.size w w2 := hb.trans (b2.mono hb.size)
  refine ⟨.tuple #[.agg #[.int .i64 0, .int .i64 0, .int .i64 0, .string ⟨#[]⟩, .slice none 0 0, .slice none 0 0, .slice none 0 0], .agg #[.int .i64 f.1, .int .i64 (s.size - f.2 : Nat)]], ?_, .inr ⟨f, hx, rfl⟩, ?_⟩
  · have hPQ : P ≠ P + 1 := by omega
    simp [results, Tryz.results7, go_sem, World.cell?, World.setCell, Array.getElem?_modify, FP2, FQ2]
  · exact ((((((((hb2.setCell (by exact hP) _).setCell (by exact hP) _).setCell (by exact hP) _).setCell (by exact hP) _).setCell (by exact hP) _).setCell (by exact hP) _).setCell (by exact hP) _).setCell (by show _ ≤ P + 1; omega) _).setCell (by show _ ≤ P + 1; omega) _

set_option maxRecDepth 20000 in
set_option maxHeartbeats 4000000 in
theorem parse_any (s : ByteArray) (w : World) (hs63 : s.size ≤ 9223372036854775807) (hv : ErrV w) : Calls Tryz.prog 7 #[.string s] w (PPost s w) := by
  obtain ⟨P, hP⟩ : ∃ P, P = w.heap.size := ⟨_, rfl⟩
  obtain ⟨U, hU⟩ : ∃ U, U = ((w.alloc (.cells #[.int .i64 0, .int .i64 0, .int .i64 0, .string ⟨#[]⟩, .slice none 0 0, .slice none 0 0, .slice none 0 0] 26)).alloc (.cells #[.int .i64 0, .int .i64 0] 32)).alloc (.cells #[.string s, .int .i64 0, .int .i64 0] 43) := ⟨_, rfl⟩
  have b0 : Below w.heap.size w U := by rw [hU]; exact (((Below.refl _ _).alloc (Nat.le_refl _) _).alloc (by simp) _).alloc (by simp; omega) _
  have FP : U.heap[P]? = some (.cells #[.int .i64 0, .int .i64 0, .int .i64 0, .string ⟨#[]⟩, .slice none 0 0, .slice none 0 0, .slice none 0 0] 26 (0, 0)) := by
    rw [hU, hP, Below.heap_alloc _ _ _ (by simp; omega), Below.heap_alloc _ _ _ (by simp)]; exact heap_alloc_new w _
  have FQ : U.heap[P + 1]? = some (.cells #[.int .i64 0, .int .i64 0] 32 (0, 0)) := by
    rw [hU, hP, Below.heap_alloc _ _ _ (by simp)]
    have := heap_alloc_new (w.alloc (.cells #[.int .i64 0, .int .i64 0, .int .i64 0, .string ⟨#[]⟩, .slice none 0 0, .slice none 0 0, .slice none 0 0] 26)) (.cells #[.int .i64 0, .int .i64 0] 32)
    simpa using this
  have R0 : Rd 43 U (P + 1 + 1) s ⟨s.data.toList, 0⟩ := by
    refine ⟨List.suffix_refl _, ?_⟩
    have hp : pos s s.data.toList = 0 := by unfold pos; rw [size_len]; omega
    have := heap_alloc_new ((w.alloc (.cells #[.int .i64 0, .int .i64 0, .int .i64 0, .string ⟨#[]⟩, .slice none 0 0, .slice none 0 0, .slice none 0 0] 26)).alloc (.cells #[.int .i64 0, .int .i64 0] 32)) (.cells #[.string s, .int .i64 0, .int .i64 0] 43)
    rw [hU, hP, hp]; simpa using this
  have HWH := hide (fun (v : World) (hR : Rd 43 v (P + 1 + 1) s ⟨s.data.toList, 0⟩) (hb : Below w.heap.size w v) => whole_any s (P + 1 + 1) w v hR hs63 hv hb (by omega))
  have HU := hide hU
  have HP := hide hP
  have hmf : ∀ (fn : Fn) (first cap : Array Value) (w : World), (Instr.makeFunc fn first cap).run Tryz.prog w = .ok (.func fn first cap) w := fun _ _ _ _ => rfl
  clear hU hP
  go_enter_defers Tryz.func7, Tryz.ntmps7
  have hPB : P ≠ P + 1 + 1 := by omega
  have hQB : P + 1 ≠ P + 1 + 1 := by omega
  have R1 := R0.drewN 1
  have b1 := below_drewN b0 1
  have FP1 : U.drew.heap[P]? = some (.cells #[.int .i64 0, .int .i64 0, .int .i64 0, .string ⟨#[]⟩, .slice none 0 0, .slice none 0 0, .slice none 0 0] 26 (0, 0)) := FP
  have FQ1 : U.drew.heap[P + 1]? = some (.cells #[.int .i64 0, .int .i64 0] 32 (0, 0)) := FQ
  obtain ⟨q0, q1, _, _⟩ := two_cells FQ
  obtain ⟨q2, q3, _, _⟩ := two_cells FQ1
  have HGB : Hid (∀ v v' : World, Below w.heap.size w v → v.grownBy v' (some (P + 1 + 1)) → Below w.heap.size w v') := fun v v' hb hg => hb.grown hg hb.size (fun j hj => by cases hj; have := HP.out; omega)
  have hPw : w.heap.size ≤ P := by have := HP.out; omega
  go_wp2_with fail
  rw [← HU.out, ← HP.out]
  go_region_with
    (first
      | (go_at_call 16; refine (HWH.out _ (by first | exact R0 | exact R1) (by first | exact b0 | exact b1)).mono ?_; rintro e w2 ⟨⟨t, hx, rfl, hin⟩ | ⟨f, hf, rfl⟩, g⟩; rotate_left; (have FP2 := grown_block g (by first | exact FP | exact FP1) hPB; have FQ2 := grown_block g (by first | exact FQ | exact FQ1) hQB; have b2 := HGB.out _ _ (by first | exact b0 | exact b1) g; have HE := hide hf; clear hf; go_wp2_with fail; exact door_thrown s f P w _ _ _ _ _ _ _ _ _ _ _ _ _ _ _ _ _ _ HE.out FP2 FQ2 b2 hPw); have FP2 := grown_block g (by first | exact FP | exact FP1) hPB; have FQ2 := grown_block g (by first | exact FQ | exact FQ1) hQB; have b2 := HGB.out _ _ (by first | exact b0 | exact b1) g; obtain ⟨v0, v1, v2, v3, v4, v5, v6⟩ := seven_cells FP2; obtain ⟨u0, u1, u2, u3, u4, u5, u6⟩ := thaw7 FP2; obtain ⟨r0, r1, r2, r3⟩ := two_cells FQ2; unfold eval))
  all_goals
    have hUP : P + 1 + 1 < U.heap.size := R0.lt
    have HX := hide hx
    have hFPF : (((put7 w2 P t).setCell ⟨P + 1, 0, none⟩ (.int .i64 0)).setCell ⟨P + 1, 1, none⟩ (.int .i64 0)).heap[P]? = some (.cells #[.int .i64 t.hd.kind, .int .i64 t.hd.n, .int .i64 t.hd.range, .string t.hd.word, .slice t.sp.ma t.hd.ms.length t.sp.mc, .slice t.sp.ba t.hd.bs.length t.sp.bc, .slice t.sp.ka t.kids.length t.sp.kc] 26 (0, 0)) := by
      rw [setCell_far (by omega), setCell_far (by omega)]; exact put7_blk FP2
    have hFQF : (((put7 w2 P t).setCell ⟨P + 1, 0, none⟩ (.int .i64 0)).setCell ⟨P + 1, 1, none⟩ (.int .i64 0)).heap[P + 1]? = some (.cells #[.int .i64 0, .int .i64 0] 32 (0, 0)) := by
      have h0 : (put7 w2 P t).heap[P + 1]? = some (.cells #[.int .i64 0, .int .i64 0] 32 (0, 0)) := (put7_far (by omega)).trans FQ2
      simp [World.setCell, Array.getElem?_modify, h0]
    have hIN : t.In (cut w.heap.size (((put7 w2 P t).setCell ⟨P + 1, 0, none⟩ (.int .i64 0)).setCell ⟨P + 1, 1, none⟩ (.int .i64 0))) := by
      have h0 : t.In (cut U.heap.size w2) := hin
      exact ET.In.low (by omega) t (ET.In.far (ET.In.far (put7_in (t := t) h0 (X := P) (by omega)) (by omega)) (by omega))
    have hBF : Below w.heap.size w (((put7 w2 P t).setCell ⟨P + 1, 0, none⟩ (.int .i64 0)).setCell ⟨P + 1, 1, none⟩ (.int .i64 0)) := by
      unfold put7
      exact ((((((((b2.setCell (by exact hPw) _).setCell (by exact hPw) _).setCell (by exact hPw) _).setCell (by exact hPw) _).setCell (by exact hPw) _).setCell (by exact hPw) _).setCell (by exact hPw) _).setCell (by show _ ≤ P + 1; omega) _).setCell (by show _ ≤ P + 1; omega) _
    have H1 := hide hFPF
    have H2 := hide hFQF
    have H3 := hide hIN
    have H4 := hide hBF
    clear hFPF hFQF hIN hBF hx
    go_wp2_with fail
    exact door_ret s t P w _ _ _ _ _ _ _ _ _ HX.out H1.out H2.out H3.out H4.out

end Go.Proofs.YtfgablhgjbjbkadGreatDoor

/-
  The document's Equal walked, of two that are the same.
-/
namespace Go.GrainU
open Go.RowKit

theorem exL_at {k l : List ET} (h : exL k = exL l) : k.length = l.length ∧ ∀ j, (hk : j < k.length) → (hl : j < l.length) → (k[j]).ex = (l[j]).ex := by
  rw [exL_map, exL_map] at h
  have hl : k.length = l.length := by have := congrArg List.length h; simpa using this
  refine ⟨hl, fun j hk hj => ?_⟩
  have := congrArg (fun x => x[j]?) h
  simp only [List.getElem?_map] at this
  rw [List.getElem?_eq_getElem hk, List.getElem?_eq_getElem hj] at this
  simpa using this

end Go.GrainU
namespace Go.Proofs.YtfgablhgjbjbkadGreatDoor
open Go.RowKit Go.GrainU

/-- Equal tells so, of this expression and the same one elsewhere -/
abbrev Eqs (t : ET) : Prop := ∀ (u : ET) (w : World), t.ex = u.ex → t.In w → u.In w → Calls Tryz.prog 8 #[eval t, eval u] w fun e w' => e = .returned (.bool true) ∧ Below w.heap.size w w'

set_option maxHeartbeats 4000000 in
theorem equal_same : ∀ t : ET, Eqs t := by
  refine ET.ind ?_
  intro h s kids ih u w hex hin hin'
  obtain ⟨g, s', kids'⟩ := u
  simp only [ET.ex, Ex.mk.injEq] at hex
  obtain ⟨rfl, hL⟩ := hex
  obtain ⟨hkl, hkj⟩ := exL_at hL
  simp only [ET.In] at hin hin'
  obtain ⟨⟨hM, hB, hK⟩, ⟨lM, lB, lK, lW, _⟩, hI⟩ := hin
  obtain ⟨⟨hM', hB', hK'⟩, _, hI'⟩ := hin'
  obtain ⟨kd, n, rg, wd, ms, bs⟩ := h
  obtain ⟨ma, mc, ba, bc, ka, kc⟩ := s
  obtain ⟨ma', mc', ba', bc', ka', kc'⟩ := s'
  simp only at hM hB hK hM' hB' hK' lM lB lK lW
  show Calls Tryz.prog _ #[.agg #[.int .i64 kd, .int .i64 n, .int .i64 rg, .string wd, .slice ma ms.length mc, .slice ba bs.length bc, .slice ka kids.length kc], .agg #[.int .i64 kd, .int .i64 n, .int .i64 rg, .string wd, .slice ma' ms.length mc', .slice ba' bs.length bc', .slice ka' kids'.length kc']] w _
  rw [← hkl]
  obtain ⟨ml, hml⟩ : ∃ x, x = ms.length := ⟨_, rfl⟩
  obtain ⟨bn, hbn⟩ : ∃ x, x = bs.length := ⟨_, rfl⟩
  obtain ⟨kl, hk1⟩ : ∃ x, x = kids.length := ⟨_, rfl⟩
  rw [← hml] at lM ⊢
  rw [← hbn] at lB ⊢
  rw [← hk1] at lK ⊢
  have HML := hide hml
  have HBN := hide hbn
  have HKL := hide hk1
  have HKE := hide hkl
  have HKJ := hide hkj
  obtain ⟨V, hV⟩ : ∃ V, V = (w.alloc (.cells #[.int .i64 kd, .int .i64 n, .int .i64 rg, .string wd, .slice ma ml mc, .slice ba bn bc, .slice ka kl kc] 26)).alloc (.cells #[.int .i64 kd, .int .i64 n, .int .i64 rg, .string wd, .slice ma' ml mc', .slice ba' bn bc', .slice ka' kl kc'] 26) := ⟨_, rfl⟩
  obtain ⟨P, hP⟩ : ∃ P, P = w.heap.size := ⟨_, rfl⟩
  have bel : Below w.heap.size w V := by rw [hV]; exact ((Below.refl _ _).alloc (Nat.le_refl _) _).alloc (by simp) _
  have F1 : V.heap[P]? = some (.cells #[.int .i64 kd, .int .i64 n, .int .i64 rg, .string wd, .slice ma ml mc, .slice ba bn bc, .slice ka kl kc] 26 (0, 0)) := by
    rw [hV, hP, Below.heap_alloc _ _ _ (by simp)]; exact heap_alloc_new w _
  have F2 : V.heap[P + 1]? = some (.cells #[.int .i64 kd, .int .i64 n, .int .i64 rg, .string wd, .slice ma' ml mc', .slice ba' bn bc', .slice ka' kl kc'] 26 (0, 0)) := by
    have := heap_alloc_new (w.alloc (.cells #[.int .i64 kd, .int .i64 n, .int .i64 rg, .string wd, .slice ma ml mc, .slice ba bn bc, .slice ka kl kc] 26)) (.cells #[.int .i64 kd, .int .i64 n, .int .i64 rg, .string wd, .slice ma' ml mc', .slice ba' bn bc', .slice ka' kl kc'] 26)
    rw [hV, hP]; simpa using this
  have HM := hide (hM.below bel)
  have HB := hide (hB.below bel)
  have HK := hide (hK.below bel)
  have HM' := hide (hM'.below bel)
  have HB' := hide (hB'.below bel)
  have HK' := hide (hK'.below bel)
  have HI := hide (hI.below bel)
  have HI' := hide (hI'.below bel)
  have HBEL := hide bel
  have HIH := hide ih
  have HV := hide hV
  have HP := hide hP
  have q1 : ((kd : Int) != kd) = false := by simp
  have q2 : ((n : Int) != n) = false := by simp
  have q3 : ((rg : Int) != rg) = false := by simp
  obtain ⟨q4, q5⟩ := word_self wd
  have q6 : ((ml : Int) != (ml : Int)) = false := by simp
  have q7 : ((bn : Int) != (bn : Int)) = false := by simp
  have q8 : ((kl : Int) != (kl : Int)) = false := by simp
  obtain ⟨a0, a1, a2, a3, a4, a5, a6⟩ := seven_cells F1
  obtain ⟨b0, b1, b2, b3, b4, b5, b6⟩ := seven_cells F2
  clear hM hB hK hM' hB' hK' hI hI' bel hV hP ih hL hkl hkj hml hbn hk1
  go_enter Tryz.func8, Tryz.ntmps8
  go_wp2_with fail
  rw [← HV.out, ← HP.out]
  go_wp2_with fail
  go_loopw [64] (fun i wr => ∃ k : Nat, k ≤ ml ∧ i = .int .i64 k ∧ Below V.heap.size V wr) (fun i _ => ml - (intOf i).toNat)
  case atStart => exact ⟨0, Nat.zero_le _, rfl, Below.refl _ _⟩
  case round =>
    obtain ⟨k, hk, rfl, bel⟩ := hrel
    clear a0 a1 a2 a3 a4 a5 a6 b0 b1 b2 b3 b4 b5 b6
    obtain ⟨a0, a1, a2, a3, a4, a5, a6⟩ := seven_cells (below_block bel F1)
    obtain ⟨b0, b1, b2, b3, b4, b5, b6⟩ := seven_cells (below_block bel F2)
    by_cases hlt : k < ml
    · have h1 : k < ms.length := by rw [← HML.out]; exact hlt
      obtain ⟨p, off, rfl, hbl, hcell⟩ := seg_match HM.out h1
      obtain ⟨p', off', rfl, hbl', hcell'⟩ := seg_match HM'.out h1
      obtain ⟨x, hx⟩ : ∃ x, x = mt ms k := ⟨_, rfl⟩
      obtain ⟨c0, c1, c2⟩ := hcell k h1
      obtain ⟨d0, d1, d2⟩ := hcell' k h1
      rw [← hx] at c0 c1 c2 d0 d1 d2
      have e0 := (bel.cell (p := ⟨p, off + k * 3, none⟩) (by exact hbl)).trans c0
      have e1 := (bel.cell (p := ⟨p, off + k * 3 + 1, none⟩) (by exact hbl)).trans c1
      have e2 := (bel.cell (p := ⟨p, off + k * 3 + 2, none⟩) (by exact hbl)).trans c2
      have f0 := (bel.cell (p := ⟨p', off' + k * 3, none⟩) (by exact hbl')).trans d0
      have f1 := (bel.cell (p := ⟨p', off' + k * 3 + 1, none⟩) (by exact hbl')).trans d1
      have f2 := (bel.cell (p := ⟨p', off' + k * 3 + 2, none⟩) (by exact hbl')).trans d2
      obtain ⟨v1, v2⟩ := word_self x.key
      obtain ⟨v3, v4⟩ := word_self x.val
      clear hcell hcell' hx c0 c1 c2 d0 d1 d2 h1
      go_wp2
      go_quiet (fail)
      go_wp2
      go_roundw
      case rel => exact ⟨k + 1, by omega, by go_num, below_drewN bel _⟩
      case measure => simp [intOf]; omega
    · go_wp2_with fail
      go_loopw [82] (fun i wr => ∃ k : Nat, k ≤ bn ∧ i = .int .i64 k ∧ Below V.heap.size V wr) (fun i _ => bn - (intOf i).toNat)
      case atStart => exact ⟨0, Nat.zero_le _, rfl, bel⟩
      case round =>
        clear hk hlt bel
        obtain ⟨k, hk, rfl, bel⟩ := hrel
        clear a0 a1 a2 a3 a4 a5 a6 b0 b1 b2 b3 b4 b5 b6
        obtain ⟨a0, a1, a2, a3, a4, a5, a6⟩ := seven_cells (below_block bel F1)
        obtain ⟨b0, b1, b2, b3, b4, b5, b6⟩ := seven_cells (below_block bel F2)
        by_cases hlt : k < bn
        · have h1 : k < bs.length := by rw [← HBN.out]; exact hlt
          obtain ⟨p, off, rfl, hbl, hcell⟩ := seg_word HB.out h1
          obtain ⟨p', off', rfl, hbl', hcell'⟩ := seg_word HB'.out h1
          obtain ⟨x, hx⟩ : ∃ x, x = bs.getD k ⟨#[]⟩ := ⟨_, rfl⟩
          have c0 := hcell k h1
          have d0 := hcell' k h1
          rw [← hx] at c0 d0
          have e0 := (bel.cell (p := ⟨p, off + k, none⟩) (by exact hbl)).trans c0
          have f0 := (bel.cell (p := ⟨p', off' + k, none⟩) (by exact hbl')).trans d0
          obtain ⟨v1, v2⟩ := word_self x
          clear hcell hcell' hx c0 d0 h1
          go_wp2
          go_quiet (fail)
          go_wp2
          go_roundw
          case rel => exact ⟨k + 1, by omega, by go_num, below_drewN bel _⟩
          case measure => simp [intOf]; omega
        · go_wp2_with fail
          go_loopw [100] (fun i wr => ∃ k : Nat, k ≤ kl ∧ i = .int .i64 k ∧ Below V.heap.size V wr) (fun i _ => kl - (intOf i).toNat)
          case atStart => exact ⟨0, Nat.zero_le _, rfl, bel⟩
          case round =>
            clear hk hlt bel
            obtain ⟨k, hk, rfl, bel⟩ := hrel
            clear a0 a1 a2 a3 a4 a5 a6 b0 b1 b2 b3 b4 b5 b6
            by_cases hlt : k < kl
            · have h1 : k < kids.length := by rw [← HKL.out]; exact hlt
              have h2 : k < kids'.length := by rw [← HKE.out]; exact h1
              obtain ⟨p, off, rfl, hbl, hcell⟩ := seg_expr HK.out h1
              obtain ⟨p', off', rfl, hbl', hcell'⟩ := seg_expr HK'.out h2
              obtain ⟨t, ht⟩ : ∃ t, t = kids[k] := ⟨_, rfl⟩
              obtain ⟨u, hu⟩ : ∃ u, u = kids'[k] := ⟨_, rfl⟩
              have hc := (hcell k h1).below bel
              have hd := (hcell' k h2).below bel
              rw [← ht] at hc
              rw [← hu] at hd
              have hmem : t ∈ kids := by rw [ht]; exact List.getElem_mem h1
              have hmem' : u ∈ kids' := by rw [hu]; exact List.getElem_mem h2
              have HTU : Hid (t.ex = u.ex) := by show _ = _; rw [ht, hu]; exact HKJ.out k h1 h2
              have HIT := hide (ET.In.below bel t (inL_mem HI.out t hmem))
              have HIU := hide (ET.In.below bel u (inL_mem HI'.out u hmem'))
              have HE := hide (fun (v : World) (hv : Below wr.heap.size wr v) => HIH.out t hmem u v HTU.out (ET.In.below hv t HIT.out) (ET.In.below hv u HIU.out))
              have FW1 := below_block bel F1
              have FW2 := below_block bel F2
              have HS : Hid (∀ w', Below wr.heap.size wr w' → (w'.cell? ⟨P, 6, none⟩ = some (.slice (some ⟨p, off, none⟩) kl kc) ∧ w'.cell? ⟨P + 1, 6, none⟩ = some (.slice (some ⟨p', off', none⟩) kl kc')) ∧ Cells7 w' p (off + k * 7) t ∧ Cells7 w' p' (off' + k * 7) u) := fun w' hb =>
                ⟨⟨(seven_cells (below_block hb FW1)).2.2.2.2.2.2, (seven_cells (below_block hb FW2)).2.2.2.2.2.2⟩, hc.below hb, hd.below hb⟩
              unfold Cells7 at HS
              unfold eval at HE
              have HBL := hide bel
              have hk1 : (k : Int) < (kl : Int) := by omega
              have R0 : Below wr.heap.size wr wr := Below.refl _ _
              have R1 : Below wr.heap.size wr wr.drew := below_drewN (Below.refl _ wr) 1
              clear hcell hcell' ht hu hc hd FW1 FW2 bel h1 h2 hmem hmem'
              go_wp2_with fail
              go_region_held3 (fun w' => (w'.cell? ⟨P, 6, none⟩ = some (.slice (some ⟨p, off, none⟩) kl kc) ∧ w'.cell? ⟨P + 1, 6, none⟩ = some (.slice (some ⟨p', off', none⟩) kl kc')) ∧ (w'.cell? ⟨p, off + k * 7, none⟩ = some (.int .i64 t.hd.kind) ∧ w'.cell? ⟨p, off + k * 7 + 1, none⟩ = some (.int .i64 t.hd.n) ∧ w'.cell? ⟨p, off + k * 7 + 2, none⟩ = some (.int .i64 t.hd.range) ∧ w'.cell? ⟨p, off + k * 7 + 3, none⟩ = some (.string t.hd.word) ∧ w'.cell? ⟨p, off + k * 7 + 4, none⟩ = some (.slice t.sp.ma t.hd.ms.length t.sp.mc) ∧ w'.cell? ⟨p, off + k * 7 + 5, none⟩ = some (.slice t.sp.ba t.hd.bs.length t.sp.bc) ∧ w'.cell? ⟨p, off + k * 7 + 6, none⟩ = some (.slice t.sp.ka t.kids.length t.sp.kc)) ∧ w'.cell? ⟨p', off' + k * 7, none⟩ = some (.int .i64 u.hd.kind) ∧ w'.cell? ⟨p', off' + k * 7 + 1, none⟩ = some (.int .i64 u.hd.n) ∧ w'.cell? ⟨p', off' + k * 7 + 2, none⟩ = some (.int .i64 u.hd.range) ∧ w'.cell? ⟨p', off' + k * 7 + 3, none⟩ = some (.string u.hd.word) ∧ w'.cell? ⟨p', off' + k * 7 + 4, none⟩ = some (.slice u.sp.ma u.hd.ms.length u.sp.mc) ∧ w'.cell? ⟨p', off' + k * 7 + 5, none⟩ = some (.slice u.sp.ba u.hd.bs.length u.sp.bc) ∧ w'.cell? ⟨p', off' + k * 7 + 6, none⟩ = some (.slice u.sp.ka u.kids.length u.sp.kc)) (exact HS.out _ (by assumption))
                (first
                  | (go_at_call 8; refine (HE.out _ (by assumption)).mono ?_; rintro e w1 ⟨rfl, b1⟩; have R2 := below_step7 b1 (by assumption)))
              go_wp2_with fail
              go_roundw
              case rel => exact ⟨k + 1, by omega, by go_num, HBL.out.trans (R2.mono HBL.out.size)⟩
              case measure => simp [intOf]; omega
            · go_wp2_with fail
              go_ret
              exact ⟨rfl, HBEL.out.trans (bel.mono HBEL.out.size)⟩

end Go.Proofs.YtfgablhgjbjbkadGreatDoor

/-
  A fault tells what is wrong. No program is named here.
-/
namespace Go.GrainU
open Go.RowKit

/-- whatever fault there is, it is one -/
def Nz {α : Type} (x : Except Flt α) : Prop := ∀ f, x = .error f → f.1 ≠ 0

theorem nz_ok {α : Type} (a : α) : Nz (Except.ok a : Except Flt α) := fun f h => by cases h
theorem nz_err {α : Type} (f : Flt) (h : f.1 ≠ 0) : Nz (Except.error f : Except Flt α) := fun g e => by injection e with e; rw [← e]; exact h
theorem nz_ite {α : Type} {c : Prop} [Decidable c] {x y : Except Flt α} (h1 : Nz x) (h2 : Nz y) : Nz (if c then x else y) := by
  split
  · exact h1
  · exact h2

theorem nz_expe (sg r : List UInt8) : Nz (expe sg r) := by
  unfold expe
  split
  · exact nz_ok _
  · exact nz_err _ (by simp)
theorem nz_wrd (r : List UInt8) : Nz (wrd r) := nz_ite (nz_err _ (by simp)) (nz_ite (nz_err _ (by simp)) (nz_ok _))
theorem nz_wrdOf (m : List ByteArray) (r : List UInt8) : Nz (wrdOf m r) := by
  unfold wrdOf
  have h := nz_wrd r
  split
  · rename_i e he; exact nz_err _ (h e he)
  · exact nz_ite (nz_ok _) (nz_err _ (by simp))
theorem nz_numb (a b : Int) (r : List UInt8) : Nz (numb a b r) := by
  unfold numb
  refine nz_ite (nz_err _ (by simp)) ?_
  split
  · exact nz_ite (nz_ok _) (nz_err _ (by simp))
  · exact nz_err _ (by simp)
theorem nz_byW (r : List UInt8) : Nz (byW r) := nz_ite (nz_ok _) (nz_err _ (by simp))
theorem nz_lstF {α : Type} {part : List UInt8 → Except Flt (α × List UInt8)} (hp : ∀ r, Nz (part r)) (most : Nat) : ∀ k l r, Nz (lstF part most k l r) := by
  intro k
  induction k with
  | zero => intro l r; exact nz_ok _
  | succ k ih =>
    intro l r
    unfold lstF
    split
    · exact nz_ok _
    · rename_i r1 _
      refine nz_ite (nz_err _ (by simp)) ?_
      have h := hp r1
      split
      · rename_i e he; exact nz_err _ (h e he)
      · exact ih _ _
theorem nz_lst {α : Type} {part : List UInt8 → Except Flt (α × List UInt8)} (hp : ∀ r, Nz (part r)) (most : Nat) (r : List UInt8) : Nz (lst part most r) := by
  unfold lst
  have h := hp r
  split
  · rename_i e he; exact nz_err _ (h e he)
  · exact nz_lstF hp _ _ _ _
theorem nz_mtc (r : List UInt8) : Nz (mtc r) := by
  unfold mtc
  split
  · rename_i r1 _
    have h := nz_wrd r1
    split
    · rename_i e he; exact nz_err _ (h e he)
    · exact nz_ok _
  · have h := nz_wrd r
    split
    · rename_i e he; exact nz_err _ (h e he)
    · split
      · rename_i r3 _
        have h := nz_wrd r3
        split
        · rename_i e he; exact nz_err _ (h e he)
        · exact nz_ok _
      · split
        · rename_i r3 _
          have h := nz_wrd r3
          split
          · rename_i e he; exact nz_err _ (h e he)
          · exact nz_ok _
        · exact nz_ok _
theorem nz_words1 (r : List UInt8) : Nz (words1 r) := by
  unfold words1
  have h := nz_wrd r
  split
  · rename_i e he; exact nz_err _ (h e he)
  · exact nz_ok _
theorem nz_fin (e : Ex) (st : St) : Nz (fin e st) := nz_ite (nz_err _ (by simp)) (nz_ok _)
theorem nz_wnM (r : List UInt8) : Nz (wnM r) := by
  unfold wnM
  split
  · exact nz_ok _
  · have h := nz_lst nz_mtc 5 r
    split
    · rename_i e he; exact nz_err _ (h e he)
    · rename_i l r1 _
      have h := nz_expe [125] r1
      split
      · rename_i e he; exact nz_err _ (h e he)
      · exact nz_ok _
theorem nz_wnd (w : ByteArray) (st : St) : Nz (wnd w st) := by
  unfold wnd
  have h := nz_expe [40] st.r
  split
  · rename_i e he; exact nz_err _ (h e he)
  · rename_i r1 _
    have h := nz_expe [123] r1
    split
    · rename_i e he; exact nz_err _ (h e he)
    · rename_i r2 _
      have h := nz_wnM r2
      split
      · rename_i e he; exact nz_err _ (h e he)
      · rename_i l r3 _
        have h := nz_expe [91] r3
        split
        · rename_i e he; exact nz_err _ (h e he)
        · rename_i r4 _
          have h := nz_numb 1 100000 r4
          split
          · rename_i e he; exact nz_err _ (h e he)
          · rename_i n r5 _
            have h := nz_expe [93] r5
            split
            · rename_i e he; exact nz_err _ (h e he)
            · rename_i r6 _
              have h := nz_expe [41] r6
              split
              · rename_i e he; exact nz_err _ (h e he)
              · exact nz_fin _ _
theorem nz_alB (r : List UInt8) : Nz (alB r) := by
  unfold alB
  split
  · exact nz_ok _
  · have h := nz_byW r
    split
    · rename_i e he; exact nz_err _ (h e he)
    · rename_i r1 _
      have h := nz_lst nz_words1 4 r1
      split
      · rename_i e he; exact nz_err _ (h e he)
      · rename_i l r2 _
        have h := nz_expe [40] r2
        split
        · rename_i e he; exact nz_err _ (h e he)
        · exact nz_ok _
theorem nz_al {sub : St → Except Flt (Ex × St)} (hs : ∀ st, Nz (sub st)) (st : St) : Nz (al sub st) := by
  unfold al
  have h := nz_wrdOf totals4 st.r
  split
  · rename_i e he; exact nz_err _ (h e he)
  · rename_i w r1 _
    have h := nz_alB r1
    split
    · rename_i e he; exact nz_err _ (h e he)
    · rename_i bs r2 _
      have h := hs ⟨r2, st.n⟩
      split
      · rename_i e he; exact nz_err _ (h e he)
      · rename_i e s1 _
        have h := nz_expe [41] s1.r
        split
        · rename_i e he; exact nz_err _ (h e he)
        · exact nz_fin _ _
theorem nz_chnF {p : St → Except Flt (Ex × St)} (hp : ∀ st, Nz (p st)) (sg : List (List UInt8)) : ∀ k e st, Nz (chnF p sg k e st) := by
  intro k
  induction k with
  | zero => intro e st; exact nz_ok _
  | succ k ih =>
    intro e st
    unfold chnF
    split
    · exact nz_ok _
    · rename_i x r1 _
      have h := hp ⟨r1, st.n⟩
      split
      · rename_i e he; exact nz_err _ (h e he)
      · rename_i f s1 _
        have h := nz_fin (.mk ⟨4, 0, 0, lit x, [], []⟩ [e, f]) s1
        split
        · rename_i e he; exact nz_err _ (h e he)
        · exact ih _ _
theorem nz_chn {p : St → Except Flt (Ex × St)} (hp : ∀ st, Nz (p st)) (sg : List (List UInt8)) (st : St) : Nz (chn p sg st) := by
  unfold chn
  have h := hp st
  split
  · rename_i e he; exact nz_err _ (h e he)
  · exact nz_chnF hp _ _ _ _
theorem nz_fct : ∀ k st, Nz (fct k st) := by
  intro k
  induction k with
  | zero => intro st; rw [fct]; exact nz_err _ (by simp)
  | succ k ih =>
    intro st
    have hsm : ∀ st, Nz (smm (fct k) st) := nz_chn (nz_chn ih _) _
    rw [fct]
    split
    · rename_i r1 _
      have h := hsm ⟨r1, st.n⟩
      split
      · rename_i e he; exact nz_err _ (h e he)
      · rename_i e s1 _
        have h := nz_expe [41] s1.r
        split
        · rename_i e he; exact nz_err _ (h e he)
        · exact nz_ok _
    · refine nz_ite ?_ ?_
      · have h := nz_numb 0 1000000 st.r
        split
        · rename_i e he; exact nz_err _ (h e he)
        · exact nz_fin _ _
      · have h := nz_wrdOf (words8 ++ [lit wordAll]) st.r
        split
        · rename_i e he; exact nz_err _ (h e he)
        · exact nz_ite (nz_al hsm _) (nz_wnd _ _)

theorem nz_prs (s : List UInt8) : Nz (prs s) := by
  unfold prs
  refine nz_ite (nz_err _ (by simp)) ?_
  have h := nz_chn (nz_chn (nz_fct 20) [[42]]) [[43], [45]] ⟨s, 0⟩
  split
  · rename_i e he; exact nz_err _ (h e he)
  · exact nz_ite (nz_err _ (by simp)) (nz_ite (nz_err _ (by simp)) (nz_ok _))

end Go.GrainU

/-
  The text that is asked first. No program is named here.
-/
namespace Go.GrainU
open Go.RowKit

/-- all sum by host (rise({job=web,!test}[60])) * 2 -/
def aliveT : List UInt8 := [97, 108, 108, 32, 115, 117, 109, 32, 98, 121, 32, 104, 111, 115, 116, 32, 40, 114, 105, 115, 101, 40, 123, 106, 111, 98, 61, 119, 101, 98, 44, 33, 116, 101, 115, 116, 125, 91, 54, 48, 93, 41, 41, 32, 42, 32, 50]
def aliveE : Ex := .mk ⟨4, 0, 0, lit [42], [], []⟩ [.mk ⟨3, 0, 0, lit [115, 117, 109], [], [lit [104, 111, 115, 116]]⟩ [.mk ⟨2, 0, 60, lit [114, 105, 115, 101], [⟨1, lit [106, 111, 98], lit [119, 101, 98]⟩, ⟨4, lit [116, 101, 115, 116], lit []⟩], []⟩ []], .mk ⟨1, 2, 0, lit [], [], []⟩ []]

theorem alive_prs : prs aliveT = .ok aliveE := by kernel_rfl
theorem alive_vec : vec aliveE = true := by kernel_rfl
theorem alive_typ : typ aliveE = 0 := by kernel_rfl
theorem alive_tx : tx aliveE = lit aliveT := by kernel_rfl
theorem alive_wr : (wr aliveE 1 0).1 = 0 := by kernel_rfl

end Go.GrainU

/-
  The walks of alive and LangAgain.
-/
namespace Go.GrainU
open Go.RowKit

/-- nothing -/
def zeroE : ET := .node ⟨0, 0, 0, ⟨#[]⟩, [], []⟩ ⟨none, 0, none, 0, none, 0⟩ []

theorem zeroE_in (w : World) : zeroE.In w := by
  unfold zeroE
  simp only [ET.In]
  exact ⟨⟨.inl rfl, .inl rfl, .inl rfl⟩, ⟨by simp, by simp, by simp, by show (0 : Nat) ≤ _; omega, fun m hm => by (cases hm), fun b hb => by (cases hb), Nat.le_refl _, fun m hm => by (cases hm)⟩, by simp [InL]⟩

end Go.GrainU
namespace Go.Proofs.YtfgablhgjbjbkadGreatDoor
open Go.RowKit Go.GrainU

theorem alive_prt : prt aliveE = (lit aliveT, 0) := by
  unfold prt
  rw [if_pos alive_wr, if_neg (by rw [alive_tx, lit_size]; decide), alive_tx]

theorem prt_ok {x : Ex} (h : (wr x 1 0).1 = 0) : prt x = (if 2000 < (tx x).size then (lit [], 4) else (tx x, 0)) := by unfold prt; rw [if_pos h]

set_option maxRecDepth 20000 in
set_option maxHeartbeats 4000000 in
theorem alive_any (w : World) (hT : Tab w) (hv : ErrV w) : Calls Tryz.prog 5 #[] w fun e w' => e = .returned (.bool true) ∧ Below w.heap.size w w' := by
  obtain ⟨S, hS⟩ : ∃ S : ByteArray, S = lit aliveT := ⟨_, rfl⟩
  have HPA := hide (parse_any S w (by rw [hS, lit_size]; decide) hv)
  have hSL : S.data.toList = aliveT := by rw [hS]; simp [lit]
  unfold PPost at HPA
  rw [hSL, alive_prs] at HPA
  obtain ⟨v1, v2⟩ := word_self S
  have HPRT : Hid (prt aliveE = (S, 0)) := by show _ = _; rw [alive_prt, hS]
  have HSE : Hid ((⟨#[97, 108, 108, 32, 115, 117, 109, 32, 98, 121, 32, 104, 111, 115, 116, 32, 40, 114, 105, 115, 101, 40, 123, 106, 111, 98, 61, 119, 101, 98, 44, 33, 116, 101, 115, 116, 125, 91, 54, 48, 93, 41, 41, 32, 42, 32, 50]⟩ : ByteArray) = S) := by show _ = _; rw [hS]; rfl
  have HT := hide hT
  clear hS hSL hT hv
  go_enter Tryz.func5, Tryz.ntmps5
  rw [HSE.out]
  go_wp2_with fail
  refine HPA.out.mono ?_
  rintro e w1 ⟨⟨t, hx, rfl, hin⟩ | ⟨f, hf, rfl⟩, b1⟩
  rotate_left
  · cases hf
  · have HX : Hid (t.ex = aliveE) := by injection hx with hx; exact hx.symm
    obtain ⟨V, hV⟩ : ∃ V, V = (w1.alloc (.cells #[.int .i64 t.hd.kind, .int .i64 t.hd.n, .int .i64 t.hd.range, .string t.hd.word, .slice t.sp.ma t.hd.ms.length t.sp.mc, .slice t.sp.ba t.hd.bs.length t.sp.bc, .slice t.sp.ka t.kids.length t.sp.kc] 26)).alloc (.cells #[.int .i64 0, .int .i64 0] 32) := ⟨_, rfl⟩
    have b2 : Below w1.heap.size w1 V := by rw [hV]; exact ((Below.refl _ _).alloc (Nat.le_refl _) _).alloc (by simp) _
    have F1 : V.heap[w1.heap.size]? = some (.cells #[.int .i64 t.hd.kind, .int .i64 t.hd.n, .int .i64 t.hd.range, .string t.hd.word, .slice t.sp.ma t.hd.ms.length t.sp.mc, .slice t.sp.ba t.hd.bs.length t.sp.bc, .slice t.sp.ka t.kids.length t.sp.kc] 26 (0, 0)) := by rw [hV, Below.heap_alloc _ _ _ (by simp)]; exact heap_alloc_new w1 _
    have F2 : V.heap[w1.heap.size + 1]? = some (.cells #[.int .i64 0, .int .i64 0] 32 (0, 0)) := by
      have := heap_alloc_new (w1.alloc (.cells #[.int .i64 t.hd.kind, .int .i64 t.hd.n, .int .i64 t.hd.range, .string t.hd.word, .slice t.sp.ma t.hd.ms.length t.sp.mc, .slice t.sp.ba t.hd.bs.length t.sp.bc, .slice t.sp.ka t.kids.length t.sp.kc] 26)) (.cells #[.int .i64 0, .int .i64 0] 32)
      rw [hV]; simpa using this
    have INV := ET.In.below b2 t hin.whole
    have bV : Below w.heap.size w V := b1.trans (b2.mono b1.size)
    have HPR := hide (pprint_any t V INV (HT.out.below bV))
    rw [HX.out, HPRT.out] at HPR
    simp only at HPR
    have HVE := hide (fun (v : World) (hb : Below V.heap.size V v) => pvector_any t v (ET.In.below hb t INV))
    have HTY := hide (fun (v : World) (hb : Below V.heap.size V v) => ptyped_any t v (ET.In.below hb t INV))
    rw [HX.out, alive_vec] at HVE
    rw [HX.out, alive_typ] at HTY
    have HV := hide hV
    have HF1 := hide F1
    have HF2 := hide F2
    have HBV := hide bV
    unfold eval at HPR HVE HTY ⊢
    clear hV F1 F2 b2 hin INV bV b1 hx HPA
    go_wp2_with fail
    rw [← HV.out]
    refine HPR.out.mono ?_
    rintro e w2 ⟨rfl, b2⟩
    obtain ⟨p0, p1, p2, p3, p4, p5, p6⟩ := seven_cells (below_block b2 HF1.out)
    obtain ⟨q0, q1, _, _⟩ := two_cells (below_block b2 HF2.out)
    go_wp2_with fail
    refine (HVE.out w2 b2).mono ?_
    rintro e w3 ⟨rfl, b3⟩
    have b23 : Below V.heap.size V w3 := b2.trans (b3.mono b2.size)
    clear p0 p1 p2 p3 p4 p5 p6 q0 q1 b3
    obtain ⟨p0, p1, p2, p3, p4, p5, p6⟩ := seven_cells (below_block b23 HF1.out)
    go_wp2_with fail
    refine (HTY.out w3 b23).mono ?_
    rintro e w4 ⟨rfl, b4⟩
    go_wp2_with fail
    go_ret
    exact ⟨rfl, HBV.out.trans ((b23.trans (b4.mono b23.size)).mono HBV.out.size)⟩

set_option maxRecDepth 20000 in
set_option maxHeartbeats 8000000 in
theorem lagain_any (s : ByteArray) (w : World) (hs63 : s.size ≤ 9223372036854775807) (hT : Tab w) (hv : ErrV w) :
    Calls Tryz.prog 4 #[.string s] w fun e w' => e = .returned (.bool true) ∧ Below w.heap.size w w' := by
  have HA := hide (alive_any w hT hv)
  have HT := hide hT
  have HV := hide hv
  clear hT hv
  go_enter Tryz.func4, Tryz.ntmps4
  go_wp2_with fail
  refine HA.out.mono ?_
  rintro e w1 ⟨rfl, b1⟩
  have HPA := hide (parse_any s w1 hs63 (IfaceAt.below HV.out b1))
  go_wp2_with fail
  refine HPA.out.mono ?_
  rintro e w2 ⟨⟨t, hx, rfl, hin⟩ | ⟨f, hf, rfl⟩, b2⟩
  · obtain ⟨hwr, hbare⟩ := prs_right hx
    have b12 : Below w.heap.size w w2 := b1.trans (b2.mono b1.size)
    obtain ⟨E, hE⟩ : ∃ E, E = w2.heap.size := ⟨_, rfl⟩
    obtain ⟨V, hV⟩ : ∃ V, V = (w2.alloc (.cells #[.int .i64 t.hd.kind, .int .i64 t.hd.n, .int .i64 t.hd.range, .string t.hd.word, .slice t.sp.ma t.hd.ms.length t.sp.mc, .slice t.sp.ba t.hd.bs.length t.sp.bc, .slice t.sp.ka t.kids.length t.sp.kc] 26)).alloc (.cells #[.int .i64 0, .int .i64 0] 32) := ⟨_, rfl⟩
    have bV : Below w2.heap.size w2 V := by rw [hV]; exact ((Below.refl _ _).alloc (Nat.le_refl _) _).alloc (by simp) _
    have F1 : V.heap[E]? = some (.cells #[.int .i64 t.hd.kind, .int .i64 t.hd.n, .int .i64 t.hd.range, .string t.hd.word, .slice t.sp.ma t.hd.ms.length t.sp.mc, .slice t.sp.ba t.hd.bs.length t.sp.bc, .slice t.sp.ka t.kids.length t.sp.kc] 26 (0, 0)) := by rw [hV, hE, Below.heap_alloc _ _ _ (by simp)]; exact heap_alloc_new w2 _
    have F2 : V.heap[E + 1]? = some (.cells #[.int .i64 0, .int .i64 0] 32 (0, 0)) := by
      have := heap_alloc_new (w2.alloc (.cells #[.int .i64 t.hd.kind, .int .i64 t.hd.n, .int .i64 t.hd.range, .string t.hd.word, .slice t.sp.ma t.hd.ms.length t.sp.mc, .slice t.sp.ba t.hd.bs.length t.sp.bc, .slice t.sp.ka t.kids.length t.sp.kc] 26)) (.cells #[.int .i64 0, .int .i64 0] 32)
      rw [hV, hE]; simpa using this
    have HIN2 := hide hin.whole
    have INV := ET.In.below bV t hin.whole
    have bwV : Below w.heap.size w V := b12.trans (bV.mono b12.size)
    have HWR := hide (pwrong_any t V INV)
    rw [hwr] at HWR
    have HPR := hide (fun (v : World) (hb : Below V.heap.size V v) => pprint_any t v (ET.In.below hb t INV) (HT.out.below (bwV.trans (hb.mono bwV.size))))
    rw [prt_ok hwr] at HPR
    have HV1 := hide hV
    have HF1 := hide F1
    have HF2 := hide F2
    have HBV := hide bwV
    have HB12 := hide b12
    have HB2V := hide bV
    have HE := hide hE
    have HIN := hide INV
    have HWR0 := hide hwr
    have HBR := hide hbare
    have hEw : w.heap.size ≤ E := by have := b12.size; omega
    have hEV : E + 1 < V.heap.size := by
      rcases Nat.lt_or_ge (E + 1) V.heap.size with e | e
      · exact e
      · rw [Array.getElem?_eq_none (by exact e)] at F2; cases F2
    unfold eval at HWR HPR ⊢
    clear hV F1 F2 bV hin INV bwV b12 b1 b2 hx HPA hE hwr hbare
    go_wp2_with fail
    rw [← HV1.out, ← HE.out]
    refine HWR.out.mono ?_
    rintro e w3 ⟨rfl, b3⟩
    obtain ⟨p0, p1, p2, p3, p4, p5, p6⟩ := seven_cells (below_block b3 HF1.out)
    go_wp2_with fail
    by_cases hsz : 2000 < (tx t.ex).size
    · rw [if_pos hsz] at HPR
      simp only at HPR
      clear hsz
      refine (HPR.out w3 b3).mono ?_
      rintro e w4 ⟨rfl, b4⟩
      go_wp2_with fail
      go_ret
      exact ⟨rfl, HBV.out.trans ((b3.trans (b4.mono b3.size)).mono HBV.out.size)⟩
    · rw [if_neg hsz] at HPR
      simp only at HPR
      obtain ⟨T, hTx⟩ : ∃ T, T = tx t.ex := ⟨_, rfl⟩
      have HTL : Hid (prs T.data.toList = .ok t.ex) := by
        show _ = _
        have := prs_tx HWR0.out (by omega)
        rw [HBR.out] at this
        rw [hTx]; exact this
      have HTS : Hid (T.size ≤ 2000) := by show _ ≤ _; rw [hTx]; omega
      rw [← hTx] at HPR
      have HTX := hide hTx
      obtain ⟨v1, v2⟩ := word_self T
      clear hsz hTx
      refine (HPR.out w3 b3).mono ?_
      rintro e w4 ⟨rfl, b4⟩
      have b34 : Below V.heap.size V w4 := b3.trans (b4.mono b3.size)
      have bw4 : Below w.heap.size w w4 := HBV.out.trans (b34.mono HBV.out.size)
      have HPA := hide (parse_any T w4 (by have := HTS.out; omega) (IfaceAt.below HV.out bw4))
      unfold PPost at HPA
      rw [HTL.out] at HPA
      clear p0 p1 p2 p3 p4 p5 p6 b3 b4
      go_wp2_with fail
      refine HPA.out.mono ?_
      rintro e w5 ⟨⟨u, hx, rfl, hin⟩ | ⟨f, hf, rfl⟩, b5⟩
      rotate_left
      · cases hf
      · have HUE : Hid (u.ex = t.ex) := by injection hx with hx; exact hx.symm
        have b45 : Below V.heap.size V w5 := b34.trans (b5.mono b34.size)
        have F5 := below_block b45 HF1.out
        have G5 := below_block b45 HF2.out
        have hs5 := b45.size
        obtain ⟨M, hM⟩ : ∃ M, M = w5.heap.size := ⟨_, rfl⟩
        obtain ⟨q0, q1, q2, q3⟩ := two_cells G5
        obtain ⟨w6, hw6⟩ : ∃ v, v = ((w5.alloc (.cells #[.int .i64 u.hd.kind, .int .i64 u.hd.n, .int .i64 u.hd.range, .string u.hd.word, .slice u.sp.ma u.hd.ms.length u.sp.mc, .slice u.sp.ba u.hd.bs.length u.sp.bc, .slice u.sp.ka u.kids.length u.sp.kc] 26)).setCell ⟨E + 1, 0, none⟩ (.int .i64 0)).setCell ⟨E + 1, 1, none⟩ (.int .i64 0) := ⟨_, rfl⟩
        have F6 : w6.heap[E]? = some (.cells #[.int .i64 t.hd.kind, .int .i64 t.hd.n, .int .i64 t.hd.range, .string t.hd.word, .slice t.sp.ma t.hd.ms.length t.sp.mc, .slice t.sp.ba t.hd.bs.length t.sp.bc, .slice t.sp.ka t.kids.length t.sp.kc] 26 (0, 0)) := by rw [hw6, setCell_far (by omega), setCell_far (by omega), Below.heap_alloc _ _ _ (by omega)]; exact F5
        have M6 : w6.heap[M]? = some (.cells #[.int .i64 u.hd.kind, .int .i64 u.hd.n, .int .i64 u.hd.range, .string u.hd.word, .slice u.sp.ma u.hd.ms.length u.sp.mc, .slice u.sp.ba u.hd.bs.length u.sp.bc, .slice u.sp.ka u.kids.length u.sp.kc] 26 (0, 0)) := by rw [hw6, setCell_far (by omega), setCell_far (by omega), hM]; exact heap_alloc_new w5 _
        have G6 : w6.heap[E + 1]? = some (.cells #[.int .i64 0, .int .i64 0] 32 (0, 0)) := by
          have h0 : (w5.alloc (.cells #[.int .i64 u.hd.kind, .int .i64 u.hd.n, .int .i64 u.hd.range, .string u.hd.word, .slice u.sp.ma u.hd.ms.length u.sp.mc, .slice u.sp.ba u.hd.bs.length u.sp.bc, .slice u.sp.ka u.kids.length u.sp.kc] 26)).heap[E + 1]? = some (.cells #[.int .i64 0, .int .i64 0] 32 (0, 0)) := (Below.heap_alloc _ _ _ (by omega)).trans G5
          rw [hw6]; simp [World.setCell, Array.getElem?_modify, h0]
        have bT : Below w2.heap.size w2 w6 := by
          rw [hw6]
          have b0 : Below w2.heap.size w2 w5 := HB2V.out.trans (b45.mono HB2V.out.size)
          exact ((b0.alloc b0.size _).setCell (by show _ ≤ E + 1; have := HE.out; omega) _).setCell (by show _ ≤ E + 1; have := HE.out; omega) _
        have INt := ET.In.below bT t HIN2.out
        have h4V := b34.size
        have INu : u.In w6 := by
          rw [hw6]
          have h1 : u.In (cut w4.heap.size (w5.alloc (.cells #[.int .i64 u.hd.kind, .int .i64 u.hd.n, .int .i64 u.hd.range, .string u.hd.word, .slice u.sp.ma u.hd.ms.length u.sp.mc, .slice u.sp.ba u.hd.bs.length u.sp.bc, .slice u.sp.ka u.kids.length u.sp.kc] 26))) := hin.grown (B := 0) (grown_trans (World.grownBy.refl _ _) (World.grownBy_alloc _ _ none) (fun _ hk => by cases hk)) (by omega)
          exact ET.In.whole (ET.In.far (ET.In.far h1 (by omega)) (by omega))
        have bw6 : Below w.heap.size w w6 := HB12.out.trans (bT.mono HB12.out.size)
        have HPR2 := hide (pprint_any u w6 INu (HT.out.below bw6))
        rw [prt_ok (by rw [HUE.out]; exact HWR0.out), HUE.out, ← HTX.out, if_neg (by have := HTS.out; omega)] at HPR2
        simp only at HPR2
        have HEQ := hide (fun (v : World) (hb : Below w6.heap.size w6 v) => equal_same t u v HUE.out.symm (ET.In.below hb t INt) (ET.In.below hb u INu))
        have HW6 := hide hw6
        have HM := hide hM
        have HB6 := hide bw6
        unfold eval at HPR2 HEQ ⊢
        have g0 : (w5.alloc (.cells #[.int .i64 u.hd.kind, .int .i64 u.hd.n, .int .i64 u.hd.range, .string u.hd.word, .slice u.sp.ma u.hd.ms.length u.sp.mc, .slice u.sp.ba u.hd.bs.length u.sp.bc, .slice u.sp.ka u.kids.length u.sp.kc] 26)).heap[E + 1]? = some (.cells #[.int .i64 0, .int .i64 0] 32 (0, 0)) := (Below.heap_alloc _ _ _ (by omega)).trans G5
        obtain ⟨r0, r1, r2, r3⟩ := two_cells g0
        clear hx hin b5 b45 F5 G5 hM hw6 bT INt INu bw6 q0 q1 q2 q3 g0 HPA b34 bw4
        go_wp2_with fail
        rw [← HW6.out, ← HM.out]
        refine HPR2.out.mono ?_
        rintro e w7 ⟨rfl, b7⟩
        obtain ⟨p0, p1, p2, p3, p4, p5, p6⟩ := seven_cells (below_block b7 F6)
        obtain ⟨m0, m1, m2, m3, m4, m5, m6⟩ := seven_cells (below_block b7 M6)
        obtain ⟨q0, q1, q2, q3⟩ := two_cells (below_block b7 G6)
        go_wp2_with fail
        refine (HEQ.out w7 b7).mono ?_
        rintro e w8 ⟨rfl, b8⟩
        go_wp2_with fail
        go_ret
        exact ⟨rfl, HB6.out.trans ((b7.trans (b8.mono b7.size)).mono HB6.out.size)⟩
  · have HNZ := hide (nz_prs _ f hf)
    have hne : ((f.1 : Int) != 0) = true := by simpa using HNZ.out
    have HEQ := hide (fun (v : World) => equal_same zeroE zeroE v rfl (zeroE_in v) (zeroE_in v))
    simp only [eval, zeroE, ET.hd, ET.sp, ET.kids, List.length_nil] at HEQ
    have b12 : Below w.heap.size w w2 := b1.trans (b2.mono b1.size)
    have HB := hide b12
    clear hf HPA b1 b2 b12
    go_wp2_with fail
    refine (HEQ.out _).mono ?_
    rintro e w3 ⟨rfl, b3⟩
    go_wp2_with fail
    go_ret
    exact ⟨rfl, HB.out.trans ((((Below.refl _ _).alloc (Nat.le_refl _) _).alloc (by simp) _).trans (b3.mono (by simp; omega)) |>.mono HB.out.size)⟩

end Go.Proofs.YtfgablhgjbjbkadGreatDoor

/-
  For every text, LangAgain returns true: a text's expression is right, and is printed as a text of the same one, that is printed so again, if that is not too much; a fault leaves nothing. The listed variables of the library (internal/strconv.uint64pow10, math/bits.deBruijn32tab, math/bits.deBruijn64tab, strconv.ErrRange, strconv.ErrSyntax) start as the program's text lays them: the card ties them. No other condition.
-/
namespace Go.Proofs.YtfgablhgjbjbkadGreatDoor
open Go.ChangeShapes Go.WideShapes Go.ChangeAt Go.RowKit Go.GrainU

theorem Tryz.gTab : Tryz.prog.globalNamed "internal/strconv.uint64pow10" = some 0 := by kernel_rfl
theorem Tryz.gTabType : (Tryz.prog.globals[0]?).map (·.type) = some 103 := by kernel_rfl
theorem Tryz.gErr : Tryz.prog.globalNamed "strconv.ErrRange" = some 5 := by kernel_rfl
theorem Tryz.gErrType : (Tryz.prog.globals[5]?).map (·.type) = some 79 := by kernel_rfl
theorem errStar : "*" ++ "errors.errorString" = "*errors.errorString" := by decide
theorem Tryz.rowErr (u : TypeId) (h : Tryz.prog.typeName? 3 u = some "*errors.errorString") : u = 133 :=
  typeName_ptr_named (nm := "errors.errorString") (by rw [errStar]; kernel_rfl) (by kernel_rfl) (by decide) u (by rw [errStar]; exact h)

/-- the row's list, and what is on it -/
theorem tab_of_laid {W : World} (h : laidMetH Tryz.prog Rows.langAgainRow.laid W) : Tab W ∧ ErrV W := by
  rw [MakeChecks.laidMetH_plain _ _ _ (by kernel_rfl)] at h
  refine ⟨Lib.tabIs_of_head Tryz.gTab Tryz.gTabType Tryz.underlying103 Tryz.underlying88 (by kernel_rfl) (by kernel_rfl) h.tail.tail, ?_⟩
  obtain ⟨a, s, hv, _⟩ := laid_sentinel h.tail.tail.tail Tryz.gErr Tryz.gErrType Tryz.underlying79 Tryz.rowErr Tryz.underlying133 Tryz.underlying135 rfl rfl Tryz.underlying9 (by kernel_rfl) (by kernel_rfl)
  exact ⟨_, _, hv⟩

/-- the door's own heap meets the list -/
theorem door_met (os : Os) (args : Array Value) : laidMetH Tryz.prog Rows.langAgainRow.laid ((World.doorLaid Tryz.prog 400 os).forCall (fun _ _ => 0) ⟨#[], args, []⟩).memory :=
  laidMetH_of_parts3 (fuel := 8) (laidMet_of_run' 8 (by kernel_rfl) (by kernel_rfl)) (by kernel_rfl) (by kernel_rfl)

set_option maxRecDepth 100000 in
theorem lagain_lifted (os : Os) (started : os.Started) (H : Type) (enc : TypeId × Value → H) :
    ReturnsInHanded {} Tryz.checked os 4 .any (fun w args => (Rows.langAgainSpec.pre enc Tryz.prog Tryz.f4 [] false w args ∧ laidMetH Tryz.prog Rows.langAgainRow.laid w) ∧ sizedMet enc Tryz.prog Tryz.f4 (OpenSpec.ofChange Rows.langAgainSpec) false w args)
      (Rows.langAgainSpec.post enc Tryz.prog Tryz.f4 false true false false) := by
  refine returnsInHanded_of_change_and (C := Tryz.checked) (X := fun w _ => laidMetH Tryz.prog Rows.langAgainRow.laid w) (fun _ _ _ hh h => h.of_heap hh) Tryz.own started (by kernel_rfl) Tryz.func4
    (ChangeSpec.witness_shaped (enc := enc) (C := Tryz.checked) (os := os) (X := fun w _ => laidMetH Tryz.prog Rows.langAgainRow.laid w) false (World.doorLaid Tryz.prog 400 os) #[.string ⟨#[]⟩] 8 rfl (World.shaped_of_RefB (by kernel_rfl) (by kernel_rfl)) (by kernel_rfl) (by kernel_rfl) (by kernel_rfl) (door_met os _)) ?_
  intro W base args ds gs before hval0 hW _ hsz0 hL _
  have hval : ∀ (j : Nat) t v, Tryz.f4.params[j]? = some t → args[j]? = some v → Value.okWide Tryz.prog W .any base t v := hval0
  have hW' := hW
  obtain ⟨p, q, hA0, hV, rfl, hfz, hnd⟩ := hW
  have hA : DataW.TrodAll enc Tryz.prog W 0 (fun _ => true) true Tryz.f4.params.toList args.toList ds p := hA0
  rw [Tryz.params4] at hA hval
  obtain ⟨v0, d0, rfl, rfl, h0⟩ := trodAll_one hA
  obtain ⟨rfl, rfl⟩ := trodVars_none hV
  have lt0 : ∀ x ∈ p, x.block < W.heap.size := by obtain ⟨m, hm⟩ := h0; exact DataW.trod_lt m _ _ _ hm
  have k0 := h0
  obtain ⟨s, rfl, _, _, hs⟩ := Go.ChangeMaps.open_string Tryz.underlying9 (hval 0 9 v0 rfl rfl) h0
  obtain ⟨hT, hE⟩ := tab_of_laid hL
  clear hA0 hval0 hsz0
  refine (lagain_any s W (by unfold maxLen at hs; omega) hT hE).mono fun e W' ⟨he, bel⟩ => ?_
  subst he
  exact ⟨_, rfl, _, _, _, [], _, [], hW', trodAll_mk1 (shut_bool Tryz.underlying4 _), (trodAll_cons_mk (Below.trod Tryz.laidOut (by kernel_rfl) (of_decide_eq_true (by kernel_rfl)) k0 bel lt0) trodAll_mk0), rfl, bel.frame _, fun h => by cases h⟩

theorem lagain_row : Rows.LangAgainSaid :=
  OpenClaim.holds_of_wide 4 Tryz.f4 rfl rfl rfl rfl rfl rfl rfl ⟨rfl, rfl, rfl, rfl, rfl⟩ rfl rfl rfl rfl rfl (by kernel_rfl) Tryz.func4 (by kernel_rfl)
    (of_decide_eq_true (by kernel_rfl)) (by unfold Func.isWrapper; first | (rw [if_pos (by decide +kernel)]; kernel_rfl) | (rw [if_neg (by decide +kernel)]; exact ⟨rfl, rfl⟩))
    (fun os started H enc _ => lagain_lifted os started H enc)

theorem lagain_card : Rows.LangAgainCardSaid :=
  Claim7.holds_tied_plain_at .later [] [.data, .data, .data, .sentinel, .sentinel] true (true, "8ed584997cf5727959d965af6b512d6b5399fe352495f36f42071e2d6c4ef316") true
    lagain_row (fun _ h => by cases h) (by kernel_rfl) (fun _ h => by cases h) langAgain_row_tie rfl ⟨rfl, rfl⟩ (by kernel_rfl) rfl
    (fun f fn hf hfn => by
      obtain rfl : f = 4 := Option.some.inj ((show Tryz.prog.funcNamed "grainstore/grainlaw5.LangAgain" = some 4 by kernel_rfl).symm.trans hf) |>.symm
      obtain rfl : fn = Tryz.f4 := (Option.some.inj (Tryz.func4.symm.trans hfn)).symm
      exact ⟨by kernel_rfl, fun j t ht => by
        rw [Tryz.params4] at ht
        have h3 : t = 9 := by
          rcases j with _ | j
          · simpa using ht.symm
          · simp at ht
        subst h3
        exact (show Tryz.prog.wantsStandIn 9 = false by kernel_rfl)⟩)
    (by kernel_rfl)

end Go.Proofs.YtfgablhgjbjbkadGreatDoor
