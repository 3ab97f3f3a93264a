/-
  For every input, LangTurns returns true: a right expression comes back from its text, if that is not too much; of a wrong one there is no text. The listed variables of the library (internal/strconv.uint64pow10, math/bits.deBruijn32tab, math/bits.deBruijn64tab, strconv.ErrRange, strconv.ErrSyntax) start as the program's text lays them: the card ties them. No other condition.
-/
import Derived.Test.YtfgablhgjbjbkadGreatDoorRT
import Derived.Test.YtfgablhgjbjbkadGreatDoorRFa
import Derived.Defers
import Derived.Recover
import Derived.Test.YtfgablhgjbjbkadGreatDoorExD
import Derived.Test.YtfgablhgjbjbkadGreatDoorPTd
import Derived.Test.YtfgablhgjbjbkadGreatDoorPL
import Derived.KernelRfl
import Derived.Test.YtfgablhgjbjbkadGreatDoorExI
import Derived.Test.YtfgablhgjbjbkadGreatDoorExY
import Derived.Test.YtfgablhgjbjbkadGreatDoorRQ
import Derived.Test.YtfgablhgjbjbkadGreatDoorPTb
import Derived.Test.YtfgablhgjbjbkadGreatDoorUtil
import Derived.Deep.AppendLies
import Derived.Deep.Upon
import Derived.Test.YtfgablhgjbjbkadGreatDoorUtilD
import Derived.Test.YtfgablhgjbjbkadGreatDoorRZ
import Derived.Deep.RegionLaw
import Derived.Deep.RegionHeld3
import Derived.Test.YtfgablhgjbjbkadGreatDoorOpenExpr
import Derived.Test.YtfgablhgjbjbkadGreatDoorCards
import Derived.Test.YtfgablhgjbjbkadGreatDoorTie
import Derived.LaidMore
import Derived.Lib.LaidTab
import Derived.MakeChecks
import Derived.LaidHandle
import Derived.Stop.Joined
import Derived.Stop.LaidErr
import Derived.SevenTiedAt
import Derived.ChangeMaps5
/-
  deeper walked.
-/
namespace Go.GrainU
open Go.RowKit

theorem dprL_take {l : List ET} {k n : Nat} (h : k < l.length) : dprL (exL (l.take (k + 1))) n = (dprL (exL (l.take k)) n || dpr (l[k]).ex n) := by
  rw [List.take_add_one, List.getElem?_eq_getElem h]
  simp only [Option.toList_some]
  generalize l.take k = a
  induction a with
  | nil => simp [exL, dprL]
  | cons x r ih => simp [exL, dprL, ih, Bool.or_assoc]

theorem dprL_at {l : List ET} {k n : Nat} (h : k < l.length) (h' : dpr (l[k]).ex n = true) : dprL (exL l) n = true := by
  induction l generalizing k with
  | nil => simp at h
  | cons x r ih =>
    match k, h with
    | 0, _ => simp at h'; simp [exL, dprL, h']
    | k + 1, h => simp only [exL, dprL]; rw [ih (k := k) (by simpa using h) (by simpa using h')]; simp

theorem dprL_end {l : List ET} {k n : Nat} (hk : k = l.length) (h : dprL (exL (l.take k)) n = false) : dprL (exL l) n = false := by
  rw [hk, List.take_length] at h; exact h

end Go.GrainU
namespace Go.Proofs.YtfgablhgjbjbkadGreatDoor
open Go.RowKit Go.GrainU

/-- deeper tells, of this expression, whatever the depth -/
abbrev Deeps (t : ET) : Prop := ∀ (k : Nat) (w : World), t.In w → k ≤ 100 → Calls Tryz.prog 27 #[eval t, .int .i64 (k : Nat)] w fun e w' => e = .returned (.bool (dpr t.ex k)) ∧ Below w.heap.size w w'

set_option maxHeartbeats 1000000 in
theorem dclos_of (t : ET) (ih : Deeps t) (k P : Nat) (w : World) (hin : t.In w) (hk : k ≤ 99) (hP : w.cell? ⟨P, 0, none⟩ = some (.int .i64 ((k : Int) + 1))) :
    Calls Tryz.prog 36 #[eval t, .pointer (some ⟨P, 0, none⟩)] w fun e w' => e = .returned (.bool (dpr t.ex k)) ∧ Below w.heap.size w w' := by
  have hl : P < w.heap.size := World.block_lt_of_cell? w _ hP
  have HIN := hide hin
  have HIH := hide (ih k)
  obtain ⟨D, hD⟩ : ∃ D, D = dpr t.ex k := ⟨_, rfl⟩
  rw [← hD] at HIH ⊢
  clear hD ih hin
  unfold eval at HIH ⊢
  generalize t.hd.ms.length = ml at *
  generalize t.hd.bs.length = bl at *
  generalize t.kids.length = kl at *
  have bel : Below w.heap.size w (w.alloc (.cells #[.int .i64 t.hd.kind, .int .i64 t.hd.n, .int .i64 t.hd.range, .string t.hd.word, .slice t.sp.ma ml t.sp.mc, .slice t.sp.ba bl t.sp.bc, .slice t.sp.ka kl t.sp.kc] 26)) := (Below.refl _ _).alloc (Nat.le_refl _) _
  have e1 : ((k : Int) + 1) - 1 = (k : Int) := by omega
  go_enter Tryz.func36, Tryz.ntmps36
  go_wp2_with fail
  refine (HIH.out _ (ET.In.below bel t HIN.out) (by omega)).mono ?_
  rintro e w1 ⟨rfl, b1⟩
  go_wp2_with fail
  go_ret
  exact ⟨rfl, bel.trans (b1.mono bel.size)⟩

set_option maxHeartbeats 1000000 in
theorem dindex_any (kids : List ET) (ih : ∀ t ∈ kids, Deeps t) (n P : Nat) (hn : n ≤ 99)
    (ka : Option Addr) (kl kc : Nat) (w : World) (hK : Seg w ka (ecells kids)) (hkl : kl = kids.length) (lK : kl ≤ 9223372036854775806) (hL : InL w kids) (hP : w.cell? ⟨P, 0, none⟩ = some (.int .i64 ((n : Int) + 1))) :
    Calls Tryz.prog 29 #[.slice ka kl kc, .func (.func 36) #[] #[.pointer (some ⟨P, 0, none⟩)]] w fun e w' => (∃ i : Int, e = .returned (.int .i64 i) ∧ decide (0 ≤ i) = dprL (exL kids) n) ∧ Below w.heap.size w w' := by
  have HK := hide hkl
  have hPl : P < w.heap.size := World.block_lt_of_cell? w _ hP
  have HP := hide hP
  clear hkl hP
  go_enter Tryz.func29, Tryz.ntmps29
  go_wp2
  go_loopw [8] (fun i wr => ∃ k : Nat, k ≤ kl ∧ i = .int .i64 k ∧ Hid (dprL (exL (kids.take k)) n = false) ∧ Below w.heap.size w wr) (fun i _ => kl - (intOf i).toNat)
  case atStart => exact ⟨0, Nat.zero_le _, rfl, by show _ = _; simp [exL, dprL], Below.refl _ _⟩
  case round =>
    obtain ⟨k, hk, rfl, HJ, bel⟩ := hrel
    by_cases hlt : k < kl
    · have hkl : k < kids.length := by rw [← HK.out]; exact hlt
      obtain ⟨b, off, rfl, hbl, hcell⟩ := seg_expr hK hkl
      obtain ⟨t, ht⟩ : ∃ t, t = kids[k] := ⟨_, rfl⟩
      have hc := (hcell k hkl).below bel
      rw [← ht] at hc
      have hmem : t ∈ kids := by rw [ht]; exact List.getElem_mem hkl
      have HT := hide (inL_mem hL t hmem)
      have Ht := hide ht
      clear ht hcell hK
      obtain ⟨c0, c1, c2, c3, c4, c5, c6⟩ := hc
      go_wp2_with fail
      refine (dclos_of t (ih t hmem) n P _ (ET.In.below bel t HT.out) hn ((bel.cell (p := ⟨P, 0, none⟩) (by exact hPl)).trans HP.out)).mono ?_
      rintro e w1 ⟨rfl, b1⟩
      have bel1 : Below w.heap.size w w1 := bel.trans (b1.mono bel.size)
      obtain ⟨D, hD⟩ : ∃ D, D = dpr t.ex n := ⟨_, rfl⟩
      rw [← hD]
      have HD := hide hD
      clear hD
      cases D with
      | true =>
        go_wp2
        go_ret
        exact ⟨⟨k, rfl, by rw [dprL_at hkl (by rw [← Ht.out]; exact HD.out.symm)]; simp⟩, bel1⟩
      | false =>
        have HJ' : Hid (dprL (exL (kids.take (k + 1))) n = false) := by show _ = _; rw [dprL_take hkl, HJ.out, ← Ht.out, ← HD.out]; rfl
        go_wp2
        go_roundw
        case rel => exact ⟨k + 1, by omega, by go_num, HJ', bel1⟩
        case measure => simp [intOf]; omega
    · go_wp2
      go_ret
      exact ⟨⟨-1, rfl, by rw [dprL_end (by have := HK.out; omega) HJ.out]; decide⟩, bel⟩

theorem dcont_any (kids : List ET) (ih : ∀ t ∈ kids, Deeps t) (n P : Nat) (hn : n ≤ 99)
    (ka : Option Addr) (kl kc : Nat) (w : World) (hK : Seg w ka (ecells kids)) (hkl : kl = kids.length) (lK : kl ≤ 9223372036854775806) (hL : InL w kids) (hP : w.cell? ⟨P, 0, none⟩ = some (.int .i64 ((n : Int) + 1))) :
    Calls Tryz.prog 18 #[.slice ka kl kc, .func (.func 36) #[] #[.pointer (some ⟨P, 0, none⟩)]] w fun e w' => e = .returned (.bool (dprL (exL kids) n)) ∧ Below w.heap.size w w' := by
  have HI := hide (dindex_any kids ih n P hn ka kl kc w hK hkl lK hL hP)
  clear hkl hP
  obtain ⟨D, hD⟩ : ∃ D, D = dprL (exL kids) n := ⟨_, rfl⟩
  rw [← hD]
  have HD := hide hD
  clear hD
  go_enter Tryz.func18, Tryz.ntmps18
  go_wp2_with fail
  refine HI.out.mono ?_
  rintro e w1 ⟨⟨i, rfl, hi⟩, b1⟩
  rw [← HD.out] at hi
  go_wp2
  go_ret
  exact ⟨rfl, b1⟩

set_option maxHeartbeats 1000000 in
theorem deeper_any : ∀ t : ET, Deeps t := by
  refine ET.ind ?_
  intro h s kids ih k w hin hk100
  obtain ⟨kd, n, rg, wd, ms, bs⟩ := h
  obtain ⟨ma, mc, ba, bc, ka, kc⟩ := s
  simp only [ET.In] at hin
  obtain ⟨⟨_, _, hK⟩, ⟨_, _, lK, _⟩, hL⟩ := hin
  have hdp : dpr (ET.ex (.node ⟨kd, n, rg, wd, ms, bs⟩ ⟨ma, mc, ba, bc, ka, kc⟩ kids)) k = match k with | 0 => true | k + 1 => dprL (exL kids) k := by
    cases k <;> simp [ET.ex, dpr]
  rw [hdp]
  show Calls Tryz.prog _ #[.agg #[.int .i64 kd, .int .i64 n, .int .i64 rg, .string wd, .slice ma ms.length mc, .slice ba bs.length bc, .slice ka kids.length kc], .int .i64 (k : Nat)] w _
  generalize ms.length = ml
  generalize bs.length = bl
  obtain ⟨kl, hkl⟩ : ∃ x, x = kids.length := ⟨_, rfl⟩
  rw [← hkl] at lK ⊢
  have HK := hide hkl
  clear hkl hdp
  cases k with
  | zero =>
    have bel : Below w.heap.size w ((w.alloc (.cells #[.int .i64 kd, .int .i64 n, .int .i64 rg, .string wd, .slice ma ml mc, .slice ba bl bc, .slice ka kl kc] 26)).alloc (.cells #[.int .i64 0] 3)) := ((Below.refl _ _).alloc (Nat.le_refl _) _).alloc (by simp) _
    go_enter Tryz.func27, Tryz.ntmps27
    go_wp2_with fail
    go_ret
    exact ⟨rfl, bel⟩
  | succ k =>
    simp only [Int.natCast_add]
    obtain ⟨V, hV⟩ : ∃ V, V = (w.alloc (.cells #[.int .i64 kd, .int .i64 n, .int .i64 rg, .string wd, .slice ma ml mc, .slice ba bl bc, .slice ka kl kc] 26)).alloc (.cells #[.int .i64 ((k : Int) + 1)] 3) := ⟨_, rfl⟩
    have bel : Below w.heap.size w V := by rw [hV]; exact ((Below.refl _ _).alloc (Nat.le_refl _) _).alloc (by simp) _
    have F1 : V.heap[w.heap.size + 1]? = some (.cells #[.int .i64 ((k : Int) + 1)] 3 (0, 0)) := by
      have := heap_alloc_new (w.alloc (.cells #[.int .i64 kd, .int .i64 n, .int .i64 rg, .string wd, .slice ma ml mc, .slice ba bl bc, .slice ka kl kc] 26)) (.cells #[.int .i64 ((k : Int) + 1)] 3)
      rw [hV]; simpa using this
    have HC := hide (dcont_any kids ih k (w.heap.size + 1) (by omega) ka kl kc V (hK.below bel) HK.out lK (hL.below bel) (one_cell7 F1).1)
    have HV := hide hV
    have h1 : ¬ ((k : Int) + 1) < 1 := by omega
    clear hV F1
    go_enter Tryz.func27, Tryz.ntmps27
    go_wp2_with fail
    rw [← HV.out]
    refine HC.out.mono ?_
    rintro e w1 ⟨rfl, b1⟩
    go_wp2_with fail
    go_ret
    exact ⟨rfl, bel.trans (b1.mono bel.size)⟩

end Go.Proofs.YtfgablhgjbjbkadGreatDoor

/-
  whole and caught walked.
-/
namespace Go.GrainU
open Go.RowKit

theorem pos_lt {s : ByteArray} {r : List UInt8} (h : r <:+ s.data.toList) : pos s r < s.size ↔ r ≠ [] := by
  have := suf_len h
  unfold pos
  constructor
  · intro h1 h2; rw [h2] at h1; simp at h1
  · intro h1
    have : 0 < r.length := List.length_pos_iff.2 h1
    omega

end Go.GrainU
namespace Go.Proofs.YtfgablhgjbjbkadGreatDoor
open Go.RowKit Go.GrainU

/-- what the reading of a whole text leaves -/
abbrev WPost (s : ByteArray) (B : Nat) (w : World) (e : Ending) (w' : World) : Prop :=
  ((∃ t : ET, prs s.data.toList = .ok t.ex ∧ e = .returned (eval t) ∧ t.In (cut w.heap.size w')) ∨ ∃ f, prs s.data.toList = .error f ∧ e = .panicked [thr s f]) ∧ w.grownBy w' (some B)

set_option maxHeartbeats 4000000 in
theorem whole_any (s : ByteArray) (B : Nat) (w0 w : World) (h : Rd 43 w B s ⟨s.data.toList, 0⟩) (hs63 : s.size ≤ 9223372036854775807) (hv : ErrV w0) (hb0 : Below w0.heap.size w0 w) (hB0 : w0.heap.size ≤ B) :
    Calls Tryz.prog 16 #[.pointer (some ⟨B, 0, none⟩)] w (WPost s B w) := by
  have hB := h.lt
  obtain ⟨X, hX⟩ : ∃ X, X = w.heap.size := ⟨_, rfl⟩
  obtain ⟨V, hV⟩ : ∃ V, V = w.alloc (.cells #[.int .i64 0, .int .i64 0, .int .i64 0, .string ⟨#[]⟩, .slice none 0 0, .slice none 0 0, .slice none 0 0] 26) := ⟨_, rfl⟩
  have R0 : Rd 43 V B s ⟨s.data.toList, 0⟩ := by rw [hV]; exact h.alloc _
  have G0 : w.grownBy V (some B) := by rw [hV]; exact grown_trans (World.grownBy.refl _ _) (World.grownBy_alloc _ _ none) (fun _ hk => by cases hk)
  have FX0 : V.heap[X]? = some (.cells #[.int .i64 0, .int .i64 0, .int .i64 0, .string ⟨#[]⟩, .slice none 0 0, .slice none 0 0, .slice none 0 0] 26 (0, 0)) := by rw [hV, hX]; exact heap_alloc_new w _
  have hXB : X ≠ B := by omega
  have hXw : w.heap.size ≤ X := by omega
  have c0 := R0.cells.1
  rw [hV] at c0
  have hlen : s.data.toList.length = s.size := (size_len s).symm
  have HV := hide hV
  have HX := hide hX
  clear hV hX h
  by_cases h1 : 2000 < s.size
  · have HE : Hid (prs s.data.toList = .error (4, s.size)) := by show _ = _; unfold prs; rw [if_pos (by omega), hlen]
    have h1' : (2000 : Int) < (s.size : Int) := by omega
    clear hlen
    go_enter Tryz.func16, Tryz.ntmps16
    go_wp2_with fail
    refine (throw_any _ _ _).mono ?_
    intro e w2 hh
    rw [hh.1, hh.2]
    clear hh
    go_wp2_with fail
    rw [← HV.out]
    exact ⟨rfl, .inr ⟨_, HE.out, by simp [thr]⟩, G0⟩
  · have h1' : ¬ (2000 : Int) < (s.size : Int) := by omega
    have hs : s.size ≤ 2000 := by omega
    have HP : Hid (∀ t : ET, ∀ q : St, smm (fct 20) ⟨s.data.toList, 0⟩ = .ok (t.ex, q) → prs s.data.toList = (if skip q.r ≠ [] then .error (2, (skip q.r).length) else if dpr t.ex 20 = true then .error (4, 0) else .ok t.ex)) := by
      intro t q hq
      unfold prs
      rw [if_neg (by omega), hq]
    have HPE : Hid (∀ f, smm (fct 20) ⟨s.data.toList, 0⟩ = .error f → prs s.data.toList = .error f) := by
      intro f hf
      unfold prs
      rw [if_neg (by omega), hf]
    have HSC := hide (sum_any s ⟨s.data.toList, 0⟩ B w0 V R0 hs (by simp) hv (hb0.grown G0 hb0.size (fun j hj => by cases hj; exact hB0)) hB0)
    obtain ⟨S, hS⟩ : ∃ S, S = V.heap.size := ⟨_, rfl⟩
    have hXS : X < S := by rw [hS]; exact lt_of_block FX0
    have hBS : B < S := by rw [hS]; exact R0.lt
    unfold EPost at HSC; rw [← hS] at HSC
    have HS := hide hS
    clear hS hlen h1 hv hb0
    go_enter Tryz.func16, Tryz.ntmps16
    go_wp2_with fail
    rw [← HV.out, ← HX.out]
    refine HSC.out.mono ?_
    rintro e w2 ⟨⟨t, q, hx, rfl, IN2, R2, hq⟩ | ⟨f, hf, rfl⟩, g⟩
    rotate_left
    · have HE := hide (HPE.out f hf)
      have G := grown_trans G0 g (fun _ hk => .inl hk)
      clear hf
      go_wp2_with fail
      exact ⟨rfl, .inr ⟨_, HE.out, rfl⟩, G⟩
    have HPR := hide (HP.out t q hx)
    have G2 := grown_trans G0 g (fun _ hk => .inl hk)
    have FX2 := grown_block g FX0 hXB
    have hS2 : S ≤ w2.heap.size := by have := g.size; have := HS.out; omega
    clear g hx G0 FX0 R0 HSC c0 HP HPE
    obtain ⟨Y, hY⟩ : ∃ Y, Y = w2.heap.size := ⟨_, rfl⟩
    have hYB : Y ≠ B := by omega
    obtain ⟨w3, hw3⟩ : ∃ v, v = w2.alloc (.cells #[.int .i64 t.hd.kind, .int .i64 t.hd.n, .int .i64 t.hd.range, .string t.hd.word, .slice t.sp.ma t.hd.ms.length t.sp.mc, .slice t.sp.ba t.hd.bs.length t.sp.bc, .slice t.sp.ka t.kids.length t.sp.kc] 26) := ⟨_, rfl⟩
    have R3 : Rd 43 w3 B s q := by rw [hw3]; exact R2.alloc _
    have G3 : w.grownBy w3 (some B) := by rw [hw3]; exact grown_trans G2 (World.grownBy_alloc _ _ none) (fun _ hk => by cases hk)
    have FX3 : w3.heap[X]? = some (.cells #[.int .i64 0, .int .i64 0, .int .i64 0, .string ⟨#[]⟩, .slice none 0 0, .slice none 0 0, .slice none 0 0] 26 (0, 0)) := by rw [hw3, Below.heap_alloc _ _ _ (by omega)]; exact FX2
    have FY3 : w3.heap[Y]? = some (.cells #[.int .i64 t.hd.kind, .int .i64 t.hd.n, .int .i64 t.hd.range, .string t.hd.word, .slice t.sp.ma t.hd.ms.length t.sp.mc, .slice t.sp.ba t.hd.bs.length t.sp.bc, .slice t.sp.ka t.kids.length t.sp.kc] 26 (0, 0)) := by rw [hw3, hY]; exact heap_alloc_new w2 _
    have IN3 : t.In (cut S w3) := by rw [hw3]; exact IN2.grown (B := B) (grown_trans (World.grownBy.refl _ _) (World.grownBy_alloc _ _ none) (fun _ hk => by cases hk)) hBS
    have HW3 := hide hw3
    have HY := hide hY
    clear hw3 hY R2 G2 FX2 IN2
    obtain ⟨c0, c1, c2⟩ := R3.cells
    have hsuf := (skip_suf q.r).trans R3.suf
    have hpl := pos_lt hsuf
    have HBG := hide (begin_any s q B w3 R3 hs)
    obtain ⟨K, hK⟩ : ∃ K, K = pos s (skip q.r) := ⟨_, rfl⟩
    rw [← hK] at HBG hpl
    have HK := hide hK
    have hsuf' := suf_len hsuf
    clear hK hsuf c1 c2
    obtain ⟨y0, y1, y2, y3, y4, y5, y6⟩ := seven_cells FY3
    unfold eval
    go_wp2_with fail
    rw [← HW3.out, ← HY.out]
    refine HBG.out.mono ?_
    intro e w4 hh
    rw [hh.1, hh.2]
    clear hh HBG
    by_cases h2 : K < s.size
    · have HE : Hid (prs s.data.toList = .error (2, (skip q.r).length)) := by show _ = _; rw [HPR.out, if_pos (hpl.1 h2)]
      have h2' : (K : Int) < (s.size : Int) := by omega
      clear hpl
      go_wp2_with fail
      refine (throw_any _ _ w3).mono ?_
      intro e w5 hh
      rw [hh.1, hh.2]
      clear hh
      go_wp2_with fail
      exact ⟨rfl, .inr ⟨_, HE.out, by rw [HK.out]; rfl⟩, G3⟩
    · have h2' : ¬ (K : Int) < (s.size : Int) := by omega
      have hnil : skip q.r = [] := by
        rcases Classical.em (skip q.r = []) with e | e
        · exact e
        · exact absurd (hpl.2 e) h2
      have HKS : Hid (K = s.size) := by show _ = _; rw [HK.out, hnil]; simp [pos]
      have HDP := hide (deeper_any t 20 w3 (ET.In.whole IN3) (by omega))
      have HPR2 : Hid (prs s.data.toList = if dpr t.ex 20 = true then .error (4, 0) else .ok t.ex) := by show _ = _; rw [HPR.out, if_neg (by rw [hnil]; simp)]
      unfold eval at HDP
      clear hpl hnil HPR
      rw [show ((20 : Nat) : Int) = 20 from rfl] at HDP
      go_wp2_with fail
      refine HDP.out.mono ?_
      rintro e w5 ⟨rfl, b5⟩
      have G5 : w.grownBy w5 (some B) := grown_trans G3 (grown_of_below b5) (fun _ hk => by cases hk)
      have FX5 := below_block b5 FX3
      have FY5 := below_block b5 FY3
      have IN5 : t.In (cut S w5) := IN3.grown (B := B) (grown_trans (World.grownBy.refl _ _) (grown_of_below b5) (fun _ hk => by cases hk)) hBS
      clear y0 y1 y2 y3 y4 y5 y6 b5 G3 FX3 FY3 IN3 HDP c0
      obtain ⟨y0, y1, y2, y3, y4, y5, y6⟩ := seven_cells FY5
      cases hd : dpr t.ex 20 with
      | true =>
        have HE : Hid (prs s.data.toList = .error (4, 0)) := by show _ = _; rw [HPR2.out, hd]; rfl
        clear hd HPR2
        go_wp2_with fail
        refine (throw_any _ _ w5).mono ?_
        intro e w6 hh
        rw [hh.1, hh.2]
        clear hh
        go_wp2_with fail
        exact ⟨rfl, .inr ⟨_, HE.out, by rw [HKS.out]; simp [thr]⟩, G5⟩
      | false =>
        have HE : Hid (prs s.data.toList = .ok t.ex) := by show _ = _; rw [HPR2.out, hd]; rfl
        obtain ⟨z0, z1, z2, z3, z4, z5, z6⟩ := seven_cells FX5
        obtain ⟨u0, u1, u2, u3, u4, u5, u6⟩ := thaw7 FX5
        have HGF := hide (put7_grown (t := t) G5 (X := X) hXw)
        have HIN := hide (ET.In.low (b' := w.heap.size) (by omega) t (put7_in (t := t) IN5 (X := X) (by omega)))
        clear hd HPR2 G5 FX5 FY5 IN5
        unfold put7 at HGF HIN
        go_wp2
        exact bodyPost_ret (v := eval t) (by simp [eval, results, Tryz.results16, go_sem, z0, z1, z2, z3, z4, z5, z6]) rfl ⟨.inl ⟨t, HE.out, rfl, HIN.out⟩, HGF.out⟩

theorem assert_thrown (W : World) (v : Value) : (Instr.typeAssert (.iface 57 v) 20 57 true).run Tryz.prog W = .ok (.tuple #[v, .bool true]) W := by kernel_rfl

set_option maxRecDepth 20000 in
set_option maxHeartbeats 1000000 in
theorem caught_any (a b : Int) (w : World) :
    Calls Tryz.prog 15 #[.iface 57 (.agg #[.int .i64 a, .int .i64 b])] w fun e w' => e = .returned (.agg #[.int .i64 a, .int .i64 b]) ∧ Below w.heap.size w w' := by
  have hta := assert_thrown
  go_enter Tryz.func15, Tryz.ntmps15
  go_wp2
  exact bodyPost_ret (v := .agg #[.int .i64 a, .int .i64 b]) (by simp [results, Tryz.results15, go_sem]) rfl ⟨rfl, ((Below.refl _ _).alloc (Nat.le_refl _) _).alloc (by simp) _⟩

end Go.Proofs.YtfgablhgjbjbkadGreatDoor

/-
  Parse walked.
-/
namespace Go.Proofs.YtfgablhgjbjbkadGreatDoor
open Go.RowKit Go.GrainU

set_option maxRecDepth 20000 in
set_option maxHeartbeats 2000000 in
theorem catch_idle (p q : Addr) (w : World) :
    CallsD Tryz.prog 14 #[.pointer (some p), .pointer (some q)] .returning w fun e u' w' => e = .returned (.tuple #[]) ∧ u' = .returning ∧ w' = w := by
  refine callsD_of_wpS Tryz.func14 rfl fun c₀ cs hu => ?_
  apply wpS_seq
  apply wpS_region
  simp [wpOpsS, go_sem, recoverD, hu, Tryz.ntmps14, Exit.thenS]
  have e1 : (#[Value.pointer (some p), Value.pointer (some q)] ++ ((Array.replicate 7 undef).setIfInBounds 1 Value.nilIface).setIfInBounds 0 Value.nilIface) = #[Value.pointer (some p), Value.pointer (some q), Value.nilIface, Value.nilIface, undef, undef, undef, undef, undef] := rfl
  rw [e1]
  refine wpS_of_wp ?_
  go_wp2
  cases c₀
  simp_all [bodyPostS, results, Tryz.results14]

set_option maxRecDepth 20000 in
set_option maxHeartbeats 2000000 in
theorem catch_panicking (P Q : Nat) (a b : Int) (older : List PanicEntry) (w : World) (hPQ : P ≠ Q) (x0 x1 x2 x3 x4 x5 x6 y0 y1 : Value) (FP : w.heap[P]? = some (.cells #[x0, x1, x2, x3, x4, x5, x6] 26 (0, 0))) (FQ : w.heap[Q]? = some (.cells #[y0, y1] 32 (0, 0))) :
    CallsD Tryz.prog 14 #[.pointer (some ⟨P, 0, none⟩), .pointer (some ⟨Q, 0, none⟩)] (.panicking ({ v := .iface 57 (.agg #[.int .i64 a, .int .i64 b]), recovered := false } :: older)) w fun e u' w' => e = .returned (.tuple #[]) ∧ u' = .panicking ({ v := .iface 57 (.agg #[.int .i64 a, .int .i64 b]), recovered := true } :: older) ∧ ∃ w1, Below w.heap.size w w1 ∧ w' = (((((((((w1.setCell ⟨P, 0, none⟩ (.int .i64 0)).setCell ⟨P, 1, none⟩ (.int .i64 0)).setCell ⟨P, 2, none⟩ (.int .i64 0)).setCell ⟨P, 3, none⟩ (.string ⟨#[]⟩)).setCell ⟨P, 4, none⟩ (.slice none 0 0)).setCell ⟨P, 5, none⟩ (.slice none 0 0)).setCell ⟨P, 6, none⟩ (.slice none 0 0)).setCell ⟨Q, 0, none⟩ (.int .i64 a)).setCell ⟨Q, 1, none⟩ (.int .i64 b)) := by
  refine callsD_of_wpS Tryz.func14 rfl fun c₀ cs hu => ?_
  apply wpS_seq
  apply wpS_region
  simp [wpOpsS, go_sem, recoverD, hu, Tryz.ntmps14, Exit.thenS]
  have e1 : (#[Value.pointer (some ⟨P, 0, none⟩), Value.pointer (some ⟨Q, 0, none⟩)] ++ ((Array.replicate 7 undef).setIfInBounds 1 (Value.iface 57 (Value.agg #[Value.int IntKind.i64 a, Value.int IntKind.i64 b]))).setIfInBounds 0 (Value.iface 57 (Value.agg #[Value.int IntKind.i64 a, Value.int IntKind.i64 b]))) = #[Value.pointer (some ⟨P, 0, none⟩), Value.pointer (some ⟨Q, 0, none⟩), Value.iface 57 (Value.agg #[Value.int IntKind.i64 a, Value.int IntKind.i64 b]), Value.iface 57 (Value.agg #[Value.int IntKind.i64 a, Value.int IntKind.i64 b]), undef, undef, undef, undef, undef] := rfl
  rw [e1]
  refine wpS_of_wp ?_
  go_wp2_with fail
  refine (caught_any a b w).mono ?_
  rintro e w1 ⟨rfl, b1⟩
  have FP1 := below_block b1 FP
  have FQ1 := below_block b1 FQ
  obtain ⟨p0, p1, p2, p3, p4, p5, p6⟩ := seven_cells FP1
  obtain ⟨u0, u1, u2, u3, u4, u5, u6⟩ := thaw7 FP1
  obtain ⟨q0, q1⟩ := two_cells FQ1
  have t0 : w1.frozen? ⟨Q, 0, none⟩ = false := by simp [World.frozen?, FQ1]
  have t1 : w1.frozen? ⟨Q, 1, none⟩ = false := by simp [World.frozen?, FQ1]
  have HB := hide b1
  clear b1 FP FQ FP1 FQ1
  go_wp2
  cases c₀
  simp_all [bodyPostS, results, Tryz.results14]
  exact ⟨w1, HB.out, rfl⟩

/-- what Parse leaves -/
abbrev PPost (s : ByteArray) (w : World) (e : Ending) (w' : World) : Prop :=
  ((∃ t : ET, prs s.data.toList = .ok t.ex ∧ e = .returned (.tuple #[eval t, .agg #[.int .i64 0, .int .i64 0]]) ∧ t.In (cut w.heap.size w')) ∨ ∃ f : Flt, prs s.data.toList = .error f ∧ e = .returned (.tuple #[.agg #[.int .i64 0, .int .i64 0, .int .i64 0, .string ⟨#[]⟩, .slice none 0 0, .slice none 0 0, .slice none 0 0], .agg #[.int .i64 f.1, .int .i64 (s.size - f.2 : Nat)]])) ∧ Below w.heap.size w w'

/-- the door, where all went well -/
theorem door_ret (s : ByteArray) (t : ET) (P : Nat) (w w1 : World) (x0 x1 x4 x5 x6 x7 x8 x9 : Value) (hx : prs s.data.toList = .ok t.ex) (FP : w1.heap[P]? = some (.cells #[.int .i64 t.hd.kind, .int .i64 t.hd.n, .int .i64 t.hd.range, .string t.hd.word, .slice t.sp.ma t.hd.ms.length t.sp.mc, .slice t.sp.ba t.hd.bs.length t.sp.bc, .slice t.sp.ka t.kids.length t.sp.kc] 26 (0, 0))) (FQ : w1.heap[P + 1]? = some (.cells #[.int .i64 0, .int .i64 0] 32 (0, 0))) (hin : t.In (cut w.heap.size w1)) (hb : Below w.heap.size w w1) :
    Leaves Tryz.prog Tryz.f7 #[x0, x1, .pointer (some ⟨P, 0, none⟩), .pointer (some ⟨P + 1, 0, none⟩), x4, x5, x6, x7, x8, x9] (PPost s w) [{ target := .fn (.func 14) #[.pointer (some ⟨P, 0, none⟩), .pointer (some ⟨P + 1, 0, none⟩)], args := #[] }] .returning w1 := by
  refine leaves_cons (f := 14) (args := #[.pointer (some ⟨P, 0, none⟩), .pointer (some ⟨P + 1, 0, none⟩)]) (by simp) (by simp [go_sem]) ?_
  refine (catch_idle _ _ _).mono ?_
  rintro e u' w'' ⟨rfl, rfl, rfl⟩
  obtain ⟨p0, p1, p2, p3, p4, p5, p6⟩ := seven_cells FP
  obtain ⟨q0, q1, _, _⟩ := two_cells FQ
  refine ⟨.tuple #[eval t, .agg #[.int .i64 0, .int .i64 0]], ?_, .inl ⟨t, hx, rfl, hin⟩, hb⟩
  simp [eval, results, Tryz.results7, go_sem, p0, p1, p2, p3, p4, p5, p6, q0, q1]

/-- the door, where a fault was thrown -/
theorem door_thrown (s : ByteArray) (f : Flt) (P : Nat) (w w1 : World) (x0 x1 x4 x5 x6 x7 x8 x9 : Value) (y0 y1 y2 y3 y4 y5 y6 z0 z1 : Value) (hx : prs s.data.toList = .error f) (FP : w1.heap[P]? = some (.cells #[y0, y1, y2, y3, y4, y5, y6] 26 (0, 0))) (FQ : w1.heap[P + 1]? = some (.cells #[z0, z1] 32 (0, 0))) (hb : Below w.heap.size w w1) (hP : w.heap.size ≤ P) :
    Leaves Tryz.prog Tryz.f7 #[x0, x1, .pointer (some ⟨P, 0, none⟩), .pointer (some ⟨P + 1, 0, none⟩), x4, x5, x6, x7, x8, x9] (PPost s w) [{ target := .fn (.func 14) #[.pointer (some ⟨P, 0, none⟩), .pointer (some ⟨P + 1, 0, none⟩)], args := #[] }] (.panicking [thr s f]) w1 := by
  refine leaves_cons (f := 14) (args := #[.pointer (some ⟨P, 0, none⟩), .pointer (some ⟨P + 1, 0, none⟩)]) (by simp) (by simp [go_sem]) ?_
  refine (catch_panicking P (P + 1) f.1 (s.size - f.2 : Nat) [] w1 (by omega) _ _ _ _ _ _ _ _ _ FP FQ).mono ?_
  rintro e u' w'' ⟨rfl, rfl, w2, b2, rfl⟩
  have FP2 := below_block b2 FP
  have FQ2 := below_block b2 FQ
  have hb2 : Below w.heap.size w w2 := hb.trans (b2.mono hb.size)
  refine ⟨.tuple #[.agg #[.int .i64 0, .int .i64 0, .int .i64 0, .string ⟨#[]⟩, .slice none 0 0, .slice none 0 0, .slice none 0 0], .agg #[.int .i64 f.1, .int .i64 (s.size - f.2 : Nat)]], ?_, .inr ⟨f, hx, rfl⟩, ?_⟩
  · have hPQ : P ≠ P + 1 := by omega
    simp [results, Tryz.results7, go_sem, World.cell?, World.setCell, Array.getElem?_modify, FP2, FQ2]
  · exact ((((((((hb2.setCell (by exact hP) _).setCell (by exact hP) _).setCell (by exact hP) _).setCell (by exact hP) _).setCell (by exact hP) _).setCell (by exact hP) _).setCell (by exact hP) _).setCell (by show _ ≤ P + 1; omega) _).setCell (by show _ ≤ P + 1; omega) _

set_option maxRecDepth 20000 in
set_option maxHeartbeats 4000000 in
theorem parse_any (s : ByteArray) (w : World) (hs63 : s.size ≤ 9223372036854775807) (hv : ErrV w) : Calls Tryz.prog 7 #[.string s] w (PPost s w) := by
  obtain ⟨P, hP⟩ : ∃ P, P = w.heap.size := ⟨_, rfl⟩
  obtain ⟨U, hU⟩ : ∃ U, U = ((w.alloc (.cells #[.int .i64 0, .int .i64 0, .int .i64 0, .string ⟨#[]⟩, .slice none 0 0, .slice none 0 0, .slice none 0 0] 26)).alloc (.cells #[.int .i64 0, .int .i64 0] 32)).alloc (.cells #[.string s, .int .i64 0, .int .i64 0] 43) := ⟨_, rfl⟩
  have b0 : Below w.heap.size w U := by rw [hU]; exact (((Below.refl _ _).alloc (Nat.le_refl _) _).alloc (by simp) _).alloc (by simp; omega) _
  have FP : U.heap[P]? = some (.cells #[.int .i64 0, .int .i64 0, .int .i64 0, .string ⟨#[]⟩, .slice none 0 0, .slice none 0 0, .slice none 0 0] 26 (0, 0)) := by
    rw [hU, hP, Below.heap_alloc _ _ _ (by simp; omega), Below.heap_alloc _ _ _ (by simp)]; exact heap_alloc_new w _
  have FQ : U.heap[P + 1]? = some (.cells #[.int .i64 0, .int .i64 0] 32 (0, 0)) := by
    rw [hU, hP, Below.heap_alloc _ _ _ (by simp)]
    have := heap_alloc_new (w.alloc (.cells #[.int .i64 0, .int .i64 0, .int .i64 0, .string ⟨#[]⟩, .slice none 0 0, .slice none 0 0, .slice none 0 0] 26)) (.cells #[.int .i64 0, .int .i64 0] 32)
    simpa using this
  have R0 : Rd 43 U (P + 1 + 1) s ⟨s.data.toList, 0⟩ := by
    refine ⟨List.suffix_refl _, ?_⟩
    have hp : pos s s.data.toList = 0 := by unfold pos; rw [size_len]; omega
    have := heap_alloc_new ((w.alloc (.cells #[.int .i64 0, .int .i64 0, .int .i64 0, .string ⟨#[]⟩, .slice none 0 0, .slice none 0 0, .slice none 0 0] 26)).alloc (.cells #[.int .i64 0, .int .i64 0] 32)) (.cells #[.string s, .int .i64 0, .int .i64 0] 43)
    rw [hU, hP, hp]; simpa using this
  have HWH := hide (fun (v : World) (hR : Rd 43 v (P + 1 + 1) s ⟨s.data.toList, 0⟩) (hb : Below w.heap.size w v) => whole_any s (P + 1 + 1) w v hR hs63 hv hb (by omega))
  have HU := hide hU
  have HP := hide hP
  have hmf : ∀ (fn : Fn) (first cap : Array Value) (w : World), (Instr.makeFunc fn first cap).run Tryz.prog w = .ok (.func fn first cap) w := fun _ _ _ _ => rfl
  clear hU hP
  go_enter_defers Tryz.func7, Tryz.ntmps7
  have hPB : P ≠ P + 1 + 1 := by omega
  have hQB : P + 1 ≠ P + 1 + 1 := by omega
  have R1 := R0.drewN 1
  have b1 := below_drewN b0 1
  have FP1 : U.drew.heap[P]? = some (.cells #[.int .i64 0, .int .i64 0, .int .i64 0, .string ⟨#[]⟩, .slice none 0 0, .slice none 0 0, .slice none 0 0] 26 (0, 0)) := FP
  have FQ1 : U.drew.heap[P + 1]? = some (.cells #[.int .i64 0, .int .i64 0] 32 (0, 0)) := FQ
  obtain ⟨q0, q1, _, _⟩ := two_cells FQ
  obtain ⟨q2, q3, _, _⟩ := two_cells FQ1
  have HGB : Hid (∀ v v' : World, Below w.heap.size w v → v.grownBy v' (some (P + 1 + 1)) → Below w.heap.size w v') := fun v v' hb hg => hb.grown hg hb.size (fun j hj => by cases hj; have := HP.out; omega)
  have hPw : w.heap.size ≤ P := by have := HP.out; omega
  go_wp2_with fail
  rw [← HU.out, ← HP.out]
  go_region_with
    (first
      | (go_at_call 16; refine (HWH.out _ (by first | exact R0 | exact R1) (by first | exact b0 | exact b1)).mono ?_; rintro e w2 ⟨⟨t, hx, rfl, hin⟩ | ⟨f, hf, rfl⟩, g⟩; rotate_left; (have FP2 := grown_block g (by first | exact FP | exact FP1) hPB; have FQ2 := grown_block g (by first | exact FQ | exact FQ1) hQB; have b2 := HGB.out _ _ (by first | exact b0 | exact b1) g; have HE := hide hf; clear hf; go_wp2_with fail; exact door_thrown s f P w _ _ _ _ _ _ _ _ _ _ _ _ _ _ _ _ _ _ HE.out FP2 FQ2 b2 hPw); have FP2 := grown_block g (by first | exact FP | exact FP1) hPB; have FQ2 := grown_block g (by first | exact FQ | exact FQ1) hQB; have b2 := HGB.out _ _ (by first | exact b0 | exact b1) g; obtain ⟨v0, v1, v2, v3, v4, v5, v6⟩ := seven_cells FP2; obtain ⟨u0, u1, u2, u3, u4, u5, u6⟩ := thaw7 FP2; obtain ⟨r0, r1, r2, r3⟩ := two_cells FQ2; unfold eval))
  all_goals
    have hUP : P + 1 + 1 < U.heap.size := R0.lt
    have HX := hide hx
    have hFPF : (((put7 w2 P t).setCell ⟨P + 1, 0, none⟩ (.int .i64 0)).setCell ⟨P + 1, 1, none⟩ (.int .i64 0)).heap[P]? = some (.cells #[.int .i64 t.hd.kind, .int .i64 t.hd.n, .int .i64 t.hd.range, .string t.hd.word, .slice t.sp.ma t.hd.ms.length t.sp.mc, .slice t.sp.ba t.hd.bs.length t.sp.bc, .slice t.sp.ka t.kids.length t.sp.kc] 26 (0, 0)) := by
      rw [setCell_far (by omega), setCell_far (by omega)]; exact put7_blk FP2
    have hFQF : (((put7 w2 P t).setCell ⟨P + 1, 0, none⟩ (.int .i64 0)).setCell ⟨P + 1, 1, none⟩ (.int .i64 0)).heap[P + 1]? = some (.cells #[.int .i64 0, .int .i64 0] 32 (0, 0)) := by
      have h0 : (put7 w2 P t).heap[P + 1]? = some (.cells #[.int .i64 0, .int .i64 0] 32 (0, 0)) := (put7_far (by omega)).trans FQ2
      simp [World.setCell, Array.getElem?_modify, h0]
    have hIN : t.In (cut w.heap.size (((put7 w2 P t).setCell ⟨P + 1, 0, none⟩ (.int .i64 0)).setCell ⟨P + 1, 1, none⟩ (.int .i64 0))) := by
      have h0 : t.In (cut U.heap.size w2) := hin
      exact ET.In.low (by omega) t (ET.In.far (ET.In.far (put7_in (t := t) h0 (X := P) (by omega)) (by omega)) (by omega))
    have hBF : Below w.heap.size w (((put7 w2 P t).setCell ⟨P + 1, 0, none⟩ (.int .i64 0)).setCell ⟨P + 1, 1, none⟩ (.int .i64 0)) := by
      unfold put7
      exact ((((((((b2.setCell (by exact hPw) _).setCell (by exact hPw) _).setCell (by exact hPw) _).setCell (by exact hPw) _).setCell (by exact hPw) _).setCell (by exact hPw) _).setCell (by exact hPw) _).setCell (by show _ ≤ P + 1; omega) _).setCell (by show _ ≤ P + 1; omega) _
    have H1 := hide hFPF
    have H2 := hide hFQF
    have H3 := hide hIN
    have H4 := hide hBF
    clear hFPF hFQF hIN hBF hx
    go_wp2_with fail
    exact door_ret s t P w _ _ _ _ _ _ _ _ _ HX.out H1.out H2.out H3.out H4.out

end Go.Proofs.YtfgablhgjbjbkadGreatDoor

/-
  The document's Equal walked, of two that are the same.
-/
namespace Go.GrainU
open Go.RowKit

theorem exL_at {k l : List ET} (h : exL k = exL l) : k.length = l.length ∧ ∀ j, (hk : j < k.length) → (hl : j < l.length) → (k[j]).ex = (l[j]).ex := by
  rw [exL_map, exL_map] at h
  have hl : k.length = l.length := by have := congrArg List.length h; simpa using this
  refine ⟨hl, fun j hk hj => ?_⟩
  have := congrArg (fun x => x[j]?) h
  simp only [List.getElem?_map] at this
  rw [List.getElem?_eq_getElem hk, List.getElem?_eq_getElem hj] at this
  simpa using this

end Go.GrainU
namespace Go.Proofs.YtfgablhgjbjbkadGreatDoor
open Go.RowKit Go.GrainU

/-- Equal tells so, of this expression and the same one elsewhere -/
abbrev Eqs (t : ET) : Prop := ∀ (u : ET) (w : World), t.ex = u.ex → t.In w → u.In w → Calls Tryz.prog 8 #[eval t, eval u] w fun e w' => e = .returned (.bool true) ∧ Below w.heap.size w w'

set_option maxHeartbeats 4000000 in
theorem equal_same : ∀ t : ET, Eqs t := by
  refine ET.ind ?_
  intro h s kids ih u w hex hin hin'
  obtain ⟨g, s', kids'⟩ := u
  simp only [ET.ex, Ex.mk.injEq] at hex
  obtain ⟨rfl, hL⟩ := hex
  obtain ⟨hkl, hkj⟩ := exL_at hL
  simp only [ET.In] at hin hin'
  obtain ⟨⟨hM, hB, hK⟩, ⟨lM, lB, lK, lW, _⟩, hI⟩ := hin
  obtain ⟨⟨hM', hB', hK'⟩, _, hI'⟩ := hin'
  obtain ⟨kd, n, rg, wd, ms, bs⟩ := h
  obtain ⟨ma, mc, ba, bc, ka, kc⟩ := s
  obtain ⟨ma', mc', ba', bc', ka', kc'⟩ := s'
  simp only at hM hB hK hM' hB' hK' lM lB lK lW
  show Calls Tryz.prog _ #[.agg #[.int .i64 kd, .int .i64 n, .int .i64 rg, .string wd, .slice ma ms.length mc, .slice ba bs.length bc, .slice ka kids.length kc], .agg #[.int .i64 kd, .int .i64 n, .int .i64 rg, .string wd, .slice ma' ms.length mc', .slice ba' bs.length bc', .slice ka' kids'.length kc']] w _
  rw [← hkl]
  obtain ⟨ml, hml⟩ : ∃ x, x = ms.length := ⟨_, rfl⟩
  obtain ⟨bn, hbn⟩ : ∃ x, x = bs.length := ⟨_, rfl⟩
  obtain ⟨kl, hk1⟩ : ∃ x, x = kids.length := ⟨_, rfl⟩
  rw [← hml] at lM ⊢
  rw [← hbn] at lB ⊢
  rw [← hk1] at lK ⊢
  have HML := hide hml
  have HBN := hide hbn
  have HKL := hide hk1
  have HKE := hide hkl
  have HKJ := hide hkj
  obtain ⟨V, hV⟩ : ∃ V, V = (w.alloc (.cells #[.int .i64 kd, .int .i64 n, .int .i64 rg, .string wd, .slice ma ml mc, .slice ba bn bc, .slice ka kl kc] 26)).alloc (.cells #[.int .i64 kd, .int .i64 n, .int .i64 rg, .string wd, .slice ma' ml mc', .slice ba' bn bc', .slice ka' kl kc'] 26) := ⟨_, rfl⟩
  obtain ⟨P, hP⟩ : ∃ P, P = w.heap.size := ⟨_, rfl⟩
  have bel : Below w.heap.size w V := by rw [hV]; exact ((Below.refl _ _).alloc (Nat.le_refl _) _).alloc (by simp) _
  have F1 : V.heap[P]? = some (.cells #[.int .i64 kd, .int .i64 n, .int .i64 rg, .string wd, .slice ma ml mc, .slice ba bn bc, .slice ka kl kc] 26 (0, 0)) := by
    rw [hV, hP, Below.heap_alloc _ _ _ (by simp)]; exact heap_alloc_new w _
  have F2 : V.heap[P + 1]? = some (.cells #[.int .i64 kd, .int .i64 n, .int .i64 rg, .string wd, .slice ma' ml mc', .slice ba' bn bc', .slice ka' kl kc'] 26 (0, 0)) := by
    have := heap_alloc_new (w.alloc (.cells #[.int .i64 kd, .int .i64 n, .int .i64 rg, .string wd, .slice ma ml mc, .slice ba bn bc, .slice ka kl kc] 26)) (.cells #[.int .i64 kd, .int .i64 n, .int .i64 rg, .string wd, .slice ma' ml mc', .slice ba' bn bc', .slice ka' kl kc'] 26)
    rw [hV, hP]; simpa using this
  have HM := hide (hM.below bel)
  have HB := hide (hB.below bel)
  have HK := hide (hK.below bel)
  have HM' := hide (hM'.below bel)
  have HB' := hide (hB'.below bel)
  have HK' := hide (hK'.below bel)
  have HI := hide (hI.below bel)
  have HI' := hide (hI'.below bel)
  have HBEL := hide bel
  have HIH := hide ih
  have HV := hide hV
  have HP := hide hP
  have q1 : ((kd : Int) != kd) = false := by simp
  have q2 : ((n : Int) != n) = false := by simp
  have q3 : ((rg : Int) != rg) = false := by simp
  obtain ⟨q4, q5⟩ := word_self wd
  have q6 : ((ml : Int) != (ml : Int)) = false := by simp
  have q7 : ((bn : Int) != (bn : Int)) = false := by simp
  have q8 : ((kl : Int) != (kl : Int)) = false := by simp
  obtain ⟨a0, a1, a2, a3, a4, a5, a6⟩ := seven_cells F1
  obtain ⟨b0, b1, b2, b3, b4, b5, b6⟩ := seven_cells F2
  clear hM hB hK hM' hB' hK' hI hI' bel hV hP ih hL hkl hkj hml hbn hk1
  go_enter Tryz.func8, Tryz.ntmps8
  go_wp2_with fail
  rw [← HV.out, ← HP.out]
  go_wp2_with fail
  go_loopw [64] (fun i wr => ∃ k : Nat, k ≤ ml ∧ i = .int .i64 k ∧ Below V.heap.size V wr) (fun i _ => ml - (intOf i).toNat)
  case atStart => exact ⟨0, Nat.zero_le _, rfl, Below.refl _ _⟩
  case round =>
    obtain ⟨k, hk, rfl, bel⟩ := hrel
    clear a0 a1 a2 a3 a4 a5 a6 b0 b1 b2 b3 b4 b5 b6
    obtain ⟨a0, a1, a2, a3, a4, a5, a6⟩ := seven_cells (below_block bel F1)
    obtain ⟨b0, b1, b2, b3, b4, b5, b6⟩ := seven_cells (below_block bel F2)
    by_cases hlt : k < ml
    · have h1 : k < ms.length := by rw [← HML.out]; exact hlt
      obtain ⟨p, off, rfl, hbl, hcell⟩ := seg_match HM.out h1
      obtain ⟨p', off', rfl, hbl', hcell'⟩ := seg_match HM'.out h1
      obtain ⟨x, hx⟩ : ∃ x, x = mt ms k := ⟨_, rfl⟩
      obtain ⟨c0, c1, c2⟩ := hcell k h1
      obtain ⟨d0, d1, d2⟩ := hcell' k h1
      rw [← hx] at c0 c1 c2 d0 d1 d2
      have e0 := (bel.cell (p := ⟨p, off + k * 3, none⟩) (by exact hbl)).trans c0
      have e1 := (bel.cell (p := ⟨p, off + k * 3 + 1, none⟩) (by exact hbl)).trans c1
      have e2 := (bel.cell (p := ⟨p, off + k * 3 + 2, none⟩) (by exact hbl)).trans c2
      have f0 := (bel.cell (p := ⟨p', off' + k * 3, none⟩) (by exact hbl')).trans d0
      have f1 := (bel.cell (p := ⟨p', off' + k * 3 + 1, none⟩) (by exact hbl')).trans d1
      have f2 := (bel.cell (p := ⟨p', off' + k * 3 + 2, none⟩) (by exact hbl')).trans d2
      obtain ⟨v1, v2⟩ := word_self x.key
      obtain ⟨v3, v4⟩ := word_self x.val
      clear hcell hcell' hx c0 c1 c2 d0 d1 d2 h1
      go_wp2
      go_quiet (fail)
      go_wp2
      go_roundw
      case rel => exact ⟨k + 1, by omega, by go_num, below_drewN bel _⟩
      case measure => simp [intOf]; omega
    · go_wp2_with fail
      go_loopw [82] (fun i wr => ∃ k : Nat, k ≤ bn ∧ i = .int .i64 k ∧ Below V.heap.size V wr) (fun i _ => bn - (intOf i).toNat)
      case atStart => exact ⟨0, Nat.zero_le _, rfl, bel⟩
      case round =>
        clear hk hlt bel
        obtain ⟨k, hk, rfl, bel⟩ := hrel
        clear a0 a1 a2 a3 a4 a5 a6 b0 b1 b2 b3 b4 b5 b6
        obtain ⟨a0, a1, a2, a3, a4, a5, a6⟩ := seven_cells (below_block bel F1)
        obtain ⟨b0, b1, b2, b3, b4, b5, b6⟩ := seven_cells (below_block bel F2)
        by_cases hlt : k < bn
        · have h1 : k < bs.length := by rw [← HBN.out]; exact hlt
          obtain ⟨p, off, rfl, hbl, hcell⟩ := seg_word HB.out h1
          obtain ⟨p', off', rfl, hbl', hcell'⟩ := seg_word HB'.out h1
          obtain ⟨x, hx⟩ : ∃ x, x = bs.getD k ⟨#[]⟩ := ⟨_, rfl⟩
          have c0 := hcell k h1
          have d0 := hcell' k h1
          rw [← hx] at c0 d0
          have e0 := (bel.cell (p := ⟨p, off + k, none⟩) (by exact hbl)).trans c0
          have f0 := (bel.cell (p := ⟨p', off' + k, none⟩) (by exact hbl')).trans d0
          obtain ⟨v1, v2⟩ := word_self x
          clear hcell hcell' hx c0 d0 h1
          go_wp2
          go_quiet (fail)
          go_wp2
          go_roundw
          case rel => exact ⟨k + 1, by omega, by go_num, below_drewN bel _⟩
          case measure => simp [intOf]; omega
        · go_wp2_with fail
          go_loopw [100] (fun i wr => ∃ k : Nat, k ≤ kl ∧ i = .int .i64 k ∧ Below V.heap.size V wr) (fun i _ => kl - (intOf i).toNat)
          case atStart => exact ⟨0, Nat.zero_le _, rfl, bel⟩
          case round =>
            clear hk hlt bel
            obtain ⟨k, hk, rfl, bel⟩ := hrel
            clear a0 a1 a2 a3 a4 a5 a6 b0 b1 b2 b3 b4 b5 b6
            by_cases hlt : k < kl
            · have h1 : k < kids.length := by rw [← HKL.out]; exact hlt
              have h2 : k < kids'.length := by rw [← HKE.out]; exact h1
              obtain ⟨p, off, rfl, hbl, hcell⟩ := seg_expr HK.out h1
              obtain ⟨p', off', rfl, hbl', hcell'⟩ := seg_expr HK'.out h2
              obtain ⟨t, ht⟩ : ∃ t, t = kids[k] := ⟨_, rfl⟩
              obtain ⟨u, hu⟩ : ∃ u, u = kids'[k] := ⟨_, rfl⟩
              have hc := (hcell k h1).below bel
              have hd := (hcell' k h2).below bel
              rw [← ht] at hc
              rw [← hu] at hd
              have hmem : t ∈ kids := by rw [ht]; exact List.getElem_mem h1
              have hmem' : u ∈ kids' := by rw [hu]; exact List.getElem_mem h2
              have HTU : Hid (t.ex = u.ex) := by show _ = _; rw [ht, hu]; exact HKJ.out k h1 h2
              have HIT := hide (ET.In.below bel t (inL_mem HI.out t hmem))
              have HIU := hide (ET.In.below bel u (inL_mem HI'.out u hmem'))
              have HE := hide (fun (v : World) (hv : Below wr.heap.size wr v) => HIH.out t hmem u v HTU.out (ET.In.below hv t HIT.out) (ET.In.below hv u HIU.out))
              have FW1 := below_block bel F1
              have FW2 := below_block bel F2
              have HS : Hid (∀ w', Below wr.heap.size wr w' → (w'.cell? ⟨P, 6, none⟩ = some (.slice (some ⟨p, off, none⟩) kl kc) ∧ w'.cell? ⟨P + 1, 6, none⟩ = some (.slice (some ⟨p', off', none⟩) kl kc')) ∧ Cells7 w' p (off + k * 7) t ∧ Cells7 w' p' (off' + k * 7) u) := fun w' hb =>
                ⟨⟨(seven_cells (below_block hb FW1)).2.2.2.2.2.2, (seven_cells (below_block hb FW2)).2.2.2.2.2.2⟩, hc.below hb, hd.below hb⟩
              unfold Cells7 at HS
              unfold eval at HE
              have HBL := hide bel
              have hk1 : (k : Int) < (kl : Int) := by omega
              have R0 : Below wr.heap.size wr wr := Below.refl _ _
              have R1 : Below wr.heap.size wr wr.drew := below_drewN (Below.refl _ wr) 1
              clear hcell hcell' ht hu hc hd FW1 FW2 bel h1 h2 hmem hmem'
              go_wp2_with fail
              go_region_held3 (fun w' => (w'.cell? ⟨P, 6, none⟩ = some (.slice (some ⟨p, off, none⟩) kl kc) ∧ w'.cell? ⟨P + 1, 6, none⟩ = some (.slice (some ⟨p', off', none⟩) kl kc')) ∧ (w'.cell? ⟨p, off + k * 7, none⟩ = some (.int .i64 t.hd.kind) ∧ w'.cell? ⟨p, off + k * 7 + 1, none⟩ = some (.int .i64 t.hd.n) ∧ w'.cell? ⟨p, off + k * 7 + 2, none⟩ = some (.int .i64 t.hd.range) ∧ w'.cell? ⟨p, off + k * 7 + 3, none⟩ = some (.string t.hd.word) ∧ w'.cell? ⟨p, off + k * 7 + 4, none⟩ = some (.slice t.sp.ma t.hd.ms.length t.sp.mc) ∧ w'.cell? ⟨p, off + k * 7 + 5, none⟩ = some (.slice t.sp.ba t.hd.bs.length t.sp.bc) ∧ w'.cell? ⟨p, off + k * 7 + 6, none⟩ = some (.slice t.sp.ka t.kids.length t.sp.kc)) ∧ w'.cell? ⟨p', off' + k * 7, none⟩ = some (.int .i64 u.hd.kind) ∧ w'.cell? ⟨p', off' + k * 7 + 1, none⟩ = some (.int .i64 u.hd.n) ∧ w'.cell? ⟨p', off' + k * 7 + 2, none⟩ = some (.int .i64 u.hd.range) ∧ w'.cell? ⟨p', off' + k * 7 + 3, none⟩ = some (.string u.hd.word) ∧ w'.cell? ⟨p', off' + k * 7 + 4, none⟩ = some (.slice u.sp.ma u.hd.ms.length u.sp.mc) ∧ w'.cell? ⟨p', off' + k * 7 + 5, none⟩ = some (.slice u.sp.ba u.hd.bs.length u.sp.bc) ∧ w'.cell? ⟨p', off' + k * 7 + 6, none⟩ = some (.slice u.sp.ka u.kids.length u.sp.kc)) (exact HS.out _ (by assumption))
                (first
                  | (go_at_call 8; refine (HE.out _ (by assumption)).mono ?_; rintro e w1 ⟨rfl, b1⟩; have R2 := below_step7 b1 (by assumption)))
              go_wp2_with fail
              go_roundw
              case rel => exact ⟨k + 1, by omega, by go_num, HBL.out.trans (R2.mono HBL.out.size)⟩
              case measure => simp [intOf]; omega
            · go_wp2_with fail
              go_ret
              exact ⟨rfl, HBEL.out.trans (bel.mono HBEL.out.size)⟩

end Go.Proofs.YtfgablhgjbjbkadGreatDoor

/-
  A fault tells what is wrong. No program is named here.
-/
namespace Go.GrainU
open Go.RowKit

/-- whatever fault there is, it is one -/
def Nz {α : Type} (x : Except Flt α) : Prop := ∀ f, x = .error f → f.1 ≠ 0

theorem nz_ok {α : Type} (a : α) : Nz (Except.ok a : Except Flt α) := fun f h => by cases h
theorem nz_err {α : Type} (f : Flt) (h : f.1 ≠ 0) : Nz (Except.error f : Except Flt α) := fun g e => by injection e with e; rw [← e]; exact h
theorem nz_ite {α : Type} {c : Prop} [Decidable c] {x y : Except Flt α} (h1 : Nz x) (h2 : Nz y) : Nz (if c then x else y) := by
  split
  · exact h1
  · exact h2

theorem nz_expe (sg r : List UInt8) : Nz (expe sg r) := by
  unfold expe
  split
  · exact nz_ok _
  · exact nz_err _ (by simp)
theorem nz_wrd (r : List UInt8) : Nz (wrd r) := nz_ite (nz_err _ (by simp)) (nz_ite (nz_err _ (by simp)) (nz_ok _))
theorem nz_wrdOf (m : List ByteArray) (r : List UInt8) : Nz (wrdOf m r) := by
  unfold wrdOf
  have h := nz_wrd r
  split
  · rename_i e he; exact nz_err _ (h e he)
  · exact nz_ite (nz_ok _) (nz_err _ (by simp))
theorem nz_numb (a b : Int) (r : List UInt8) : Nz (numb a b r) := by
  unfold numb
  refine nz_ite (nz_err _ (by simp)) ?_
  split
  · exact nz_ite (nz_ok _) (nz_err _ (by simp))
  · exact nz_err _ (by simp)
theorem nz_byW (r : List UInt8) : Nz (byW r) := nz_ite (nz_ok _) (nz_err _ (by simp))
theorem nz_lstF {α : Type} {part : List UInt8 → Except Flt (α × List UInt8)} (hp : ∀ r, Nz (part r)) (most : Nat) : ∀ k l r, Nz (lstF part most k l r) := by
  intro k
  induction k with
  | zero => intro l r; exact nz_ok _
  | succ k ih =>
    intro l r
    unfold lstF
    split
    · exact nz_ok _
    · rename_i r1 _
      refine nz_ite (nz_err _ (by simp)) ?_
      have h := hp r1
      split
      · rename_i e he; exact nz_err _ (h e he)
      · exact ih _ _
theorem nz_lst {α : Type} {part : List UInt8 → Except Flt (α × List UInt8)} (hp : ∀ r, Nz (part r)) (most : Nat) (r : List UInt8) : Nz (lst part most r) := by
  unfold lst
  have h := hp r
  split
  · rename_i e he; exact nz_err _ (h e he)
  · exact nz_lstF hp _ _ _ _
theorem nz_mtc (r : List UInt8) : Nz (mtc r) := by
  unfold mtc
  split
  · rename_i r1 _
    have h := nz_wrd r1
    split
    · rename_i e he; exact nz_err _ (h e he)
    · exact nz_ok _
  · have h := nz_wrd r
    split
    · rename_i e he; exact nz_err _ (h e he)
    · split
      · rename_i r3 _
        have h := nz_wrd r3
        split
        · rename_i e he; exact nz_err _ (h e he)
        · exact nz_ok _
      · split
        · rename_i r3 _
          have h := nz_wrd r3
          split
          · rename_i e he; exact nz_err _ (h e he)
          · exact nz_ok _
        · exact nz_ok _
theorem nz_words1 (r : List UInt8) : Nz (words1 r) := by
  unfold words1
  have h := nz_wrd r
  split
  · rename_i e he; exact nz_err _ (h e he)
  · exact nz_ok _
theorem nz_fin (e : Ex) (st : St) : Nz (fin e st) := nz_ite (nz_err _ (by simp)) (nz_ok _)
theorem nz_wnM (r : List UInt8) : Nz (wnM r) := by
  unfold wnM
  split
  · exact nz_ok _
  · have h := nz_lst nz_mtc 5 r
    split
    · rename_i e he; exact nz_err _ (h e he)
    · rename_i l r1 _
      have h := nz_expe [125] r1
      split
      · rename_i e he; exact nz_err _ (h e he)
      · exact nz_ok _
theorem nz_wnd (w : ByteArray) (st : St) : Nz (wnd w st) := by
  unfold wnd
  have h := nz_expe [40] st.r
  split
  · rename_i e he; exact nz_err _ (h e he)
  · rename_i r1 _
    have h := nz_expe [123] r1
    split
    · rename_i e he; exact nz_err _ (h e he)
    · rename_i r2 _
      have h := nz_wnM r2
      split
      · rename_i e he; exact nz_err _ (h e he)
      · rename_i l r3 _
        have h := nz_expe [91] r3
        split
        · rename_i e he; exact nz_err _ (h e he)
        · rename_i r4 _
          have h := nz_numb 1 100000 r4
          split
          · rename_i e he; exact nz_err _ (h e he)
          · rename_i n r5 _
            have h := nz_expe [93] r5
            split
            · rename_i e he; exact nz_err _ (h e he)
            · rename_i r6 _
              have h := nz_expe [41] r6
              split
              · rename_i e he; exact nz_err _ (h e he)
              · exact nz_fin _ _
theorem nz_alB (r : List UInt8) : Nz (alB r) := by
  unfold alB
  split
  · exact nz_ok _
  · have h := nz_byW r
    split
    · rename_i e he; exact nz_err _ (h e he)
    · rename_i r1 _
      have h := nz_lst nz_words1 4 r1
      split
      · rename_i e he; exact nz_err _ (h e he)
      · rename_i l r2 _
        have h := nz_expe [40] r2
        split
        · rename_i e he; exact nz_err _ (h e he)
        · exact nz_ok _
theorem nz_al {sub : St → Except Flt (Ex × St)} (hs : ∀ st, Nz (sub st)) (st : St) : Nz (al sub st) := by
  unfold al
  have h := nz_wrdOf totals4 st.r
  split
  · rename_i e he; exact nz_err _ (h e he)
  · rename_i w r1 _
    have h := nz_alB r1
    split
    · rename_i e he; exact nz_err _ (h e he)
    · rename_i bs r2 _
      have h := hs ⟨r2, st.n⟩
      split
      · rename_i e he; exact nz_err _ (h e he)
      · rename_i e s1 _
        have h := nz_expe [41] s1.r
        split
        · rename_i e he; exact nz_err _ (h e he)
        · exact nz_fin _ _
theorem nz_chnF {p : St → Except Flt (Ex × St)} (hp : ∀ st, Nz (p st)) (sg : List (List UInt8)) : ∀ k e st, Nz (chnF p sg k e st) := by
  intro k
  induction k with
  | zero => intro e st; exact nz_ok _
  | succ k ih =>
    intro e st
    unfold chnF
    split
    · exact nz_ok _
    · rename_i x r1 _
      have h := hp ⟨r1, st.n⟩
      split
      · rename_i e he; exact nz_err _ (h e he)
      · rename_i f s1 _
        have h := nz_fin (.mk ⟨4, 0, 0, lit x, [], []⟩ [e, f]) s1
        split
        · rename_i e he; exact nz_err _ (h e he)
        · exact ih _ _
theorem nz_chn {p : St → Except Flt (Ex × St)} (hp : ∀ st, Nz (p st)) (sg : List (List UInt8)) (st : St) : Nz (chn p sg st) := by
  unfold chn
  have h := hp st
  split
  · rename_i e he; exact nz_err _ (h e he)
  · exact nz_chnF hp _ _ _ _
theorem nz_fct : ∀ k st, Nz (fct k st) := by
  intro k
  induction k with
  | zero => intro st; rw [fct]; exact nz_err _ (by simp)
  | succ k ih =>
    intro st
    have hsm : ∀ st, Nz (smm (fct k) st) := nz_chn (nz_chn ih _) _
    rw [fct]
    split
    · rename_i r1 _
      have h := hsm ⟨r1, st.n⟩
      split
      · rename_i e he; exact nz_err _ (h e he)
      · rename_i e s1 _
        have h := nz_expe [41] s1.r
        split
        · rename_i e he; exact nz_err _ (h e he)
        · exact nz_ok _
    · refine nz_ite ?_ ?_
      · have h := nz_numb 0 1000000 st.r
        split
        · rename_i e he; exact nz_err _ (h e he)
        · exact nz_fin _ _
      · have h := nz_wrdOf (words8 ++ [lit wordAll]) st.r
        split
        · rename_i e he; exact nz_err _ (h e he)
        · exact nz_ite (nz_al hsm _) (nz_wnd _ _)

theorem nz_prs (s : List UInt8) : Nz (prs s) := by
  unfold prs
  refine nz_ite (nz_err _ (by simp)) ?_
  have h := nz_chn (nz_chn (nz_fct 20) [[42]]) [[43], [45]] ⟨s, 0⟩
  split
  · rename_i e he; exact nz_err _ (h e he)
  · exact nz_ite (nz_err _ (by simp)) (nz_ite (nz_err _ (by simp)) (nz_ok _))

end Go.GrainU

/-
  The text that is asked first. No program is named here.
-/
namespace Go.GrainU
open Go.RowKit

/-- all sum by host (rise({job=web,!test}[60])) * 2 -/
def aliveT : List UInt8 := [97, 108, 108, 32, 115, 117, 109, 32, 98, 121, 32, 104, 111, 115, 116, 32, 40, 114, 105, 115, 101, 40, 123, 106, 111, 98, 61, 119, 101, 98, 44, 33, 116, 101, 115, 116, 125, 91, 54, 48, 93, 41, 41, 32, 42, 32, 50]
def aliveE : Ex := .mk ⟨4, 0, 0, lit [42], [], []⟩ [.mk ⟨3, 0, 0, lit [115, 117, 109], [], [lit [104, 111, 115, 116]]⟩ [.mk ⟨2, 0, 60, lit [114, 105, 115, 101], [⟨1, lit [106, 111, 98], lit [119, 101, 98]⟩, ⟨4, lit [116, 101, 115, 116], lit []⟩], []⟩ []], .mk ⟨1, 2, 0, lit [], [], []⟩ []]

theorem alive_prs : prs aliveT = .ok aliveE := by kernel_rfl
theorem alive_vec : vec aliveE = true := by kernel_rfl
theorem alive_typ : typ aliveE = 0 := by kernel_rfl
theorem alive_tx : tx aliveE = lit aliveT := by kernel_rfl
theorem alive_wr : (wr aliveE 1 0).1 = 0 := by kernel_rfl

end Go.GrainU

/-
  The walks of alive and LangAgain.
-/
namespace Go.GrainU
open Go.RowKit

/-- nothing -/
def zeroE : ET := .node ⟨0, 0, 0, ⟨#[]⟩, [], []⟩ ⟨none, 0, none, 0, none, 0⟩ []

theorem zeroE_in (w : World) : zeroE.In w := by
  unfold zeroE
  simp only [ET.In]
  exact ⟨⟨.inl rfl, .inl rfl, .inl rfl⟩, ⟨by simp, by simp, by simp, by show (0 : Nat) ≤ _; omega, fun m hm => by (cases hm), fun b hb => by (cases hb), Nat.le_refl _, fun m hm => by (cases hm)⟩, by simp [InL]⟩

end Go.GrainU
namespace Go.Proofs.YtfgablhgjbjbkadGreatDoor
open Go.RowKit Go.GrainU

theorem alive_prt : prt aliveE = (lit aliveT, 0) := by
  unfold prt
  rw [if_pos alive_wr, if_neg (by rw [alive_tx, lit_size]; decide), alive_tx]

theorem prt_ok {x : Ex} (h : (wr x 1 0).1 = 0) : prt x = (if 2000 < (tx x).size then (lit [], 4) else (tx x, 0)) := by unfold prt; rw [if_pos h]

set_option maxRecDepth 20000 in
set_option maxHeartbeats 4000000 in
theorem alive_any (w : World) (hT : Tab w) (hv : ErrV w) : Calls Tryz.prog 5 #[] w fun e w' => e = .returned (.bool true) ∧ Below w.heap.size w w' := by
  obtain ⟨S, hS⟩ : ∃ S : ByteArray, S = lit aliveT := ⟨_, rfl⟩
  have HPA := hide (parse_any S w (by rw [hS, lit_size]; decide) hv)
  have hSL : S.data.toList = aliveT := by rw [hS]; simp [lit]
  unfold PPost at HPA
  rw [hSL, alive_prs] at HPA
  obtain ⟨v1, v2⟩ := word_self S
  have HPRT : Hid (prt aliveE = (S, 0)) := by show _ = _; rw [alive_prt, hS]
  have HSE : Hid ((⟨#[97, 108, 108, 32, 115, 117, 109, 32, 98, 121, 32, 104, 111, 115, 116, 32, 40, 114, 105, 115, 101, 40, 123, 106, 111, 98, 61, 119, 101, 98, 44, 33, 116, 101, 115, 116, 125, 91, 54, 48, 93, 41, 41, 32, 42, 32, 50]⟩ : ByteArray) = S) := by show _ = _; rw [hS]; rfl
  have HT := hide hT
  clear hS hSL hT hv
  go_enter Tryz.func5, Tryz.ntmps5
  rw [HSE.out]
  go_wp2_with fail
  refine HPA.out.mono ?_
  rintro e w1 ⟨⟨t, hx, rfl, hin⟩ | ⟨f, hf, rfl⟩, b1⟩
  rotate_left
  · cases hf
  · have HX : Hid (t.ex = aliveE) := by injection hx with hx; exact hx.symm
    obtain ⟨V, hV⟩ : ∃ V, V = (w1.alloc (.cells #[.int .i64 t.hd.kind, .int .i64 t.hd.n, .int .i64 t.hd.range, .string t.hd.word, .slice t.sp.ma t.hd.ms.length t.sp.mc, .slice t.sp.ba t.hd.bs.length t.sp.bc, .slice t.sp.ka t.kids.length t.sp.kc] 26)).alloc (.cells #[.int .i64 0, .int .i64 0] 32) := ⟨_, rfl⟩
    have b2 : Below w1.heap.size w1 V := by rw [hV]; exact ((Below.refl _ _).alloc (Nat.le_refl _) _).alloc (by simp) _
    have F1 : V.heap[w1.heap.size]? = some (.cells #[.int .i64 t.hd.kind, .int .i64 t.hd.n, .int .i64 t.hd.range, .string t.hd.word, .slice t.sp.ma t.hd.ms.length t.sp.mc, .slice t.sp.ba t.hd.bs.length t.sp.bc, .slice t.sp.ka t.kids.length t.sp.kc] 26 (0, 0)) := by rw [hV, Below.heap_alloc _ _ _ (by simp)]; exact heap_alloc_new w1 _
    have F2 : V.heap[w1.heap.size + 1]? = some (.cells #[.int .i64 0, .int .i64 0] 32 (0, 0)) := by
      have := heap_alloc_new (w1.alloc (.cells #[.int .i64 t.hd.kind, .int .i64 t.hd.n, .int .i64 t.hd.range, .string t.hd.word, .slice t.sp.ma t.hd.ms.length t.sp.mc, .slice t.sp.ba t.hd.bs.length t.sp.bc, .slice t.sp.ka t.kids.length t.sp.kc] 26)) (.cells #[.int .i64 0, .int .i64 0] 32)
      rw [hV]; simpa using this
    have INV := ET.In.below b2 t hin.whole
    have bV : Below w.heap.size w V := b1.trans (b2.mono b1.size)
    have HPR := hide (pprint_any t V INV (HT.out.below bV))
    rw [HX.out, HPRT.out] at HPR
    simp only at HPR
    have HVE := hide (fun (v : World) (hb : Below V.heap.size V v) => pvector_any t v (ET.In.below hb t INV))
    have HTY := hide (fun (v : World) (hb : Below V.heap.size V v) => ptyped_any t v (ET.In.below hb t INV))
    rw [HX.out, alive_vec] at HVE
    rw [HX.out, alive_typ] at HTY
    have HV := hide hV
    have HF1 := hide F1
    have HF2 := hide F2
    have HBV := hide bV
    unfold eval at HPR HVE HTY ⊢
    clear hV F1 F2 b2 hin INV bV b1 hx HPA
    go_wp2_with fail
    rw [← HV.out]
    refine HPR.out.mono ?_
    rintro e w2 ⟨rfl, b2⟩
    obtain ⟨p0, p1, p2, p3, p4, p5, p6⟩ := seven_cells (below_block b2 HF1.out)
    obtain ⟨q0, q1, _, _⟩ := two_cells (below_block b2 HF2.out)
    go_wp2_with fail
    refine (HVE.out w2 b2).mono ?_
    rintro e w3 ⟨rfl, b3⟩
    have b23 : Below V.heap.size V w3 := b2.trans (b3.mono b2.size)
    clear p0 p1 p2 p3 p4 p5 p6 q0 q1 b3
    obtain ⟨p0, p1, p2, p3, p4, p5, p6⟩ := seven_cells (below_block b23 HF1.out)
    go_wp2_with fail
    refine (HTY.out w3 b23).mono ?_
    rintro e w4 ⟨rfl, b4⟩
    go_wp2_with fail
    go_ret
    exact ⟨rfl, HBV.out.trans ((b23.trans (b4.mono b23.size)).mono HBV.out.size)⟩

set_option maxRecDepth 20000 in
set_option maxHeartbeats 8000000 in
theorem lagain_any (s : ByteArray) (w : World) (hs63 : s.size ≤ 9223372036854775807) (hT : Tab w) (hv : ErrV w) :
    Calls Tryz.prog 4 #[.string s] w fun e w' => e = .returned (.bool true) ∧ Below w.heap.size w w' := by
  have HA := hide (alive_any w hT hv)
  have HT := hide hT
  have HV := hide hv
  clear hT hv
  go_enter Tryz.func4, Tryz.ntmps4
  go_wp2_with fail
  refine HA.out.mono ?_
  rintro e w1 ⟨rfl, b1⟩
  have HPA := hide (parse_any s w1 hs63 (IfaceAt.below HV.out b1))
  go_wp2_with fail
  refine HPA.out.mono ?_
  rintro e w2 ⟨⟨t, hx, rfl, hin⟩ | ⟨f, hf, rfl⟩, b2⟩
  · obtain ⟨hwr, hbare⟩ := prs_right hx
    have b12 : Below w.heap.size w w2 := b1.trans (b2.mono b1.size)
    obtain ⟨E, hE⟩ : ∃ E, E = w2.heap.size := ⟨_, rfl⟩
    obtain ⟨V, hV⟩ : ∃ V, V = (w2.alloc (.cells #[.int .i64 t.hd.kind, .int .i64 t.hd.n, .int .i64 t.hd.range, .string t.hd.word, .slice t.sp.ma t.hd.ms.length t.sp.mc, .slice t.sp.ba t.hd.bs.length t.sp.bc, .slice t.sp.ka t.kids.length t.sp.kc] 26)).alloc (.cells #[.int .i64 0, .int .i64 0] 32) := ⟨_, rfl⟩
    have bV : Below w2.heap.size w2 V := by rw [hV]; exact ((Below.refl _ _).alloc (Nat.le_refl _) _).alloc (by simp) _
    have F1 : V.heap[E]? = some (.cells #[.int .i64 t.hd.kind, .int .i64 t.hd.n, .int .i64 t.hd.range, .string t.hd.word, .slice t.sp.ma t.hd.ms.length t.sp.mc, .slice t.sp.ba t.hd.bs.length t.sp.bc, .slice t.sp.ka t.kids.length t.sp.kc] 26 (0, 0)) := by rw [hV, hE, Below.heap_alloc _ _ _ (by simp)]; exact heap_alloc_new w2 _
    have F2 : V.heap[E + 1]? = some (.cells #[.int .i64 0, .int .i64 0] 32 (0, 0)) := by
      have := heap_alloc_new (w2.alloc (.cells #[.int .i64 t.hd.kind, .int .i64 t.hd.n, .int .i64 t.hd.range, .string t.hd.word, .slice t.sp.ma t.hd.ms.length t.sp.mc, .slice t.sp.ba t.hd.bs.length t.sp.bc, .slice t.sp.ka t.kids.length t.sp.kc] 26)) (.cells #[.int .i64 0, .int .i64 0] 32)
      rw [hV, hE]; simpa using this
    have HIN2 := hide hin.whole
    have INV := ET.In.below bV t hin.whole
    have bwV : Below w.heap.size w V := b12.trans (bV.mono b12.size)
    have HWR := hide (pwrong_any t V INV)
    rw [hwr] at HWR
    have HPR := hide (fun (v : World) (hb : Below V.heap.size V v) => pprint_any t v (ET.In.below hb t INV) (HT.out.below (bwV.trans (hb.mono bwV.size))))
    rw [prt_ok hwr] at HPR
    have HV1 := hide hV
    have HF1 := hide F1
    have HF2 := hide F2
    have HBV := hide bwV
    have HB12 := hide b12
    have HB2V := hide bV
    have HE := hide hE
    have HIN := hide INV
    have HWR0 := hide hwr
    have HBR := hide hbare
    have hEw : w.heap.size ≤ E := by have := b12.size; omega
    have hEV : E + 1 < V.heap.size := by
      rcases Nat.lt_or_ge (E + 1) V.heap.size with e | e
      · exact e
      · rw [Array.getElem?_eq_none (by exact e)] at F2; cases F2
    unfold eval at HWR HPR ⊢
    clear hV F1 F2 bV hin INV bwV b12 b1 b2 hx HPA hE hwr hbare
    go_wp2_with fail
    rw [← HV1.out, ← HE.out]
    refine HWR.out.mono ?_
    rintro e w3 ⟨rfl, b3⟩
    obtain ⟨p0, p1, p2, p3, p4, p5, p6⟩ := seven_cells (below_block b3 HF1.out)
    go_wp2_with fail
    by_cases hsz : 2000 < (tx t.ex).size
    · rw [if_pos hsz] at HPR
      simp only at HPR
      clear hsz
      refine (HPR.out w3 b3).mono ?_
      rintro e w4 ⟨rfl, b4⟩
      go_wp2_with fail
      go_ret
      exact ⟨rfl, HBV.out.trans ((b3.trans (b4.mono b3.size)).mono HBV.out.size)⟩
    · rw [if_neg hsz] at HPR
      simp only at HPR
      obtain ⟨T, hTx⟩ : ∃ T, T = tx t.ex := ⟨_, rfl⟩
      have HTL : Hid (prs T.data.toList = .ok t.ex) := by
        show _ = _
        have := prs_tx HWR0.out (by omega)
        rw [HBR.out] at this
        rw [hTx]; exact this
      have HTS : Hid (T.size ≤ 2000) := by show _ ≤ _; rw [hTx]; omega
      rw [← hTx] at HPR
      have HTX := hide hTx
      obtain ⟨v1, v2⟩ := word_self T
      clear hsz hTx
      refine (HPR.out w3 b3).mono ?_
      rintro e w4 ⟨rfl, b4⟩
      have b34 : Below V.heap.size V w4 := b3.trans (b4.mono b3.size)
      have bw4 : Below w.heap.size w w4 := HBV.out.trans (b34.mono HBV.out.size)
      have HPA := hide (parse_any T w4 (by have := HTS.out; omega) (IfaceAt.below HV.out bw4))
      unfold PPost at HPA
      rw [HTL.out] at HPA
      clear p0 p1 p2 p3 p4 p5 p6 b3 b4
      go_wp2_with fail
      refine HPA.out.mono ?_
      rintro e w5 ⟨⟨u, hx, rfl, hin⟩ | ⟨f, hf, rfl⟩, b5⟩
      rotate_left
      · cases hf
      · have HUE : Hid (u.ex = t.ex) := by injection hx with hx; exact hx.symm
        have b45 : Below V.heap.size V w5 := b34.trans (b5.mono b34.size)
        have F5 := below_block b45 HF1.out
        have G5 := below_block b45 HF2.out
        have hs5 := b45.size
        obtain ⟨M, hM⟩ : ∃ M, M = w5.heap.size := ⟨_, rfl⟩
        obtain ⟨q0, q1, q2, q3⟩ := two_cells G5
        obtain ⟨w6, hw6⟩ : ∃ v, v = ((w5.alloc (.cells #[.int .i64 u.hd.kind, .int .i64 u.hd.n, .int .i64 u.hd.range, .string u.hd.word, .slice u.sp.ma u.hd.ms.length u.sp.mc, .slice u.sp.ba u.hd.bs.length u.sp.bc, .slice u.sp.ka u.kids.length u.sp.kc] 26)).setCell ⟨E + 1, 0, none⟩ (.int .i64 0)).setCell ⟨E + 1, 1, none⟩ (.int .i64 0) := ⟨_, rfl⟩
        have F6 : w6.heap[E]? = some (.cells #[.int .i64 t.hd.kind, .int .i64 t.hd.n, .int .i64 t.hd.range, .string t.hd.word, .slice t.sp.ma t.hd.ms.length t.sp.mc, .slice t.sp.ba t.hd.bs.length t.sp.bc, .slice t.sp.ka t.kids.length t.sp.kc] 26 (0, 0)) := by rw [hw6, setCell_far (by omega), setCell_far (by omega), Below.heap_alloc _ _ _ (by omega)]; exact F5
        have M6 : w6.heap[M]? = some (.cells #[.int .i64 u.hd.kind, .int .i64 u.hd.n, .int .i64 u.hd.range, .string u.hd.word, .slice u.sp.ma u.hd.ms.length u.sp.mc, .slice u.sp.ba u.hd.bs.length u.sp.bc, .slice u.sp.ka u.kids.length u.sp.kc] 26 (0, 0)) := by rw [hw6, setCell_far (by omega), setCell_far (by omega), hM]; exact heap_alloc_new w5 _
        have G6 : w6.heap[E + 1]? = some (.cells #[.int .i64 0, .int .i64 0] 32 (0, 0)) := by
          have h0 : (w5.alloc (.cells #[.int .i64 u.hd.kind, .int .i64 u.hd.n, .int .i64 u.hd.range, .string u.hd.word, .slice u.sp.ma u.hd.ms.length u.sp.mc, .slice u.sp.ba u.hd.bs.length u.sp.bc, .slice u.sp.ka u.kids.length u.sp.kc] 26)).heap[E + 1]? = some (.cells #[.int .i64 0, .int .i64 0] 32 (0, 0)) := (Below.heap_alloc _ _ _ (by omega)).trans G5
          rw [hw6]; simp [World.setCell, Array.getElem?_modify, h0]
        have bT : Below w2.heap.size w2 w6 := by
          rw [hw6]
          have b0 : Below w2.heap.size w2 w5 := HB2V.out.trans (b45.mono HB2V.out.size)
          exact ((b0.alloc b0.size _).setCell (by show _ ≤ E + 1; have := HE.out; omega) _).setCell (by show _ ≤ E + 1; have := HE.out; omega) _
        have INt := ET.In.below bT t HIN2.out
        have h4V := b34.size
        have INu : u.In w6 := by
          rw [hw6]
          have h1 : u.In (cut w4.heap.size (w5.alloc (.cells #[.int .i64 u.hd.kind, .int .i64 u.hd.n, .int .i64 u.hd.range, .string u.hd.word, .slice u.sp.ma u.hd.ms.length u.sp.mc, .slice u.sp.ba u.hd.bs.length u.sp.bc, .slice u.sp.ka u.kids.length u.sp.kc] 26))) := hin.grown (B := 0) (grown_trans (World.grownBy.refl _ _) (World.grownBy_alloc _ _ none) (fun _ hk => by cases hk)) (by omega)
          exact ET.In.whole (ET.In.far (ET.In.far h1 (by omega)) (by omega))
        have bw6 : Below w.heap.size w w6 := HB12.out.trans (bT.mono HB12.out.size)
        have HPR2 := hide (pprint_any u w6 INu (HT.out.below bw6))
        rw [prt_ok (by rw [HUE.out]; exact HWR0.out), HUE.out, ← HTX.out, if_neg (by have := HTS.out; omega)] at HPR2
        simp only at HPR2
        have HEQ := hide (fun (v : World) (hb : Below w6.heap.size w6 v) => equal_same t u v HUE.out.symm (ET.In.below hb t INt) (ET.In.below hb u INu))
        have HW6 := hide hw6
        have HM := hide hM
        have HB6 := hide bw6
        unfold eval at HPR2 HEQ ⊢
        have g0 : (w5.alloc (.cells #[.int .i64 u.hd.kind, .int .i64 u.hd.n, .int .i64 u.hd.range, .string u.hd.word, .slice u.sp.ma u.hd.ms.length u.sp.mc, .slice u.sp.ba u.hd.bs.length u.sp.bc, .slice u.sp.ka u.kids.length u.sp.kc] 26)).heap[E + 1]? = some (.cells #[.int .i64 0, .int .i64 0] 32 (0, 0)) := (Below.heap_alloc _ _ _ (by omega)).trans G5
        obtain ⟨r0, r1, r2, r3⟩ := two_cells g0
        clear hx hin b5 b45 F5 G5 hM hw6 bT INt INu bw6 q0 q1 q2 q3 g0 HPA b34 bw4
        go_wp2_with fail
        rw [← HW6.out, ← HM.out]
        refine HPR2.out.mono ?_
        rintro e w7 ⟨rfl, b7⟩
        obtain ⟨p0, p1, p2, p3, p4, p5, p6⟩ := seven_cells (below_block b7 F6)
        obtain ⟨m0, m1, m2, m3, m4, m5, m6⟩ := seven_cells (below_block b7 M6)
        obtain ⟨q0, q1, q2, q3⟩ := two_cells (below_block b7 G6)
        go_wp2_with fail
        refine (HEQ.out w7 b7).mono ?_
        rintro e w8 ⟨rfl, b8⟩
        go_wp2_with fail
        go_ret
        exact ⟨rfl, HB6.out.trans ((b7.trans (b8.mono b7.size)).mono HB6.out.size)⟩
  · have HNZ := hide (nz_prs _ f hf)
    have hne : ((f.1 : Int) != 0) = true := by simpa using HNZ.out
    have HEQ := hide (fun (v : World) => equal_same zeroE zeroE v rfl (zeroE_in v) (zeroE_in v))
    simp only [eval, zeroE, ET.hd, ET.sp, ET.kids, List.length_nil] at HEQ
    have b12 : Below w.heap.size w w2 := b1.trans (b2.mono b1.size)
    have HB := hide b12
    clear hf HPA b1 b2 b12
    go_wp2_with fail
    refine (HEQ.out _).mono ?_
    rintro e w3 ⟨rfl, b3⟩
    go_wp2_with fail
    go_ret
    exact ⟨rfl, HB.out.trans ((((Below.refl _ _).alloc (Nat.le_refl _) _).alloc (by simp) _).trans (b3.mono (by simp; omega)) |>.mono HB.out.size)⟩

end Go.Proofs.YtfgablhgjbjbkadGreatDoor

/-
  Where an expression's parts lie.
-/
namespace Go.GrainU
open Go.RowKit

mutual
/-- its parts lie in such blocks alone -/
def ET.On (R : Nat → Prop) : ET → Prop
  | .node h s kids => ((h.ms ≠ [] → ∀ b o, s.ma = some ⟨b, o, none⟩ → R b) ∧ (h.bs ≠ [] → ∀ b o, s.ba = some ⟨b, o, none⟩ → R b) ∧ (kids ≠ [] → ∀ b o, s.ka = some ⟨b, o, none⟩ → R b)) ∧ OnL R kids
def OnL (R : Nat → Prop) : List ET → Prop
  | [] => True
  | k :: r => k.On R ∧ OnL R r
end

theorem onL_mem {R : Nat → Prop} {l : List ET} (h : OnL R l) : ∀ k ∈ l, k.On R := by
  induction l with
  | nil => intro k hk; cases hk
  | cons a r ih =>
    simp only [OnL] at h
    intro k hk
    rcases List.mem_cons.1 hk with e | e
    · rw [e]; exact h.1
    · exact ih h.2 k e

theorem onL_of {R : Nat → Prop} {l : List ET} (h : ∀ k ∈ l, k.On R) : OnL R l := by
  induction l with
  | nil => simp [OnL]
  | cons a r ih =>
    simp only [OnL]
    exact ⟨h a (by simp), ih fun k hk => h k (by simp [hk])⟩

theorem ET.On.mono {R S : Nat → Prop} (hRS : ∀ k, R k → S k) : ∀ t : ET, t.On R → t.On S := by
  refine ET.ind ?_
  intro h s kids ih ho
  simp only [ET.On] at ho ⊢
  obtain ⟨⟨a, b, c⟩, d⟩ := ho
  exact ⟨⟨fun e p o q => hRS _ (a e p o q), fun e p o q => hRS _ (b e p o q), fun e p o q => hRS _ (c e p o q)⟩, onL_of fun k hk => ih k hk (onL_mem d k hk)⟩

theorem seg_move {R : Nat → Prop} {w w' : World} (hk : ∀ k, R k → k < w.heap.size → w'.heap[k]? = w.heap[k]?) {ao : Option Addr} {xs : List Value} (h : Seg w ao xs) (hR : xs ≠ [] → ∀ b o, ao = some ⟨b, o, none⟩ → R b) : Seg w' ao xs := by
  rcases h with h | ⟨b, off, rfl, h⟩
  · exact .inl h
  · cases xs with
    | nil => exact .inl rfl
    | cons x r =>
      refine .inr ⟨b, off, rfl, fun j hj => ?_⟩
      have h0 := h 0 (by simp)
      simp only [Nat.add_zero, List.getElem?_cons_zero] at h0
      have hl : b < w.heap.size := World.block_lt_of_cell? w ⟨b, off, none⟩ h0
      rw [← h j hj]
      simp [World.cell?, hk b (hR (by simp) b off rfl) hl]

theorem mcells_ne {l : List Mt} (h : mcells l ≠ []) : l ≠ [] := by intro e; rw [e] at h; exact h rfl
theorem wcells_ne {l : List ByteArray} (h : wcells l ≠ []) : l ≠ [] := by intro e; rw [e] at h; exact h rfl
theorem ecells_ne {l : List ET} (h : ecells l ≠ []) : l ≠ [] := by intro e; rw [e] at h; exact h rfl

theorem ET.In.move {R : Nat → Prop} {w w' : World} (hk : ∀ k, R k → k < w.heap.size → w'.heap[k]? = w.heap[k]?) : ∀ t : ET, t.In w → t.On R → t.In w' := by
  refine ET.ind ?_
  intro h s kids ih hin ho
  simp only [ET.In] at hin ⊢
  simp only [ET.On] at ho
  obtain ⟨⟨a, b, c⟩, d, e⟩ := hin
  obtain ⟨⟨oa, ob, oc⟩, od⟩ := ho
  exact ⟨⟨seg_move hk a fun q => oa (mcells_ne q), seg_move hk b fun q => ob (wcells_ne q), seg_move hk c fun q => oc (ecells_ne q)⟩, d, inL_of fun k hk' => ih k hk' (inL_mem e k hk') (onL_mem od k hk')⟩

theorem ecells_snoc (l : List ET) (t : ET) : ecells (l ++ [t]) = ecells l ++ ecell t := by
  induction l with
  | nil => simp [ecells]
  | cons a r ih => simp [ecells, ih]

theorem bareL_snoc (l : List Ex) (x : Ex) : bareL (l ++ [x]) = bareL l ++ [bare x] := by
  induction l with
  | nil => simp [bareL]
  | cons a r ih => simp [bareL, ih]

theorem exL_snoc (l : List ET) (x : ET) : exL (l ++ [x]) = exL l ++ [x.ex] := by
  induction l with
  | nil => simp [exL]
  | cons a r ih => simp [exL, ih]

end Go.GrainU

/-
  An append to a row of the call's own, at a step of a region that draws its order: what the old row held it holds.
-/
namespace Go.GrainU
open Go.RowKit

theorem came_own {w : World} {base e size gx n cap : Nat} {xs : List Value} (hown : w.ownsRow base e size (.slice (some ⟨gx, 0, none⟩) n cap) n xs) : Came w size (some ⟨gx, 0, none⟩) gx 0 n cap xs := by
  rcases hown.2 with ⟨h0, _⟩ | ⟨g', cap', cur, h0, _, hg, hc, _, hcs, htk⟩
  · simp at h0
  · simp only [Value.slice.injEq, Option.some.injEq, Addr.mk.injEq, and_true, true_and] at h0
    obtain ⟨rfl, rfl⟩ := h0
    refine ⟨hc, fun _ => rfl, fun _ => lt_of_block hg, hown.1, fun j u hu => ?_, fun j hj => ?_⟩
    · have hj : j < n * size := by
        have := (List.getElem?_eq_some_iff.1 hu).1
        rw [hown.1] at this; exact this
      rw [Nat.zero_add]
      exact (hown.cellAt j hj).trans hu
    · have hm : n * size + (cap - n) * size = cap * size := by rw [← Nat.add_mul]; congr 1; omega
      constructor
      · rw [cell_of_row w gx _ cur e (0, 0) hg, Array.getElem?_eq_getElem (by rw [hcs]; omega)]; rfl
      · simp [World.frozen?, hg]

theorem run_append_keep {P : Program} {w : World} (t ty : TypeId) (base : Nat) (e : TypeId) (i : TypeInfo) (z : Value) (size bytes : Nat) (ht : P.underlying t = some (.slice e)) (hi : P.info? e = some i) (hz : i.zero = some z)
    (hsize : i.size = size) (hby : i.bytes = bytes) (hzs : z.cells.size = size) (hsz : 0 < size)
    (gx n cap : Nat) (xs : List Value) (hown : w.ownsRow base e size (.slice (some ⟨gx, 0, none⟩) n cap) n xs)
    (ad : Addr) (m c : Nat) (news : List Value) (hl : news.length = m * size) (hnews : ∀ j u, news[j]? = some u → w.cell? (ad.add j) = some u) (h1 : ∀ u ∈ news, u.oneCell' = true)
    (hm : 0 < m) (h63 : n + m ≤ maxLen) (hbytes : (n + m) * bytes ≤ 140737488355328) (hbase : base ≤ w.heap.size) :
    ∃ g cap' w', (Builtin.append_ #[t, t] ty #[.slice (some ⟨gx, 0, none⟩) n cap, .slice (some ad) m c]).run P w = .ok (.slice (some ⟨g, 0, none⟩) (n + m) cap') w' ∧
      w'.ownsRow base e size (.slice (some ⟨g, 0, none⟩) (n + m) cap') (n + m) (xs ++ news) ∧ w.grownBy w' (some gx) ∧ (∀ b j, b < w.heap.size → (b = gx → j < n * size) → w'.cell? ⟨b, j, none⟩ = w.cell? ⟨b, j, none⟩) := by
  obtain ⟨g, cap', w', hr, h2, h3, _, _⟩ := run_append_lies (P := P) w t ty base e i z size bytes ht hi hz hsize hby hzs hsz _ n xs hown ad m c news hl hnews h1 hm h63 hbytes hbase w.heap.size rfl
  have hc := came_own hown
  obtain ⟨v'', w'', hr', hu⟩ := run_append_upon (P := P) hc t t ty i z bytes ht hi hz hsize hby hzs (Upon.start (e := e) hc) (.slice (some ad) m c) m news (Src.ofSlice w ht ad m c news hl hnews h1) (by simpa using h63) (by simpa using hbytes)
  rw [hr] at hr'
  simp only [Result.ok.injEq] at hr'
  obtain ⟨rfl, rfl⟩ := hr'
  refine ⟨g, cap', w', hr, h2, h3, fun b j hb hj => hu.old hb (fun k hk ⟨e1, e2⟩ => ?_)⟩
  have := hj e1
  omega

theorem step_append_keep {P : Program} {w : World} {ops : Array Oper} {o : Oper} {a : Act} {K : Act → World → Prop} {Q : Exit → Act → World → Prop} {E : Prop} (hw : Region.wanted o (yielded ops a.tmps) = true) (s x : Operand) (t : TypeId)
    (ho : o.op = .call { callee := .builtin .append, args := #[s, x], argTypes := #[t, t] })
    (base : Nat) (e : TypeId) (i : TypeInfo) (z : Value) (size bytes : Nat) (ht : P.underlying t = some (.slice e)) (hi : P.info? e = some i) (hz : i.zero = some z)
    (hsize : i.size = size) (hby : i.bytes = bytes) (hzs : z.cells.size = size) (hsz : 0 < size)
    (gx n cap : Nat) (xs : List Value) (hs : a.eval s = .slice (some ⟨gx, 0, none⟩) n cap) (hown : w.ownsRow base e size (.slice (some ⟨gx, 0, none⟩) n cap) n xs)
    (ad : Addr) (m c : Nat) (news : List Value) (hx : a.eval x = .slice (some ad) m c) (hl : news.length = m * size) (hnews : ∀ j u, news[j]? = some u → w.cell? (ad.add j) = some u) (h1 : ∀ u ∈ news, u.oneCell' = true)
    (hm : 0 < m) (h63 : n + m ≤ maxLen) (hbytes : (n + m) * bytes ≤ 140737488355328) (hbase : base ≤ w.heap.size)
    (h : ∀ g cap' w', w'.ownsRow base e size (.slice (some ⟨g, 0, none⟩) (n + m) cap') (n + m) (xs ++ news) → w.grownBy w' (some gx) → (∀ b j, b < w.heap.size → (b = gx → j < n * size) → w'.cell? ⟨b, j, none⟩ = w.cell? ⟨b, j, none⟩) → K (a.put o.dst (.slice (some ⟨g, 0, none⟩) (n + m) cap')) w') :
    if Region.wanted o (yielded ops a.tmps) = true then Oper.wp P o a w K Q else E := by
  rw [if_pos hw]
  obtain ⟨g, cap', w', hr, h2, h3, h4⟩ := run_append_keep (P := P) t o.type base e i z size bytes ht hi hz hsize hby hzs hsz gx n cap xs hown ad m c news hl hnews h1 hm h63 hbytes hbase
  unfold Oper.wp execOp
  simp only [ho, resolve, invoke, builtin, Sem.run_bind, Sem.run_pure, Result.andThen_ok, List.map_toArray, List.map_cons, List.map_nil, hs, hx, hr]
  exact h g cap' w' h2 h3 h4

/-- whole numbers as cells -/
def icells (l : List Int) : List Value := l.map (Value.int .i64)

theorem seg_int {w : World} {ao : Option Addr} {l : List Int} (h : Seg w ao (icells l)) {k : Nat} (hk : k < l.length) :
    ∃ b off, ao = some ⟨b, off, none⟩ ∧ ∀ j, j < l.length → w.cell? ⟨b, off + j, none⟩ = some (.int .i64 (l.getD j 0)) := by
  rcases h with h | ⟨b, off, rfl, h⟩
  · have := congrArg List.length h; simp [icells] at this; subst this; simp at hk
  · refine ⟨b, off, rfl, fun j hj => (h j (by simpa [icells] using hj)).trans ?_⟩
    simp [icells, List.getElem?_eq_getElem hj, List.getD]

end Go.GrainU

/-
  An append of whatever slice to a row of the call's own, at a step of a region that draws its order.
-/
namespace Go.GrainU
open Go.RowKit

theorem seg_newsP {w : World} {ad : Addr} {news : List Value} (hseg : Seg w (some ad) news) : ∀ j u, news[j]? = some u → w.cell? (ad.add j) = some u := by
  rcases hseg with hn | ⟨b, off, e1, hc⟩
  · subst hn; intro j u hu; simp at hu
  · simp at e1
    subst e1
    intro j u hu
    have hj : j < news.length := by
      rcases Nat.lt_or_ge j news.length with h | h
      · exact h
      · rw [List.getElem?_eq_none h] at hu; cases hu
    have := hc j hj
    rw [hu] at this
    rw [show (⟨b, off, none⟩ : Addr).add j = ⟨b, off + j, none⟩ from by unfold Addr.add; split <;> simp_all]
    exact this

theorem run_append_segP {P : Program} {w : World} (t ty : TypeId) (base : Nat) (e : TypeId) (i : TypeInfo) (z : Value) (size bytes : Nat) (ht : P.underlying t = some (.slice e)) (hi : P.info? e = some i) (hz : i.zero = some z)
    (hsize : i.size = size) (hby : i.bytes = bytes) (hzs : z.cells.size = size) (hsz : 0 < size)
    (v : Value) (n : Nat) (xs : List Value) (hown : w.ownsRow base e size v n xs)
    (ao : Option Addr) (m c : Nat) (news : List Value) (hao : ao = none → m = 0 ∧ c = 0) (hseg : Seg w ao news) (hl : news.length = m * size) (h1 : ∀ u ∈ news, u.oneCell' = true)
    (h63 : n + m ≤ maxLen) (hbytes : (n + m) * bytes ≤ 140737488355328) (hbase : base ≤ w.heap.size) :
    ∃ v' w', (Builtin.append_ #[t, t] ty #[v, .slice ao m c]).run P w = .ok v' w' ∧ w'.ownsRow base e size v' (n + m) (xs ++ news) ∧ w.grownBy w' v.ownBlock ∧ (v'.ownBlock = v.ownBlock ∨ v'.ownBlock = some w.heap.size) := by
  cases ao with
  | none =>
    obtain ⟨rfl, rfl⟩ := hao rfl
    have hn : news = [] := List.length_eq_zero_iff.mp (by omega)
    subst hn
    exact ⟨v, w, run_append_owned_none (P := P) (w := w) base t ty e i size ht hi v n xs hown, by simpa using hown, ⟨rfl, rfl, rfl, Nat.le_refl _, fun _ _ _ => rfl⟩, .inl rfl⟩
  | some ad =>
    have hnews := seg_newsP hseg
    rcases Nat.eq_zero_or_pos m with hm | hm
    · subst hm
      have hn : news = [] := List.length_eq_zero_iff.mp (by omega)
      subst hn
      obtain ⟨v', w', hr, h2, h3, h4⟩ := run_append_own (P := P) w base t ty e i z size bytes ht hi hz hsize hby hzs hsz v n xs hown ad 0 c [] (by simp) hnews h1 h63 hbytes hbase
      refine ⟨v', w', hr, h2, h3, .inl ?_⟩
      rcases hown.2 with ⟨hv, _⟩ | ⟨g, cap, cur, hv, _, hg, hcap, _, hcs, _⟩
      · have := h4.2 ⟨hv, rfl⟩
        rw [this, hv]
      · have hroom := run_append_room (P := P) w t ty e i ht hi g n cap cur hg ad 0 c [] (by simp) hnews h1 (by simpa using hcap) (by
          have : n * i.size ≤ cur.size := by rw [hcs, hsize]; exact Nat.mul_le_mul_right _ hcap
          simpa using this)
        rw [hv, hroom] at hr
        simp only [Result.ok.injEq] at hr
        rw [← hr.1, hv]
        rfl
    · obtain ⟨g, cap', w', hr, h2, h3, h4, _⟩ := run_append_lies (P := P) w t ty base e i z size bytes ht hi hz hsize hby hzs hsz v n xs hown ad m c news hl hnews h1 hm h63 hbytes hbase w.heap.size rfl
      refine ⟨_, w', hr, h2, h3, ?_⟩
      rcases h4 with h4 | h4
      · exact .inl h4.symm
      · exact .inr (by rw [h4]; rfl)

theorem step_append_segP {P : Program} {w : World} {ops : Array Oper} {o : Oper} {a : Act} {K : Act → World → Prop} {Q : Exit → Act → World → Prop} {E : Prop} (hw : Region.wanted o (yielded ops a.tmps) = true) (s x : Operand) (t : TypeId)
    (ho : o.op = .call { callee := .builtin .append, args := #[s, x], argTypes := #[t, t] })
    (base : Nat) (e : TypeId) (i : TypeInfo) (z : Value) (size bytes : Nat) (ht : P.underlying t = some (.slice e)) (hi : P.info? e = some i) (hz : i.zero = some z)
    (hsize : i.size = size) (hby : i.bytes = bytes) (hzs : z.cells.size = size) (hsz : 0 < size)
    (v : Value) (n : Nat) (xs : List Value) (hs : a.eval s = v) (hown : w.ownsRow base e size v n xs)
    (ao : Option Addr) (m c : Nat) (news : List Value) (hx : a.eval x = .slice ao m c) (hao : ao = none → m = 0 ∧ c = 0) (hseg : Seg w ao news) (hl : news.length = m * size) (h1 : ∀ u ∈ news, u.oneCell' = true)
    (h63 : n + m ≤ maxLen) (hbytes : (n + m) * bytes ≤ 140737488355328) (hbase : base ≤ w.heap.size)
    (h : ∀ v' w', w'.ownsRow base e size v' (n + m) (xs ++ news) → w.grownBy w' v.ownBlock → (v'.ownBlock = v.ownBlock ∨ v'.ownBlock = some w.heap.size) → K (a.put o.dst v') w') :
    if Region.wanted o (yielded ops a.tmps) = true then Oper.wp P o a w K Q else E := by
  rw [if_pos hw]
  obtain ⟨v', w', hr, h2, h3, h4⟩ := run_append_segP (P := P) t o.type base e i z size bytes ht hi hz hsize hby hzs hsz v n xs hown ao m c news hao hseg hl h1 h63 hbytes hbase
  unfold Oper.wp execOp
  simp only [ho, resolve, invoke, builtin, Sem.run_bind, Sem.run_pure, Result.andThen_ok, List.map_toArray, List.map_cons, List.map_nil, hs, hx, hr]
  exact h v' w' h2 h3 h4

end Go.GrainU

/-
  The document's Bare walked.
-/
namespace Go.GrainU
open Go.RowKit

theorem own_blk {w : World} {base e size n : Nat} {v : Value} {xs : List Value} (h : w.ownsRow base e size v n xs) {co : Option Addr} {c : Nat} (hv : v = .slice co n c) : ∀ b o, co = some ⟨b, o, none⟩ → xs ≠ [] → base ≤ b ∧ b < w.heap.size := by
  intro b o e hx
  exact h.lt b (by rw [hv, e]; rfl)

theorem seg_blk {w : World} {ao : Option Addr} {xs : List Value} (h : Seg w ao xs) (hx : xs ≠ []) {b o : Nat} (e : ao = some ⟨b, o, none⟩) : b < w.heap.size := by
  rcases h with h | ⟨b', off, e', h⟩
  · exact absurd h hx
  · rw [e] at e'
    injection e' with e'
    injection e' with e1 e2
    cases xs with
    | nil => exact absurd rfl hx
    | cons x r =>
      have h0 := h 0 (by simp)
      simp only [Nat.add_zero, List.getElem?_cons_zero] at h0
      rw [e1]
      exact World.block_lt_of_cell? w ⟨b', off, none⟩ h0

theorem bareM_fit {m : Mt} {a : Nat} (h : m.key.size ≤ a ∧ m.val.size ≤ a) : (bareM m).key.size ≤ a ∧ (bareM m).val.size ≤ a := by
  unfold bareM
  split
  · exact ⟨h.1, by rw [lit_size]; simp⟩
  · exact h

theorem ecell_one (t : ET) : ∀ u ∈ ecell t, u.oneCell' = true := by
  intro u hu
  simp only [ecell, List.mem_cons, List.not_mem_nil, or_false] at hu
  rcases hu with e | e | e | e | e | e | e <;> (rw [e]; rfl)

end Go.GrainU
namespace Go.Proofs.YtfgablhgjbjbkadGreatDoor
open Go.RowKit Go.GrainU

theorem Tryz.infoExpr : (Tryz.prog.info? 26).map (fun i => (i.zero, i.size, i.bytes)) = some (some (.agg #[.int .i64 0, .int .i64 0, .int .i64 0, .string ⟨#[]⟩, .slice none 0 0, .slice none 0 0, .slice none 0 0]), 7, 112) := by kernel_rfl

/-- Bare tells what comes back -/
abbrev Bares (t : ET) : Prop := ∀ (W0 w : World), t.In W0 → Below W0.heap.size W0 w → Rt t.ex →
  Calls Tryz.prog 9 #[eval t] w fun e w' => (∃ u : ET, u.ex = bare t.ex ∧ e = .returned (eval u) ∧ u.In w' ∧ u.On (fun k => k < W0.heap.size ∨ w.heap.size ≤ k ∧ k < w'.heap.size)) ∧ Below w.heap.size w w'

/-- the kids that came back so far: where they lie -/
def Kept (W0 wr : World) (Y : Nat) (ob : Option Nat) (us : List ET) : Prop := ∀ u ∈ us, u.In wr ∧ u.On (fun j => j < W0.heap.size ∨ Y < j ∧ ob ≠ some j ∧ j < wr.heap.size)

theorem Kept.nil {W0 wr : World} {Y : Nat} {ob : Option Nat} : Kept W0 wr Y ob [] := fun u hu => by cases hu

theorem Kept.go {W0 wr w' : World} {Y : Nat} {ob ob' : Option Nat} {us : List ET} (h : Kept W0 wr Y ob us) (hsz : wr.heap.size ≤ w'.heap.size) (hk : ∀ k, (k < W0.heap.size ∨ Y < k ∧ ob ≠ some k) → k < wr.heap.size → w'.heap[k]? = wr.heap[k]?) (hob : ob' = ob ∨ ∃ g, ob' = some g ∧ wr.heap.size ≤ g) : Kept W0 w' Y ob' us := by
  intro u hu
  obtain ⟨hi, ho⟩ := h u hu
  refine ⟨ET.In.move (R := fun j => j < W0.heap.size ∨ Y < j ∧ ob ≠ some j ∧ j < wr.heap.size) (fun k hk1 hk2 => hk k (by rcases hk1 with e | e; exact .inl e; exact .inr ⟨e.1, e.2.1⟩) hk2) u hi ho, ET.On.mono (fun k hk1 => ?_) u ho⟩
  rcases hk1 with e | ⟨e1, e2, e3⟩
  · exact .inl e
  · refine .inr ⟨e1, ?_, by omega⟩
    rcases hob with q | ⟨g, q, hg⟩
    · rw [q]; exact e2
    · rw [q]; intro e; injection e with e; omega

theorem Kept.snoc {W0 wr : World} {Y : Nat} {ob : Option Nat} {us : List ET} {u : ET} (h : Kept W0 wr Y ob us) (hi : u.In wr) (ho : u.On (fun j => j < W0.heap.size ∨ Y < j ∧ ob ≠ some j ∧ j < wr.heap.size)) : Kept W0 wr Y ob (us ++ [u]) := by
  intro v hv
  rcases List.mem_append.1 hv with e | e
  · exact h v e
  · rw [List.mem_singleton.1 e]; exact ⟨hi, ho⟩

set_option maxRecDepth 20000 in
set_option maxHeartbeats 8000000 in
theorem bare_any : ∀ t : ET, Bares t := by
  refine ET.ind ?_
  intro h s kids ih W0 w hin hW0 hr
  obtain ⟨i0, hi, hz0, hz1, hz2⟩ := info_parts Tryz.infoExpr
  obtain ⟨ha, hk⟩ := Rt.parts (by simpa only [ET.ex] using hr)
  rw [exL_length] at ha
  simp only [ET.In] at hin
  obtain ⟨⟨hM, hB, hK⟩, ⟨lM, lB, lK, lW, fM, fB, hbc, fM2⟩, hL⟩ := hin
  obtain ⟨kd, n, rg, wd, ms, bs⟩ := h
  obtain ⟨ma, mc, ba, bc, ka, kc⟩ := s
  simp only at ha hM hB hK lM lB lK lW fM fB hbc fM2
  have hkr : ∀ t ∈ kids, Rt t.ex := fun t ht => hk t.ex (by rw [exL_map]; exact List.mem_map.2 ⟨t, ht, rfl⟩)
  rcases alone_cases ha with ⟨e, k0, n0, n1⟩ | ⟨e, k0, wb⟩ | ⟨e, k0, ab⟩ | ⟨e, k0, sg⟩
  · simp only at e
    subst e
    show Calls Tryz.prog _ #[.agg #[.int .i64 1, .int .i64 n, .int .i64 rg, .string wd, .slice ma ms.length mc, .slice ba bs.length bc, .slice ka kids.length kc]] w _
    obtain ⟨kl, hkl⟩ : ∃ x, x = kids.length := ⟨_, rfl⟩
    obtain ⟨ml, hml⟩ : ∃ x, x = ms.length := ⟨_, rfl⟩
    obtain ⟨bn, hbn⟩ : ∃ x, x = bs.length := ⟨_, rfl⟩
    rw [← hkl] at k0 lK ⊢
    rw [← hml, ← hbn]
    have HKL := hide hkl
    have HML := hide hml
    have HBN := hide hbn
    clear hkl hml hbn
    obtain ⟨P, hP⟩ : ∃ P, P = w.heap.size := ⟨_, rfl⟩
    obtain ⟨V, hV⟩ : ∃ V, V = ((w.alloc (.cells #[.int .i64 1, .int .i64 n, .int .i64 rg, .string wd, .slice ma ml mc, .slice ba bn bc, .slice ka kl kc] 26)).alloc (.cells #[.int .i64 0, .int .i64 0, .int .i64 0, .string ⟨#[]⟩, .slice none 0 0, .slice none 0 0, .slice none 0 0] 26)).alloc (.cells #[.int .i64 1, .int .i64 n, .int .i64 0, .string ⟨#[]⟩, .slice none 0 0, .slice none 0 0, .slice none 0 0] 26) := ⟨_, rfl⟩
    have bV : Below w.heap.size w V := by rw [hV]; exact (((Below.refl _ _).alloc (Nat.le_refl _) _).alloc (by simp) _).alloc (by simp; omega) _
    have FP : V.heap[P]? = some (.cells #[.int .i64 1, .int .i64 n, .int .i64 rg, .string wd, .slice ma ml mc, .slice ba bn bc, .slice ka kl kc] 26 (0, 0)) := by rw [hV, hP, Below.heap_alloc _ _ _ (by simp; omega), Below.heap_alloc _ _ _ (by simp)]; exact heap_alloc_new w _
    have FX : V.heap[P + 1]? = some (.cells #[.int .i64 0, .int .i64 0, .int .i64 0, .string ⟨#[]⟩, .slice none 0 0, .slice none 0 0, .slice none 0 0] 26 (0, 0)) := by
      rw [hV, hP, Below.heap_alloc _ _ _ (by simp)]
      have := heap_alloc_new (w.alloc (.cells #[.int .i64 1, .int .i64 n, .int .i64 rg, .string wd, .slice ma ml mc, .slice ba bn bc, .slice ka kl kc] 26)) (.cells #[.int .i64 0, .int .i64 0, .int .i64 0, .string ⟨#[]⟩, .slice none 0 0, .slice none 0 0, .slice none 0 0] 26)
      simpa using this
    have FY : V.heap[P + 1 + 1]? = some (.cells #[.int .i64 1, .int .i64 n, .int .i64 0, .string ⟨#[]⟩, .slice none 0 0, .slice none 0 0, .slice none 0 0] 26 (0, 0)) := by
      have := heap_alloc_new ((w.alloc (.cells #[.int .i64 1, .int .i64 n, .int .i64 rg, .string wd, .slice ma ml mc, .slice ba bn bc, .slice ka kl kc] 26)).alloc (.cells #[.int .i64 0, .int .i64 0, .int .i64 0, .string ⟨#[]⟩, .slice none 0 0, .slice none 0 0, .slice none 0 0] 26)) (.cells #[.int .i64 1, .int .i64 n, .int .i64 0, .string ⟨#[]⟩, .slice none 0 0, .slice none 0 0, .slice none 0 0] 26)
      rw [hV, hP]; simpa using this
    have hVs : V.heap.size = P + 1 + 1 + 1 := by rw [hV, hP]; simp
    have hPw : w.heap.size ≤ P := by omega
    have haP : W0.heap.size ≤ P := by have := hW0.size; omega
    have HV := hide hV
    have HP := hide hP
    have HW0 := hide hW0
    have HM := hide hM
    have HB := hide hB
    have HK := hide hK
    have HL := hide hL
    have HIH := hide ih
    have HKR := hide hkr
    have hk2 : kl ≤ 2 := by omega
    have HK0 := hide k0
    clear hV hP hW0 hM hB hK hL ih hkr hk hr ha k0
    have hk0 : kl = 0 := HK0.out
    subst hk0
    go_enter Tryz.func9, Tryz.ntmps9
    go_wp2_with fail
    rw [← HV.out, ← HP.out]
    go_loopw [58] (fun i wr => i = .int .i64 0 ∧ wr = V) (fun _ _ => 0)
    case atStart => exact ⟨rfl, rfl⟩
    case round =>
      obtain ⟨rfl, rfl⟩ := hrel
      obtain ⟨u, hu⟩ : ∃ u : ET, u = .node ⟨1, n, 0, ⟨#[]⟩, [], []⟩ ⟨none, 0, none, 0, none, 0⟩ [] := ⟨_, rfl⟩
      have hev : eval u = .agg #[.int .i64 1, .int .i64 n, .int .i64 0, .string ⟨#[]⟩, .slice none 0 0, .slice none 0 0, .slice none 0 0] := by rw [hu]; rfl
      have hex : u.ex = bare (ET.ex (.node ⟨1, n, rg, wd, ms, bs⟩ ⟨ma, mc, ba, bc, ka, kc⟩ kids)) := by
        have hkn : kids = [] := List.eq_nil_of_length_eq_zero (by rw [← HKL.out])
        rw [hu, hkn]
        simp only [ET.ex, bare, bareH, exL, bareL]
        rfl
      have hBL : Below w.heap.size w (put7 wr (P + 1) u) := by
        unfold put7
        exact ((((((bV.setCell (by show _ ≤ P + 1; omega) _).setCell (by show _ ≤ P + 1; omega) _).setCell (by show _ ≤ P + 1; omega) _).setCell (by show _ ≤ P + 1; omega) _).setCell (by show _ ≤ P + 1; omega) _).setCell (by show _ ≤ P + 1; omega) _).setCell (by show _ ≤ P + 1; omega) _
      have hIN : u.In (put7 wr (P + 1) u) := by
        rw [hu]
        simp only [ET.In]
        exact ⟨⟨.inl rfl, .inl rfl, .inl rfl⟩, ⟨by simp, by simp, by simp, by show (0 : Nat) ≤ _; omega, fun m hm => by (cases hm), fun b hb => by (cases hb), Nat.le_refl _, fun m hm => by (cases hm)⟩, by simp [InL]⟩
      have hON : u.On (fun j => j < W0.heap.size ∨ w.heap.size ≤ j ∧ j < (put7 wr (P + 1) u).heap.size) := by
        rw [put7_size, hu]
        simp only [ET.On]
        exact ⟨⟨fun h => absurd rfl h, fun h => absurd rfl h, fun h => absurd rfl h⟩, by simp [OnL]⟩
      have hput : put7 wr (P + 1) u = (((((((wr.setCell ⟨P + 1, 0, none⟩ (.int .i64 1)).setCell ⟨P + 1, 1, none⟩ (.int .i64 n)).setCell ⟨P + 1, 2, none⟩ (.int .i64 0)).setCell ⟨P + 1, 3, none⟩ (.string ⟨#[]⟩)).setCell ⟨P + 1, 4, none⟩ (.slice none 0 0)).setCell ⟨P + 1, 5, none⟩ (.slice none 0 0)).setCell ⟨P + 1, 6, none⟩ (.slice none 0 0)) := by
        have h7 := hev
        unfold eval at h7
        simp only [Value.agg.injEq, Array.mk.injEq, List.cons.injEq, and_true] at h7
        obtain ⟨e0, e1, e2, e3, e4, e5, e6⟩ := h7
        unfold put7
        rw [e0, e1, e2, e3, e4, e5, e6]
      have HIN := hide hIN
      have HON2 := hide hON
      have HBL := hide hBL
      have HEV := hide hev
      have HEX := hide hex
      rw [hput] at HIN HON2 HBL
      obtain ⟨a0, a1, a2, a3, a4, a5, a6⟩ := seven_cells FY
      obtain ⟨z0, z1, z2, z3, z4, z5, z6⟩ := seven_cells FX
      obtain ⟨t0, t1, t2, t3, t4, t5, t6⟩ := thaw7 FX
      clear hIN hON hBL hev hex hput hu
      go_wp2_with fail
      exact bodyPost_ret (v := .agg #[.int .i64 1, .int .i64 n, .int .i64 0, .string ⟨#[]⟩, .slice none 0 0, .slice none 0 0, .slice none 0 0]) (by simp [results, Tryz.results9, go_sem, z0, z1, z2, z3, z4, z5, z6]) rfl ⟨⟨u, HEX.out, by rw [HEV.out], HIN.out, HON2.out⟩, HBL.out⟩
  · simp only at e
    subst e
    show Calls Tryz.prog _ #[.agg #[.int .i64 2, .int .i64 n, .int .i64 rg, .string wd, .slice ma ms.length mc, .slice ba bs.length bc, .slice ka kids.length kc]] w _
    obtain ⟨kl, hkl⟩ : ∃ x, x = kids.length := ⟨_, rfl⟩
    obtain ⟨ml, hml⟩ : ∃ x, x = ms.length := ⟨_, rfl⟩
    obtain ⟨bn, hbn⟩ : ∃ x, x = bs.length := ⟨_, rfl⟩
    rw [← hkl] at k0 lK ⊢
    rw [← hml, ← hbn]
    have HKL := hide hkl
    have HML := hide hml
    have HBN := hide hbn
    clear hkl hml hbn
    obtain ⟨P, hP⟩ : ∃ P, P = w.heap.size := ⟨_, rfl⟩
    obtain ⟨V, hV⟩ : ∃ V, V = ((w.alloc (.cells #[.int .i64 2, .int .i64 n, .int .i64 rg, .string wd, .slice ma ml mc, .slice ba bn bc, .slice ka kl kc] 26)).alloc (.cells #[.int .i64 0, .int .i64 0, .int .i64 0, .string ⟨#[]⟩, .slice none 0 0, .slice none 0 0, .slice none 0 0] 26)).alloc (.cells #[.int .i64 2, .int .i64 0, .int .i64 0, .string ⟨#[]⟩, .slice none 0 0, .slice none 0 0, .slice none 0 0] 26) := ⟨_, rfl⟩
    have bV : Below w.heap.size w V := by rw [hV]; exact (((Below.refl _ _).alloc (Nat.le_refl _) _).alloc (by simp) _).alloc (by simp; omega) _
    have FP : V.heap[P]? = some (.cells #[.int .i64 2, .int .i64 n, .int .i64 rg, .string wd, .slice ma ml mc, .slice ba bn bc, .slice ka kl kc] 26 (0, 0)) := by rw [hV, hP, Below.heap_alloc _ _ _ (by simp; omega), Below.heap_alloc _ _ _ (by simp)]; exact heap_alloc_new w _
    have FX : V.heap[P + 1]? = some (.cells #[.int .i64 0, .int .i64 0, .int .i64 0, .string ⟨#[]⟩, .slice none 0 0, .slice none 0 0, .slice none 0 0] 26 (0, 0)) := by
      rw [hV, hP, Below.heap_alloc _ _ _ (by simp)]
      have := heap_alloc_new (w.alloc (.cells #[.int .i64 2, .int .i64 n, .int .i64 rg, .string wd, .slice ma ml mc, .slice ba bn bc, .slice ka kl kc] 26)) (.cells #[.int .i64 0, .int .i64 0, .int .i64 0, .string ⟨#[]⟩, .slice none 0 0, .slice none 0 0, .slice none 0 0] 26)
      simpa using this
    have FY : V.heap[P + 1 + 1]? = some (.cells #[.int .i64 2, .int .i64 0, .int .i64 0, .string ⟨#[]⟩, .slice none 0 0, .slice none 0 0, .slice none 0 0] 26 (0, 0)) := by
      have := heap_alloc_new ((w.alloc (.cells #[.int .i64 2, .int .i64 n, .int .i64 rg, .string wd, .slice ma ml mc, .slice ba bn bc, .slice ka kl kc] 26)).alloc (.cells #[.int .i64 0, .int .i64 0, .int .i64 0, .string ⟨#[]⟩, .slice none 0 0, .slice none 0 0, .slice none 0 0] 26)) (.cells #[.int .i64 2, .int .i64 0, .int .i64 0, .string ⟨#[]⟩, .slice none 0 0, .slice none 0 0, .slice none 0 0] 26)
      rw [hV, hP]; simpa using this
    have hVs : V.heap.size = P + 1 + 1 + 1 := by rw [hV, hP]; simp
    have hPw : w.heap.size ≤ P := by omega
    have haP : W0.heap.size ≤ P := by have := hW0.size; omega
    have HV := hide hV
    have HP := hide hP
    have HW0 := hide hW0
    have HM := hide hM
    have HB := hide hB
    have HK := hide hK
    have HL := hide hL
    have HIH := hide ih
    have HKR := hide hkr
    have hk2 : kl ≤ 2 := by omega
    have HK0 := hide k0
    clear hV hP hW0 hM hB hK hL ih hkr hk hr ha k0
    have hk0 : kl = 0 := HK0.out
    subst hk0
    obtain ⟨m0, hmi, mz0, mz1, mz2⟩ := info_parts Tryz.infoMatch
    have hm5 : ml ≤ 5 := by have := (winBad_ok wb).2.1; have h2 := HML.out; simp only at this; omega
    obtain ⟨p0, p1, p2, p3, p4, p5, p6⟩ := seven_cells FP
    obtain ⟨y0, y1, y2, y3, y4, y5, y6⟩ := seven_cells FY
    obtain ⟨u0, u1, u2, u3, u4, u5, u6⟩ := thaw7 FY
    obtain ⟨M, hM0⟩ : ∃ M, M = ((V.setCell ⟨P + 1 + 1, 3, none⟩ (.string wd)).setCell ⟨P + 1 + 1, 2, none⟩ (.int .i64 rg)).drew := ⟨_, rfl⟩
    have bM : Below w.heap.size w M := by rw [hM0]; exact below_drewN ((bV.setCell (by show _ ≤ P + 1 + 1; omega) _).setCell (by show _ ≤ P + 1 + 1; omega) _) 1
    have FPM : M.heap[P]? = some (.cells #[.int .i64 2, .int .i64 n, .int .i64 rg, .string wd, .slice ma ml mc, .slice ba bn bc, .slice ka 0 kc] 26 (0, 0)) := by
      rw [hM0]; show ((V.setCell ⟨P + 1 + 1, 3, none⟩ (.string wd)).setCell ⟨P + 1 + 1, 2, none⟩ (.int .i64 rg)).heap[P]? = _
      rw [setCell_far (by omega), setCell_far (by omega)]; exact FP
    have FXM : M.heap[P + 1]? = some (.cells #[.int .i64 0, .int .i64 0, .int .i64 0, .string ⟨#[]⟩, .slice none 0 0, .slice none 0 0, .slice none 0 0] 26 (0, 0)) := by
      rw [hM0]; show ((V.setCell ⟨P + 1 + 1, 3, none⟩ (.string wd)).setCell ⟨P + 1 + 1, 2, none⟩ (.int .i64 rg)).heap[P + 1]? = _
      rw [setCell_far (by omega), setCell_far (by omega)]; exact FX
    have FYM : M.heap[P + 1 + 1]? = some (.cells #[.int .i64 2, .int .i64 0, .int .i64 rg, .string wd, .slice none 0 0, .slice none 0 0, .slice none 0 0] 26 (0, 0)) := by
      rw [hM0]; show ((V.setCell ⟨P + 1 + 1, 3, none⟩ (.string wd)).setCell ⟨P + 1 + 1, 2, none⟩ (.int .i64 rg)).heap[P + 1 + 1]? = _
      simp [World.setCell, Array.getElem?_modify, FY]
    have HM0 := hide hM0
    obtain ⟨c0, c1, c2, c3, c4, c5, c6⟩ := seven_cells FPM
    clear hM0 wb
    go_enter Tryz.func9, Tryz.ntmps9
    go_wp2_with fail
    rw [← HV.out, ← HP.out]
    go_region
    rw [← HM0.out]
    go_wp2_with fail
    clear p0 p1 p2 p3 p4 p5 p6 y0 y1 y2 y3 y4 y5 y6 u0 u1 u2 u3 u4 u5 u6 FP FX FY c0 c1 c2 c3 c4 c5 c6
    go_loopw [32] (fun i wr => ∃ (k c : Nat) (co : Option Addr), k ≤ ml ∧ i = .int .i64 k ∧ wr.ownsRow (P + 1 + 1 + 1) 46 3 (.slice co k c) k (mcells ((ms.map bareM).take k)) ∧ wr.heap[P]? = some (.cells #[.int .i64 2, .int .i64 n, .int .i64 rg, .string wd, .slice ma ml mc, .slice ba bn bc, .slice ka 0 kc] 26 (0, 0)) ∧ wr.heap[P + 1]? = some (.cells #[.int .i64 0, .int .i64 0, .int .i64 0, .string ⟨#[]⟩, .slice none 0 0, .slice none 0 0, .slice none 0 0] 26 (0, 0)) ∧ wr.heap[P + 1 + 1]? = some (.cells #[.int .i64 2, .int .i64 0, .int .i64 rg, .string wd, .slice co k c, .slice none 0 0, .slice none 0 0] 26 (0, 0)) ∧ Below w.heap.size w wr) (fun i _ => ml - (intOf i).toNat)
    case atStart => exact ⟨0, 0, none, Nat.zero_le _, rfl, World.ownsRow_nil _ _ _ _, FPM, FXM, FYM, bM⟩
    case round =>
      obtain ⟨k, c, co, hkk, rfl, own, FPr, FXr, FYr, bel⟩ := hrel
      have hws := bel.size
      have hYr : P + 1 + 1 < wr.heap.size := lt_of_block FYr
      by_cases hlt : k < ml
      · have h1 : k < ms.length := by rw [← HML.out]; exact hlt
        have bW : Below W0.heap.size W0 wr := HW0.out.trans (bel.mono HW0.out.size)
        obtain ⟨p, off, rfl, hbl, hcell⟩ := seg_match HM.out h1
        obtain ⟨m, hm⟩ : ∃ m, m = mt ms k := ⟨_, rfl⟩
        obtain ⟨q0, q1, q2⟩ := hcell k h1
        rw [← hm] at q0 q1 q2
        have r0 := (bW.cell (p := ⟨p, off + k * 3, none⟩) (by exact hbl)).trans q0
        have r1 := (bW.cell (p := ⟨p, off + k * 3 + 1, none⟩) (by exact hbl)).trans q1
        have r2 := (bW.cell (p := ⟨p, off + k * 3 + 2, none⟩) (by exact hbl)).trans q2
        have HTK : Hid ((ms.map bareM).take (k + 1) = (ms.map bareM).take k ++ [bareM m]) := by show _ = _; rw [← List.map_take, ← List.map_take, take_mt h1, ← hm, List.map_append]; rfl
        obtain ⟨v', hv'⟩ : ∃ v' : ByteArray, v' = (bareM m).val := ⟨_, rfl⟩
        have HBM : Hid (bareM m = ⟨m.kind, m.key, v'⟩) := by show _ = _; rw [hv']; unfold bareM; split <;> rfl
        have FY1 : (wr.alloc (.cells #[.int .i64 m.kind, .string m.key, .string v'] 46)).heap[P + 1 + 1]? = some (.cells #[.int .i64 2, .int .i64 0, .int .i64 rg, .string wd, .slice co k c, .slice none 0 0, .slice none 0 0] 26 (0, 0)) := (Below.heap_alloc _ _ _ hYr).trans FYr
        obtain ⟨a0, a1, a2, a3, a4, a5, a6⟩ := seven_cells FY1
        have OW2 := (own.alloc (.cells #[.int .i64 m.kind, .string m.key, .string v'] 46)).alloc (.cells #[.int .i64 m.kind, .string m.key, .string v'] 46)
        have NEW2 : ∀ j u, [.int .i64 m.kind, .string m.key, .string v'][j]? = some u → ((wr.alloc (.cells #[.int .i64 m.kind, .string m.key, .string v'] 46)).alloc (.cells #[.int .i64 m.kind, .string m.key, .string v'] 46)).cell? ((⟨wr.heap.size + 1, 0, none⟩ : Addr).add j) = some u := news_three (by simp) _ _ _ _
        have HO2 := hide OW2
        have HN2 := hide NEW2
        have HVE : Hid (v' = if 2 < m.kind then ⟨#[]⟩ else m.val) := by show _ = _; rw [hv']; unfold bareM; split <;> rfl
        have hlt' : (k : Int) < (ml : Int) := by omega
        clear hcell hm hbl q0 q1 q2 OW2 NEW2 hv' h1
        by_cases h2 : (2 : Int) < m.kind
        · have hvv : v' = ⟨#[]⟩ := by rw [HVE.out, if_pos h2]
          subst hvv
          go_wp2_with (at_builtin; refine wpList_append_lies _ rfl _ _ 22 rfl (P + 1 + 1 + 1) 46 m0 (.agg #[.int .i64 0, .string ⟨#[]⟩, .string ⟨#[]⟩]) 3 40 Tryz.underlying22 hmi mz0 mz1 mz2 rfl (by decide) _ _ _ rfl HO2.out ⟨wr.heap.size + 1, 0, none⟩ 1 1 _ rfl rfl HN2.out (by simp [Value.oneCell']) (by decide) (by unfold maxLen; omega) (by omega) (by simp; omega) (wr.heap.size + 1 + 1) (by simp) ?_)
          intro g' cp' w5 own5 gr5 hat5 hlt5
          have far5 : ∀ j, j < P + 1 + 1 + 1 → j < wr.heap.size → w5.heap[j]? = wr.heap[j]? := fun j hj hj3 => (gr5.block j (by simp; omega) (fun e => by have := (HO2.out.lt _ e.symm).1; omega)).trans ((Below.heap_alloc _ _ _ (by simp; omega)).trans (Below.heap_alloc _ _ _ hj3))
          have FY5 : w5.heap[P + 1 + 1]? = some (.cells #[.int .i64 2, .int .i64 0, .int .i64 rg, .string wd, .slice co k c, .slice none 0 0, .slice none 0 0] 26 (0, 0)) := (far5 _ (by omega) hYr).trans FYr
          obtain ⟨f0, f1, f2, f3, f4, f5, f6⟩ := seven_cells FY5
          obtain ⟨g0, g1, g2, g3, g4, g5, g6⟩ := thaw7 FY5
          obtain ⟨w6, hw6⟩ : ∃ v, v = w5.setCell ⟨P + 1 + 1, 4, none⟩ (.slice (some ⟨g', 0, none⟩) (k + 1) cp') := ⟨_, rfl⟩
          have own6 : w6.ownsRow (P + 1 + 1 + 1) 46 3 (.slice (some ⟨g', 0, none⟩) (k + 1) cp') (k + 1) (mcells ((ms.map bareM).take (k + 1))) := by rw [hw6, HTK.out, HBM.out, mcells_snoc]; exact own_far own5 (by omega)
          have FP6 : w6.heap[P]? = some (.cells #[.int .i64 2, .int .i64 n, .int .i64 rg, .string wd, .slice (some ⟨p, off, none⟩) ml mc, .slice ba bn bc, .slice ka 0 kc] 26 (0, 0)) := by rw [hw6, setCell_far (by omega), far5 P (by omega) (by omega)]; exact FPr
          have FX6 : w6.heap[P + 1]? = some (.cells #[.int .i64 0, .int .i64 0, .int .i64 0, .string ⟨#[]⟩, .slice none 0 0, .slice none 0 0, .slice none 0 0] 26 (0, 0)) := by rw [hw6, setCell_far (by omega), far5 (P + 1) (by omega) (by omega)]; exact FXr
          have FY6 : w6.heap[P + 1 + 1]? = some (.cells #[.int .i64 2, .int .i64 0, .int .i64 rg, .string wd, .slice (some ⟨g', 0, none⟩) (k + 1) cp', .slice none 0 0, .slice none 0 0] 26 (0, 0)) := by rw [hw6]; exact (set7 FY5 (.slice (some ⟨g', 0, none⟩) (k + 1) cp')).2.1
          have B6 : Below w.heap.size w w6 := by
            rw [hw6]
            have B4 := (bel.alloc bel.size (.cells #[.int .i64 m.kind, .string m.key, .string ⟨#[]⟩] 46)).alloc (by simp; omega) (.cells #[.int .i64 m.kind, .string m.key, .string ⟨#[]⟩] 46)
            have B5 : Below w.heap.size w w5 := B4.grown gr5 B4.size (fun j hj => by have := (HO2.out.lt j hj).1; omega)
            exact B5.setCell (by show _ ≤ P + 1 + 1; omega) _
          have HW6 := hide hw6
          have HO6 := hide own6
          have HP6 := hide FP6
          have HX6 := hide FX6
          have HY6 := hide FY6
          have HB6 := hide B6
          clear hw6 own6 FP6 FX6 FY6 B6 far5 FY5 own5 gr5 hat5 hlt5
          go_wp2_with fail
          rw [← HW6.out]
          go_roundw
          case rel => exact ⟨k + 1, cp', _, by omega, by go_num, HO6.out, HP6.out, HX6.out, HY6.out, HB6.out⟩
          case measure => simp [intOf]; omega
        · have hvv : v' = m.val := by rw [HVE.out, if_neg h2]
          subst hvv
          go_wp2_with (at_builtin; refine wpList_append_lies _ rfl _ _ 22 rfl (P + 1 + 1 + 1) 46 m0 (.agg #[.int .i64 0, .string ⟨#[]⟩, .string ⟨#[]⟩]) 3 40 Tryz.underlying22 hmi mz0 mz1 mz2 rfl (by decide) _ _ _ rfl HO2.out ⟨wr.heap.size + 1, 0, none⟩ 1 1 _ rfl rfl HN2.out (by simp [Value.oneCell']) (by decide) (by unfold maxLen; omega) (by omega) (by simp; omega) (wr.heap.size + 1 + 1) (by simp) ?_)
          intro g' cp' w5 own5 gr5 hat5 hlt5
          have far5 : ∀ j, j < P + 1 + 1 + 1 → j < wr.heap.size → w5.heap[j]? = wr.heap[j]? := fun j hj hj3 => (gr5.block j (by simp; omega) (fun e => by have := (HO2.out.lt _ e.symm).1; omega)).trans ((Below.heap_alloc _ _ _ (by simp; omega)).trans (Below.heap_alloc _ _ _ hj3))
          have FY5 : w5.heap[P + 1 + 1]? = some (.cells #[.int .i64 2, .int .i64 0, .int .i64 rg, .string wd, .slice co k c, .slice none 0 0, .slice none 0 0] 26 (0, 0)) := (far5 _ (by omega) hYr).trans FYr
          obtain ⟨f0, f1, f2, f3, f4, f5, f6⟩ := seven_cells FY5
          obtain ⟨g0, g1, g2, g3, g4, g5, g6⟩ := thaw7 FY5
          obtain ⟨w6, hw6⟩ : ∃ v, v = w5.setCell ⟨P + 1 + 1, 4, none⟩ (.slice (some ⟨g', 0, none⟩) (k + 1) cp') := ⟨_, rfl⟩
          have own6 : w6.ownsRow (P + 1 + 1 + 1) 46 3 (.slice (some ⟨g', 0, none⟩) (k + 1) cp') (k + 1) (mcells ((ms.map bareM).take (k + 1))) := by rw [hw6, HTK.out, HBM.out, mcells_snoc]; exact own_far own5 (by omega)
          have FP6 : w6.heap[P]? = some (.cells #[.int .i64 2, .int .i64 n, .int .i64 rg, .string wd, .slice (some ⟨p, off, none⟩) ml mc, .slice ba bn bc, .slice ka 0 kc] 26 (0, 0)) := by rw [hw6, setCell_far (by omega), far5 P (by omega) (by omega)]; exact FPr
          have FX6 : w6.heap[P + 1]? = some (.cells #[.int .i64 0, .int .i64 0, .int .i64 0, .string ⟨#[]⟩, .slice none 0 0, .slice none 0 0, .slice none 0 0] 26 (0, 0)) := by rw [hw6, setCell_far (by omega), far5 (P + 1) (by omega) (by omega)]; exact FXr
          have FY6 : w6.heap[P + 1 + 1]? = some (.cells #[.int .i64 2, .int .i64 0, .int .i64 rg, .string wd, .slice (some ⟨g', 0, none⟩) (k + 1) cp', .slice none 0 0, .slice none 0 0] 26 (0, 0)) := by rw [hw6]; exact (set7 FY5 (.slice (some ⟨g', 0, none⟩) (k + 1) cp')).2.1
          have B6 : Below w.heap.size w w6 := by
            rw [hw6]
            have B4 := (bel.alloc bel.size (.cells #[.int .i64 m.kind, .string m.key, .string m.val] 46)).alloc (by simp; omega) (.cells #[.int .i64 m.kind, .string m.key, .string m.val] 46)
            have B5 : Below w.heap.size w w5 := B4.grown gr5 B4.size (fun j hj => by have := (HO2.out.lt j hj).1; omega)
            exact B5.setCell (by show _ ≤ P + 1 + 1; omega) _
          have HW6 := hide hw6
          have HO6 := hide own6
          have HP6 := hide FP6
          have HX6 := hide FX6
          have HY6 := hide FY6
          have HB6 := hide B6
          clear hw6 own6 FP6 FX6 FY6 B6 far5 FY5 own5 gr5 hat5 hlt5
          go_wp2_with fail
          rw [← HW6.out]
          go_roundw
          case rel => exact ⟨k + 1, cp', _, by omega, by go_num, HO6.out, HP6.out, HX6.out, HY6.out, HB6.out⟩
          case measure => simp [intOf]; omega
      · have hke : k = ml := by omega
        subst hke
        have hfull : (ms.map bareM).take k = ms.map bareM := by rw [HML.out, ← List.map_take, List.take_length]
        rw [hfull] at own
        clear hfull hlt
        obtain ⟨a0, a1, a2, a3, a4, a5, a6⟩ := seven_cells FPr
        go_wp2_with fail
        clear a0 a1 a2 a3 a4 a5 a6
        go_loopw [58] (fun i v => i = .int .i64 0 ∧ v = wr) (fun _ _ => 0)
        case atStart => exact ⟨rfl, rfl⟩
        case round =>
          obtain ⟨rfl, rfl⟩ := hrel
          obtain ⟨u, hu⟩ : ∃ u : ET, u = .node ⟨2, 0, rg, wd, ms.map bareM, []⟩ ⟨co, c, none, 0, none, 0⟩ [] := ⟨_, rfl⟩
          have hev : eval u = .agg #[.int .i64 2, .int .i64 0, .int .i64 rg, .string wd, .slice co k c, .slice none 0 0, .slice none 0 0] := by rw [hu]; show Value.agg _ = _; simp only [ET.hd, ET.sp, ET.kids, List.length_map, ← HML.out, List.length_nil]
          have hex : u.ex = bare (ET.ex (.node ⟨2, n, rg, wd, ms, bs⟩ ⟨ma, mc, ba, bc, ka, kc⟩ kids)) := by
            have hkn : kids = [] := List.eq_nil_of_length_eq_zero (by rw [← HKL.out])
            rw [hu, hkn]
            simp only [ET.ex, bare, bareH, exL, bareL]
            rfl
          have hBL : Below w.heap.size w (put7 wr (P + 1) u) := by
            unfold put7
            exact ((((((bel.setCell (by show _ ≤ P + 1; omega) _).setCell (by show _ ≤ P + 1; omega) _).setCell (by show _ ≤ P + 1; omega) _).setCell (by show _ ≤ P + 1; omega) _).setCell (by show _ ≤ P + 1; omega) _).setCell (by show _ ≤ P + 1; omega) _).setCell (by show _ ≤ P + 1; omega) _
          have hIN : u.In (put7 wr (P + 1) u) := by
            have sgm : Seg (put7 wr (P + 1) u) co (mcells (ms.map bareM)) := by
              obtain ⟨ao, c', hv, sg, hc⟩ := own_open (own_put7 (t := u) (X := P + 1) own (by omega))
              simp only [Value.slice.injEq, true_and] at hv
              obtain ⟨rfl, rfl⟩ := hv
              exact sg
            rw [hu] at sgm ⊢
            simp only [ET.In]
            exact ⟨⟨sgm, .inl rfl, .inl rfl⟩, ⟨by rw [List.length_map]; omega, by simp, by simp, lW, fun m hm => by obtain ⟨x, hx, rfl⟩ := List.mem_map.1 hm; exact bareM_fit (fM x hx), fun b hb => by (cases hb), Nat.le_refl _, fun m hm => by obtain ⟨x, hx, rfl⟩ := List.mem_map.1 hm; exact bareM_fit (fM2 x hx)⟩, by simp [InL]⟩
          have hON : u.On (fun j => j < W0.heap.size ∨ w.heap.size ≤ j ∧ j < (put7 wr (P + 1) u).heap.size) := by
            rw [put7_size, hu]
            simp only [ET.On]
            exact ⟨⟨fun _ b o e => .inr ⟨by have := (own.lt b (by rw [e]; rfl)).1; omega, (own.lt b (by rw [e]; rfl)).2⟩, fun h => absurd rfl h, fun h => absurd rfl h⟩, by simp [OnL]⟩
          have hput : put7 wr (P + 1) u = (((((((wr.setCell ⟨P + 1, 0, none⟩ (.int .i64 2)).setCell ⟨P + 1, 1, none⟩ (.int .i64 0)).setCell ⟨P + 1, 2, none⟩ (.int .i64 rg)).setCell ⟨P + 1, 3, none⟩ (.string wd)).setCell ⟨P + 1, 4, none⟩ (.slice co k c)).setCell ⟨P + 1, 5, none⟩ (.slice none 0 0)).setCell ⟨P + 1, 6, none⟩ (.slice none 0 0)) := by
            have h7 := hev
            unfold eval at h7
            simp only [Value.agg.injEq, Array.mk.injEq, List.cons.injEq, and_true] at h7
            obtain ⟨e0, e1, e2, e3, e4, e5, e6⟩ := h7
            unfold put7
            rw [e0, e1, e2, e3, e4, e5, e6]
          have HIN := hide hIN
          have HON2 := hide hON
          have HBL := hide hBL
          have HEV := hide hev
          have HEX := hide hex
          rw [hput] at HIN HON2 HBL
          obtain ⟨a0, a1, a2, a3, a4, a5, a6⟩ := seven_cells FYr
          obtain ⟨z0, z1, z2, z3, z4, z5, z6⟩ := seven_cells FXr
          obtain ⟨t0, t1, t2, t3, t4, t5, t6⟩ := thaw7 FXr
          clear hIN hON hBL hev hex hput hu
          go_wp2_with fail
          exact bodyPost_ret (v := .agg #[.int .i64 2, .int .i64 0, .int .i64 rg, .string wd, .slice co k c, .slice none 0 0, .slice none 0 0]) (by simp [results, Tryz.results9, go_sem, z0, z1, z2, z3, z4, z5, z6]) rfl ⟨⟨u, HEX.out, by rw [HEV.out], HIN.out, HON2.out⟩, HBL.out⟩
  · simp only at e
    subst e
    show Calls Tryz.prog _ #[.agg #[.int .i64 3, .int .i64 n, .int .i64 rg, .string wd, .slice ma ms.length mc, .slice ba bs.length bc, .slice ka kids.length kc]] w _
    obtain ⟨kl, hkl⟩ : ∃ x, x = kids.length := ⟨_, rfl⟩
    obtain ⟨ml, hml⟩ : ∃ x, x = ms.length := ⟨_, rfl⟩
    obtain ⟨bn, hbn⟩ : ∃ x, x = bs.length := ⟨_, rfl⟩
    rw [← hkl] at k0 lK ⊢
    rw [← hml, ← hbn]
    have HKL := hide hkl
    have HML := hide hml
    have HBN := hide hbn
    clear hkl hml hbn
    obtain ⟨P, hP⟩ : ∃ P, P = w.heap.size := ⟨_, rfl⟩
    obtain ⟨V, hV⟩ : ∃ V, V = ((w.alloc (.cells #[.int .i64 3, .int .i64 n, .int .i64 rg, .string wd, .slice ma ml mc, .slice ba bn bc, .slice ka kl kc] 26)).alloc (.cells #[.int .i64 0, .int .i64 0, .int .i64 0, .string ⟨#[]⟩, .slice none 0 0, .slice none 0 0, .slice none 0 0] 26)).alloc (.cells #[.int .i64 3, .int .i64 0, .int .i64 0, .string ⟨#[]⟩, .slice none 0 0, .slice none 0 0, .slice none 0 0] 26) := ⟨_, rfl⟩
    have bV : Below w.heap.size w V := by rw [hV]; exact (((Below.refl _ _).alloc (Nat.le_refl _) _).alloc (by simp) _).alloc (by simp; omega) _
    have FP : V.heap[P]? = some (.cells #[.int .i64 3, .int .i64 n, .int .i64 rg, .string wd, .slice ma ml mc, .slice ba bn bc, .slice ka kl kc] 26 (0, 0)) := by rw [hV, hP, Below.heap_alloc _ _ _ (by simp; omega), Below.heap_alloc _ _ _ (by simp)]; exact heap_alloc_new w _
    have FX : V.heap[P + 1]? = some (.cells #[.int .i64 0, .int .i64 0, .int .i64 0, .string ⟨#[]⟩, .slice none 0 0, .slice none 0 0, .slice none 0 0] 26 (0, 0)) := by
      rw [hV, hP, Below.heap_alloc _ _ _ (by simp)]
      have := heap_alloc_new (w.alloc (.cells #[.int .i64 3, .int .i64 n, .int .i64 rg, .string wd, .slice ma ml mc, .slice ba bn bc, .slice ka kl kc] 26)) (.cells #[.int .i64 0, .int .i64 0, .int .i64 0, .string ⟨#[]⟩, .slice none 0 0, .slice none 0 0, .slice none 0 0] 26)
      simpa using this
    have FY : V.heap[P + 1 + 1]? = some (.cells #[.int .i64 3, .int .i64 0, .int .i64 0, .string ⟨#[]⟩, .slice none 0 0, .slice none 0 0, .slice none 0 0] 26 (0, 0)) := by
      have := heap_alloc_new ((w.alloc (.cells #[.int .i64 3, .int .i64 n, .int .i64 rg, .string wd, .slice ma ml mc, .slice ba bn bc, .slice ka kl kc] 26)).alloc (.cells #[.int .i64 0, .int .i64 0, .int .i64 0, .string ⟨#[]⟩, .slice none 0 0, .slice none 0 0, .slice none 0 0] 26)) (.cells #[.int .i64 3, .int .i64 0, .int .i64 0, .string ⟨#[]⟩, .slice none 0 0, .slice none 0 0, .slice none 0 0] 26)
      rw [hV, hP]; simpa using this
    have hVs : V.heap.size = P + 1 + 1 + 1 := by rw [hV, hP]; simp
    have hPw : w.heap.size ≤ P := by omega
    have haP : W0.heap.size ≤ P := by have := hW0.size; omega
    have HV := hide hV
    have HP := hide hP
    have HW0 := hide hW0
    have HM := hide hM
    have HB := hide hB
    have HK := hide hK
    have HL := hide hL
    have HIH := hide ih
    have HKR := hide hkr
    have hk2 : kl ≤ 2 := by omega
    have HK0 := hide k0
    clear hV hP hW0 hM hB hK hL ih hkr hk hr ha k0
    obtain ⟨p0, p1, p2, p3, p4, p5, p6⟩ := seven_cells FP
    obtain ⟨y0, y1, y2, y3, y4, y5, y6⟩ := seven_cells FY
    obtain ⟨u0, u1, u2, u3, u4, u5, u6⟩ := thaw7 FY
    obtain ⟨M, hM0⟩ : ∃ M, M = ((V.setCell ⟨P + 1 + 1, 3, none⟩ (.string wd)).setCell ⟨P + 1 + 1, 5, none⟩ (.slice ba bn bc)).drew := ⟨_, rfl⟩
    have bM : Below w.heap.size w M := by rw [hM0]; exact below_drewN ((bV.setCell (by show _ ≤ P + 1 + 1; omega) _).setCell (by show _ ≤ P + 1 + 1; omega) _) 1
    have FPM : M.heap[P]? = some (.cells #[.int .i64 3, .int .i64 n, .int .i64 rg, .string wd, .slice ma ml mc, .slice ba bn bc, .slice ka kl kc] 26 (0, 0)) := by
      rw [hM0]; show ((V.setCell ⟨P + 1 + 1, 3, none⟩ (.string wd)).setCell ⟨P + 1 + 1, 5, none⟩ (.slice ba bn bc)).heap[P]? = _
      rw [setCell_far (by omega), setCell_far (by omega)]; exact FP
    have FXM : M.heap[P + 1]? = some (.cells #[.int .i64 0, .int .i64 0, .int .i64 0, .string ⟨#[]⟩, .slice none 0 0, .slice none 0 0, .slice none 0 0] 26 (0, 0)) := by
      rw [hM0]; show ((V.setCell ⟨P + 1 + 1, 3, none⟩ (.string wd)).setCell ⟨P + 1 + 1, 5, none⟩ (.slice ba bn bc)).heap[P + 1]? = _
      rw [setCell_far (by omega), setCell_far (by omega)]; exact FX
    have FYM : M.heap[P + 1 + 1]? = some (.cells #[.int .i64 3, .int .i64 0, .int .i64 0, .string wd, .slice none 0 0, .slice ba bn bc, .slice none 0 0] 26 (0, 0)) := by
      rw [hM0]; show ((V.setCell ⟨P + 1 + 1, 3, none⟩ (.string wd)).setCell ⟨P + 1 + 1, 5, none⟩ (.slice ba bn bc)).heap[P + 1 + 1]? = _
      simp [World.setCell, Array.getElem?_modify, FY]
    have HM0 := hide hM0
    clear hM0
    go_enter Tryz.func9, Tryz.ntmps9
    go_wp2_with fail
    rw [← HV.out, ← HP.out]
    go_region
    go_wp2_with fail
    rw [← HM0.out]
    clear p0 p1 p2 p3 p4 p5 p6 y0 y1 y2 y3 y4 y5 y6 u0 u1 u2 u3 u4 u5 u6 FP FX FY
    go_loopw [58] (fun i wr => ∃ (k c : Nat) (co : Option Addr) (us : List ET), k ≤ kl ∧ i = .int .i64 k ∧ Hid (exL us = bareL (exL (kids.take k))) ∧ wr.ownsRow (P + 1 + 1 + 1) 26 7 (.slice co k c) k (ecells us) ∧ wr.heap[P]? = some (.cells #[.int .i64 3, .int .i64 n, .int .i64 rg, .string wd, .slice ma ml mc, .slice ba bn bc, .slice ka kl kc] 26 (0, 0)) ∧ wr.heap[P + 1]? = some (.cells #[.int .i64 0, .int .i64 0, .int .i64 0, .string ⟨#[]⟩, .slice none 0 0, .slice none 0 0, .slice none 0 0] 26 (0, 0)) ∧ wr.heap[P + 1 + 1]? = some (.cells #[.int .i64 3, .int .i64 0, .int .i64 0, .string wd, .slice none 0 0, .slice ba bn bc, .slice co k c] 26 (0, 0)) ∧ Hid (Kept W0 wr (P + 1 + 1) (Value.slice co k c).ownBlock us) ∧ Below w.heap.size w wr) (fun i _ => kl - (intOf i).toNat)
    case atStart => exact ⟨0, 0, none, [], Nat.zero_le _, rfl, by show _ = _; simp [exL, bareL], World.ownsRow_nil _ _ _ _, FPM, FXM, FYM, Kept.nil, bM⟩
    case round =>
      obtain ⟨k, c, co, us, hkk, rfl, HU, own, FPr, FXr, FYr, HON, bel⟩ := hrel
      have hws := bel.size
      have hYr : P + 1 + 1 < wr.heap.size := lt_of_block FYr
      by_cases hlt : k < kl
      · have h1 : k < kids.length := by rw [← HKL.out]; exact hlt
        have bW : Below W0.heap.size W0 wr := HW0.out.trans (bel.mono HW0.out.size)
        obtain ⟨p, off, rfl, hbl, hcell⟩ := seg_expr HK.out h1
        obtain ⟨t, ht⟩ : ∃ t, t = kids[k] := ⟨_, rfl⟩
        have hc := (hcell k h1).below bW
        rw [← ht] at hc
        have hmem : t ∈ kids := by rw [ht]; exact List.getElem_mem h1
        have HCALL := hide (fun (v : World) (hb : Below W0.heap.size W0 v) => HIH.out t hmem W0 v (inL_mem HL.out t hmem) hb (HKR.out t hmem))
        have HTK : Hid (exL (kids.take (k + 1)) = exL (kids.take k) ++ [t.ex]) := by
          show _ = _
          rw [List.take_add_one, List.getElem?_eq_getElem h1, ← ht]
          simp only [Option.toList_some]
          exact exL_snoc _ _
        obtain ⟨c0, c1, c2, c3, c4, c5, c6⟩ := hc
        obtain ⟨V2, hV2⟩ : ∃ V2, V2 = wr.alloc (.cells #[.int .i64 t.hd.kind, .int .i64 t.hd.n, .int .i64 t.hd.range, .string t.hd.word, .slice t.sp.ma t.hd.ms.length t.sp.mc, .slice t.sp.ba t.hd.bs.length t.sp.bc, .slice t.sp.ka t.kids.length t.sp.kc] 26) := ⟨_, rfl⟩
        have b2 : Below wr.heap.size wr V2 := by rw [hV2]; exact (Below.refl _ _).alloc (Nat.le_refl _) _
        have F2 : V2.heap[wr.heap.size]? = some (.cells #[.int .i64 t.hd.kind, .int .i64 t.hd.n, .int .i64 t.hd.range, .string t.hd.word, .slice t.sp.ma t.hd.ms.length t.sp.mc, .slice t.sp.ba t.hd.bs.length t.sp.bc, .slice t.sp.ka t.kids.length t.sp.kc] 26 (0, 0)) := by rw [hV2]; exact heap_alloc_new wr _
        have FP2 := below_block b2 FPr
        have FX2 := below_block b2 FXr
        have FY2 := below_block b2 FYr
        have own2 : V2.ownsRow (P + 1 + 1 + 1) 26 7 (.slice co k c) k (ecells us) := by rw [hV2]; exact own.alloc _
        have hV2s : V2.heap.size = wr.heap.size + 1 := by rw [hV2]; simp
        have bW2 : Below W0.heap.size W0 V2 := bW.trans (b2.mono bW.size)
        have bw2 : Below w.heap.size w V2 := bel.trans (b2.mono bel.size)
        have K2 : Kept W0 V2 (P + 1 + 1) (Value.slice co k c).ownBlock us := HON.out.go b2.size (fun j _ hj => b2.block j hj) (.inl rfl)
        have HV2 := hide hV2
        have HBW2 := hide bW2
        have HBW2d := hide (below_drewN bW2 1)
        have HBw2 := hide bw2
        have HK2 := hide K2
        have hown := own.lt
        have HOWN := hide hown
        have H2 := hide F2
        have HP2 := hide FP2
        have HX2 := hide FX2
        have HY2 := hide FY2
        have HO2 := hide own2
        obtain ⟨a0, a1, a2, a3, a4, a5, a6⟩ := seven_cells FY2
        obtain ⟨k0', k1', k2', k3', k4', k5', k6'⟩ := seven_cells F2
        have hlt' : (k : Int) < (kl : Int) := by omega
        unfold eval at HCALL
        clear hcell ht hV2 b2 F2 FP2 FX2 FY2 own2 bW2 bw2 K2 hown own FPr FXr FYr HON bel bW h1 hmem hbl
        have HFACT : Hid (∀ w3 : World, Below V2.heap.size V2 w3 → ∀ u : ET, P + 1 + 1 < w3.heap.size ∧ w3.heap[P + 1 + 1]? = some (.cells #[.int .i64 3, .int .i64 0, .int .i64 0, .string wd, .slice none 0 0, .slice ba bn bc, .slice co k c] 26 (0, 0)) ∧ (w3.alloc (.cells #[.int .i64 u.hd.kind, .int .i64 u.hd.n, .int .i64 u.hd.range, .string u.hd.word, .slice u.sp.ma u.hd.ms.length u.sp.mc, .slice u.sp.ba u.hd.bs.length u.sp.bc, .slice u.sp.ka u.kids.length u.sp.kc] 26)).heap[P + 1 + 1]? = some (.cells #[.int .i64 3, .int .i64 0, .int .i64 0, .string wd, .slice none 0 0, .slice ba bn bc, .slice co k c] 26 (0, 0)) ∧ (w3.alloc (.cells #[.int .i64 u.hd.kind, .int .i64 u.hd.n, .int .i64 u.hd.range, .string u.hd.word, .slice u.sp.ma u.hd.ms.length u.sp.mc, .slice u.sp.ba u.hd.bs.length u.sp.bc, .slice u.sp.ka u.kids.length u.sp.kc] 26)).ownsRow (P + 1 + 1 + 1) 26 7 (.slice co k c) k (ecells us) ∧ Seg (w3.alloc (.cells #[.int .i64 u.hd.kind, .int .i64 u.hd.n, .int .i64 u.hd.range, .string u.hd.word, .slice u.sp.ma u.hd.ms.length u.sp.mc, .slice u.sp.ba u.hd.bs.length u.sp.bc, .slice u.sp.ka u.kids.length u.sp.kc] 26)) (some ⟨w3.heap.size, 0, none⟩) (ecell u)) := by
          intro w3 B3 u
          have FY3 := below_block B3 HY2.out
          have hY3 : P + 1 + 1 < w3.heap.size := lt_of_block FY3
          refine ⟨hY3, FY3, (Below.heap_alloc _ _ _ hY3).trans FY3, ?_, seg_new w3 #[.int .i64 u.hd.kind, .int .i64 u.hd.n, .int .i64 u.hd.range, .string u.hd.word, .slice u.sp.ma u.hd.ms.length u.sp.mc, .slice u.sp.ba u.hd.bs.length u.sp.bc, .slice u.sp.ka u.kids.length u.sp.kc] 26⟩
          exact (own_grown (B := 0) HO2.out (grown_trans (World.grownBy.refl _ _) (grown_of_below B3) (fun _ hk => by cases hk)) (by omega)).alloc _
        have R0 : Below V2.heap.size V2 V2 := Below.refl _ _
        have R1 : Below V2.heap.size V2 V2.drew := below_drewN (Below.refl _ V2) 1
        go_wp2_with fail
        rw [← HV2.out]
        go_region_law
          (first
            | (rw [if_pos (by rfl)]; go_simp; go_at_call 9; refine (HCALL.out _ (by first | exact HBW2.out | exact HBW2d.out)).mono ?_; rintro e w3 ⟨⟨u, hu, rfl, hin3, hon3⟩, b3⟩; have B3 := below_step7 b3 (by first | exact R0 | exact R1); obtain ⟨hY3, FY3, FY4, OW4, SG4⟩ := HFACT.out w3 B3 u; obtain ⟨d0, d1, d2, d3, d4, d5, d6⟩ := seven_cells FY3; obtain ⟨e0, e1, e2, e3, e4, e5, e6⟩ := seven_cells FY4)
            | (refine step_append_segP (by rfl) (.tmp 63) (.tmp 66) 24 (by rfl) (P + 1 + 1 + 1) 26 i0 (.agg #[.int .i64 0, .int .i64 0, .int .i64 0, .string ⟨#[]⟩, .slice none 0 0, .slice none 0 0, .slice none 0 0]) 7 112 Tryz.underlying24 hi hz0 hz1 hz2 rfl (by decide) (.slice co k c) k (ecells us) (by rfl) OW4 (some ⟨w3.heap.size, 0, none⟩) 1 1 (ecell u) (by rfl) (fun h => by cases h) SG4 (by rfl) (ecell_one u) (by unfold maxLen; omega) (by omega) (by simp; omega) ?_; intro v5 w5 own5 gr5 hat5; obtain ⟨co5, cc5, hv5, sg5, hc5⟩ := own_open own5; subst hv5; have FY5 : w5.heap[P + 1 + 1]? = some (.cells #[.int .i64 3, .int .i64 0, .int .i64 0, .string wd, .slice none 0 0, .slice ba bn bc, .slice co k c] 26 (0, 0)) := (gr5.block (P + 1 + 1) (by simp; omega) (fun e => by have := (OW4.lt _ e.symm).1; omega)).trans FY4; obtain ⟨f0, f1, f2, f3, f4, f5, f6⟩ := seven_cells FY5; obtain ⟨g0, g1, g2, g3, g4, g5, g6⟩ := thaw7 FY5))
        all_goals
          have hs3 := B3.size
          have hs5 := gr5.size
          simp only [World.size_alloc] at hs5 hat5
          obtain ⟨w6, hw6⟩ : ∃ v, v = w5.setCell ⟨P + 1 + 1, 6, none⟩ (.slice co5 (k + 1) cc5) := ⟨_, rfl⟩
          have hs6 : w6.heap.size = w5.heap.size := by rw [hw6]; simp
          have HU' : Hid (exL (us ++ [u]) = bareL (exL (kids.take (k + 1)))) := by show _ = _; rw [HTK.out, bareL_snoc, exL_snoc, HU.out, hu]
          have own6 : w6.ownsRow (P + 1 + 1 + 1) 26 7 (.slice co5 (k + 1) cc5) (k + 1) (ecells (us ++ [u])) := by rw [hw6, ecells_snoc]; exact own_far own5 (by omega)
          have far5 : ∀ j, j < P + 1 + 1 + 1 → j < w3.heap.size → w5.heap[j]? = w3.heap[j]? := fun j hj hj3 => (gr5.block j (by simp; omega) (fun e => by have := (OW4.lt _ e.symm).1; omega)).trans (Below.heap_alloc _ _ _ hj3)
          have FP6 : w6.heap[P]? = some (.cells #[.int .i64 3, .int .i64 n, .int .i64 rg, .string wd, .slice ma ml mc, .slice ba bn bc, .slice (some ⟨p, off, none⟩) kl kc] 26 (0, 0)) := by rw [hw6, setCell_far (by omega), far5 P (by omega) (by omega)]; exact below_block B3 HP2.out
          have FX6 : w6.heap[P + 1]? = some (.cells #[.int .i64 0, .int .i64 0, .int .i64 0, .string ⟨#[]⟩, .slice none 0 0, .slice none 0 0, .slice none 0 0] 26 (0, 0)) := by rw [hw6, setCell_far (by omega), far5 (P + 1) (by omega) (by omega)]; exact below_block B3 HX2.out
          have FY6 : w6.heap[P + 1 + 1]? = some (.cells #[.int .i64 3, .int .i64 0, .int .i64 0, .string wd, .slice none 0 0, .slice ba bn bc, .slice co5 (k + 1) cc5] 26 (0, 0)) := by rw [hw6]; exact (set7 FY5 (.slice co5 (k + 1) cc5)).2.2.2
          have KP3 : Kept W0 w3 (P + 1 + 1) (Value.slice co k c).ownBlock us := HK2.out.go B3.size (fun j _ hj => B3.block j hj) (.inl rfl)
          have ho3 : u.On (fun j => j < W0.heap.size ∨ P + 1 + 1 < j ∧ (Value.slice co k c).ownBlock ≠ some j ∧ j < w3.heap.size) := by
            refine ET.On.mono (fun j hj => ?_) u hon3
            rcases hj with e | ⟨e1, e2⟩
            · exact .inl e
            · have e1' : V2.heap.size ≤ j := e1
              refine .inr ⟨by omega, fun e => ?_, e2⟩
              have := (HOWN.out j e).2
              omega
          have KP4 := KP3.snoc hin3 ho3
          have KP6 : Kept W0 w6 (P + 1 + 1) (Value.slice co5 (k + 1) cc5).ownBlock (us ++ [u]) := by
            refine KP4.go (by omega) (fun j hj hj3 => ?_) (by rcases hat5 with e | e; exact .inl e; exact .inr ⟨_, e, by omega⟩)
            have hjY : j ≠ P + 1 + 1 := by omega
            rw [hw6, setCell_far (by omega)]
            refine (gr5.block j (by simp; omega) (fun e => ?_)).trans (Below.heap_alloc _ _ _ hj3)
            rcases hj with e' | ⟨_, e'⟩
            · have := (OW4.lt _ e.symm).1; omega
            · exact e' e.symm
          have B6 : Below w.heap.size w w6 := by
            rw [hw6]
            have B30 : Below w.heap.size w w3 := HBw2.out.trans (B3.mono HBw2.out.size)
            have B4 := B30.alloc B30.size (.cells #[.int .i64 u.hd.kind, .int .i64 u.hd.n, .int .i64 u.hd.range, .string u.hd.word, .slice u.sp.ma u.hd.ms.length u.sp.mc, .slice u.sp.ba u.hd.bs.length u.sp.bc, .slice u.sp.ka u.kids.length u.sp.kc] 26)
            have B5 : Below w.heap.size w w5 := B4.grown gr5 B4.size (fun j hj => by have := (OW4.lt j hj).1; omega)
            exact B5.setCell (by show _ ≤ P + 1 + 1; omega) _
          have HW6 := hide hw6
          have HO6 := hide own6
          have HP6 := hide FP6
          have HX6 := hide FX6
          have HY6 := hide FY6
          have HK6 := hide KP6
          have HB6 := hide B6
          clear hw6 own6 FP6 FX6 FY6 KP6 B6 KP4 KP3 ho3 far5 FY5 own5 gr5 hat5 sg5 hs6
          go_wp2_with fail
          rw [← HW6.out]
          go_roundw
          case rel => exact ⟨k + 1, cc5, co5, us ++ [u], by omega, by go_num, HU', HO6.out, HP6.out, HX6.out, HY6.out, HK6.out, HB6.out⟩
          case measure => simp [intOf]; omega
      · have hke : k = kl := by omega
        have HFIN : Hid (exL us = bareL (exL kids)) := by
          show _ = _
          rw [HU.out, hke, HKL.out, List.take_length]
        obtain ⟨sgk, hkc⟩ := (show Seg wr co (ecells us) ∧ k ≤ c from by
          obtain ⟨ao, c', hv, sg, hc⟩ := own_open own
          simp only [Value.slice.injEq, true_and] at hv
          obtain ⟨rfl, rfl⟩ := hv
          exact ⟨sg, hc⟩)
        have hul : us.length = kl := by
          have := congrArg List.length HFIN.out
          rw [exL_length] at this
          have h2 : ∀ l : List Ex, (bareL l).length = l.length := by
            intro l
            induction l with
            | nil => rfl
            | cons a r ih => simp [bareL, ih]
          rw [h2, exL_length, ← HKL.out] at this
          exact this
        obtain ⟨u, hu⟩ : ∃ u : ET, u = .node ⟨3, 0, 0, wd, [], bs⟩ ⟨none, 0, ba, bc, co, c⟩ us := ⟨_, rfl⟩
        have hev : eval u = .agg #[.int .i64 3, .int .i64 0, .int .i64 0, .string wd, .slice none 0 0, .slice ba bn bc, .slice co kl c] := by rw [hu]; show Value.agg _ = _; simp only [ET.kids, ET.hd, ET.sp, hul, ← HBN.out, List.length_nil]
        have hex : u.ex = bare (ET.ex (.node ⟨3, n, rg, wd, ms, bs⟩ ⟨ma, mc, ba, bc, ka, kc⟩ kids)) := by
          rw [hu]
          simp only [ET.ex, bare, bareH]
          rw [HFIN.out]
          rfl
        have hIN : u.In (put7 wr (P + 1) u) := by
          have mv : ∀ v : ET, v ∈ us → v.In (put7 wr (P + 1) u) := fun v hv => ET.In.move (R := fun j => j < W0.heap.size ∨ P + 1 + 1 < j ∧ (Value.slice co k c).ownBlock ≠ some j ∧ j < wr.heap.size) (fun j hj _ => put7_far (by omega)) v (HON.out v hv).1 (HON.out v hv).2
          have sg2 : Seg (put7 wr (P + 1) u) co (ecells us) := by
            obtain ⟨ao, c', hv, sg, hc⟩ := own_open (own_put7 (t := u) (X := P + 1) own (by omega))
            simp only [Value.slice.injEq, true_and] at hv
            obtain ⟨rfl, rfl⟩ := hv
            exact sg
          have bW : Below W0.heap.size W0 (put7 wr (P + 1) u) := by
            have b1 : Below W0.heap.size W0 wr := HW0.out.trans (bel.mono HW0.out.size)
            unfold put7
            exact ((((((b1.setCell (by show _ ≤ P + 1; omega) _).setCell (by show _ ≤ P + 1; omega) _).setCell (by show _ ≤ P + 1; omega) _).setCell (by show _ ≤ P + 1; omega) _).setCell (by show _ ≤ P + 1; omega) _).setCell (by show _ ≤ P + 1; omega) _).setCell (by show _ ≤ P + 1; omega) _
          rw [hu] at sg2 mv bW ⊢
          simp only [ET.In]
          exact ⟨⟨.inl rfl, HB.out.below bW, sg2⟩, ⟨by simp, lB, by rw [hul]; omega, lW, fun m hm => by (cases hm), fB, hbc, fun m hm => by (cases hm)⟩, inL_of mv⟩
        have hON : u.On (fun j => j < W0.heap.size ∨ w.heap.size ≤ j ∧ j < (put7 wr (P + 1) u).heap.size) := by
          rw [put7_size, hu]
          simp only [ET.On]
          refine ⟨⟨fun h => absurd rfl h, fun hne b o e => .inl (seg_blk HB.out (fun q => hne (by simpa [wcells] using q)) e), fun hne b o e => ?_⟩, onL_of fun v hv => ET.On.mono (fun j hj => ?_) v (HON.out v hv).2⟩
          · have := own.lt b (by rw [e]; rfl)
            exact .inr ⟨by omega, this.2⟩
          · rcases hj with e | ⟨e1, _, e3⟩
            · exact .inl e
            · exact .inr ⟨by omega, e3⟩
        have hBL : Below w.heap.size w (put7 wr (P + 1) u) := by
          unfold put7
          exact ((((((bel.setCell (by show _ ≤ P + 1; omega) _).setCell (by show _ ≤ P + 1; omega) _).setCell (by show _ ≤ P + 1; omega) _).setCell (by show _ ≤ P + 1; omega) _).setCell (by show _ ≤ P + 1; omega) _).setCell (by show _ ≤ P + 1; omega) _).setCell (by show _ ≤ P + 1; omega) _
        have hput : put7 wr (P + 1) u = (((((((wr.setCell ⟨P + 1, 0, none⟩ (.int .i64 3)).setCell ⟨P + 1, 1, none⟩ (.int .i64 0)).setCell ⟨P + 1, 2, none⟩ (.int .i64 0)).setCell ⟨P + 1, 3, none⟩ (.string wd)).setCell ⟨P + 1, 4, none⟩ (.slice none 0 0)).setCell ⟨P + 1, 5, none⟩ (.slice ba bn bc)).setCell ⟨P + 1, 6, none⟩ (.slice co kl c)) := by
          have h7 := hev
          unfold eval at h7
          simp only [Value.agg.injEq, Array.mk.injEq, List.cons.injEq, and_true] at h7
          obtain ⟨e0, e1, e2, e3, e4, e5, e6⟩ := h7
          unfold put7
          rw [e0, e1, e2, e3, e4, e5, e6]
        have HIN := hide hIN
        have HON2 := hide hON
        have HBL := hide hBL
        have HEV := hide hev
        have HEX := hide hex
        rw [hput] at HIN HON2 HBL
        subst hke
        obtain ⟨a0, a1, a2, a3, a4, a5, a6⟩ := seven_cells FYr
        obtain ⟨z0, z1, z2, z3, z4, z5, z6⟩ := seven_cells FXr
        obtain ⟨t0, t1, t2, t3, t4, t5, t6⟩ := thaw7 FXr
        clear hIN hON hBL hev hex hput hu sgk HON own FPr FXr FYr bel HU HFIN hul
        go_wp2_with fail
        exact bodyPost_ret (v := .agg #[.int .i64 3, .int .i64 0, .int .i64 0, .string wd, .slice none 0 0, .slice ba bn bc, .slice co k c]) (by simp [results, Tryz.results9, go_sem, z0, z1, z2, z3, z4, z5, z6]) rfl ⟨⟨u, HEX.out, by rw [HEV.out], HIN.out, HON2.out⟩, HBL.out⟩
  · simp only at e
    subst e
    show Calls Tryz.prog _ #[.agg #[.int .i64 4, .int .i64 n, .int .i64 rg, .string wd, .slice ma ms.length mc, .slice ba bs.length bc, .slice ka kids.length kc]] w _
    obtain ⟨kl, hkl⟩ : ∃ x, x = kids.length := ⟨_, rfl⟩
    obtain ⟨ml, hml⟩ : ∃ x, x = ms.length := ⟨_, rfl⟩
    obtain ⟨bn, hbn⟩ : ∃ x, x = bs.length := ⟨_, rfl⟩
    rw [← hkl] at k0 lK ⊢
    rw [← hml, ← hbn]
    have HKL := hide hkl
    have HML := hide hml
    have HBN := hide hbn
    clear hkl hml hbn
    obtain ⟨P, hP⟩ : ∃ P, P = w.heap.size := ⟨_, rfl⟩
    obtain ⟨V, hV⟩ : ∃ V, V = ((w.alloc (.cells #[.int .i64 4, .int .i64 n, .int .i64 rg, .string wd, .slice ma ml mc, .slice ba bn bc, .slice ka kl kc] 26)).alloc (.cells #[.int .i64 0, .int .i64 0, .int .i64 0, .string ⟨#[]⟩, .slice none 0 0, .slice none 0 0, .slice none 0 0] 26)).alloc (.cells #[.int .i64 4, .int .i64 0, .int .i64 0, .string wd, .slice none 0 0, .slice none 0 0, .slice none 0 0] 26) := ⟨_, rfl⟩
    have bV : Below w.heap.size w V := by rw [hV]; exact (((Below.refl _ _).alloc (Nat.le_refl _) _).alloc (by simp) _).alloc (by simp; omega) _
    have FP : V.heap[P]? = some (.cells #[.int .i64 4, .int .i64 n, .int .i64 rg, .string wd, .slice ma ml mc, .slice ba bn bc, .slice ka kl kc] 26 (0, 0)) := by rw [hV, hP, Below.heap_alloc _ _ _ (by simp; omega), Below.heap_alloc _ _ _ (by simp)]; exact heap_alloc_new w _
    have FX : V.heap[P + 1]? = some (.cells #[.int .i64 0, .int .i64 0, .int .i64 0, .string ⟨#[]⟩, .slice none 0 0, .slice none 0 0, .slice none 0 0] 26 (0, 0)) := by
      rw [hV, hP, Below.heap_alloc _ _ _ (by simp)]
      have := heap_alloc_new (w.alloc (.cells #[.int .i64 4, .int .i64 n, .int .i64 rg, .string wd, .slice ma ml mc, .slice ba bn bc, .slice ka kl kc] 26)) (.cells #[.int .i64 0, .int .i64 0, .int .i64 0, .string ⟨#[]⟩, .slice none 0 0, .slice none 0 0, .slice none 0 0] 26)
      simpa using this
    have FY : V.heap[P + 1 + 1]? = some (.cells #[.int .i64 4, .int .i64 0, .int .i64 0, .string wd, .slice none 0 0, .slice none 0 0, .slice none 0 0] 26 (0, 0)) := by
      have := heap_alloc_new ((w.alloc (.cells #[.int .i64 4, .int .i64 n, .int .i64 rg, .string wd, .slice ma ml mc, .slice ba bn bc, .slice ka kl kc] 26)).alloc (.cells #[.int .i64 0, .int .i64 0, .int .i64 0, .string ⟨#[]⟩, .slice none 0 0, .slice none 0 0, .slice none 0 0] 26)) (.cells #[.int .i64 4, .int .i64 0, .int .i64 0, .string wd, .slice none 0 0, .slice none 0 0, .slice none 0 0] 26)
      rw [hV, hP]; simpa using this
    have hVs : V.heap.size = P + 1 + 1 + 1 := by rw [hV, hP]; simp
    have hPw : w.heap.size ≤ P := by omega
    have haP : W0.heap.size ≤ P := by have := hW0.size; omega
    have HV := hide hV
    have HP := hide hP
    have HW0 := hide hW0
    have HM := hide hM
    have HB := hide hB
    have HK := hide hK
    have HL := hide hL
    have HIH := hide ih
    have HKR := hide hkr
    have hk2 : kl ≤ 2 := by omega
    have HK0 := hide k0
    clear hV hP hW0 hM hB hK hL ih hkr hk hr ha k0
    have q1 : ((4 : Int) == 1) = false := rfl
    go_enter Tryz.func9, Tryz.ntmps9
    go_wp2_with fail
    rw [← HV.out, ← HP.out]
    go_loopw [58] (fun i wr => ∃ (k c : Nat) (co : Option Addr) (us : List ET), k ≤ kl ∧ i = .int .i64 k ∧ Hid (exL us = bareL (exL (kids.take k))) ∧ wr.ownsRow (P + 1 + 1 + 1) 26 7 (.slice co k c) k (ecells us) ∧ wr.heap[P]? = some (.cells #[.int .i64 4, .int .i64 n, .int .i64 rg, .string wd, .slice ma ml mc, .slice ba bn bc, .slice ka kl kc] 26 (0, 0)) ∧ wr.heap[P + 1]? = some (.cells #[.int .i64 0, .int .i64 0, .int .i64 0, .string ⟨#[]⟩, .slice none 0 0, .slice none 0 0, .slice none 0 0] 26 (0, 0)) ∧ wr.heap[P + 1 + 1]? = some (.cells #[.int .i64 4, .int .i64 0, .int .i64 0, .string wd, .slice none 0 0, .slice none 0 0, .slice co k c] 26 (0, 0)) ∧ Hid (Kept W0 wr (P + 1 + 1) (Value.slice co k c).ownBlock us) ∧ Below w.heap.size w wr) (fun i _ => kl - (intOf i).toNat)
    case atStart => exact ⟨0, 0, none, [], Nat.zero_le _, rfl, by show _ = _; simp [exL, bareL], World.ownsRow_nil _ _ _ _, FP, FX, FY, Kept.nil, bV⟩
    case round =>
      obtain ⟨k, c, co, us, hkk, rfl, HU, own, FPr, FXr, FYr, HON, bel⟩ := hrel
      have hws := bel.size
      have hYr : P + 1 + 1 < wr.heap.size := lt_of_block FYr
      by_cases hlt : k < kl
      · have h1 : k < kids.length := by rw [← HKL.out]; exact hlt
        have bW : Below W0.heap.size W0 wr := HW0.out.trans (bel.mono HW0.out.size)
        obtain ⟨p, off, rfl, hbl, hcell⟩ := seg_expr HK.out h1
        obtain ⟨t, ht⟩ : ∃ t, t = kids[k] := ⟨_, rfl⟩
        have hc := (hcell k h1).below bW
        rw [← ht] at hc
        have hmem : t ∈ kids := by rw [ht]; exact List.getElem_mem h1
        have HCALL := hide (fun (v : World) (hb : Below W0.heap.size W0 v) => HIH.out t hmem W0 v (inL_mem HL.out t hmem) hb (HKR.out t hmem))
        have HTK : Hid (exL (kids.take (k + 1)) = exL (kids.take k) ++ [t.ex]) := by
          show _ = _
          rw [List.take_add_one, List.getElem?_eq_getElem h1, ← ht]
          simp only [Option.toList_some]
          exact exL_snoc _ _
        obtain ⟨c0, c1, c2, c3, c4, c5, c6⟩ := hc
        obtain ⟨V2, hV2⟩ : ∃ V2, V2 = wr.alloc (.cells #[.int .i64 t.hd.kind, .int .i64 t.hd.n, .int .i64 t.hd.range, .string t.hd.word, .slice t.sp.ma t.hd.ms.length t.sp.mc, .slice t.sp.ba t.hd.bs.length t.sp.bc, .slice t.sp.ka t.kids.length t.sp.kc] 26) := ⟨_, rfl⟩
        have b2 : Below wr.heap.size wr V2 := by rw [hV2]; exact (Below.refl _ _).alloc (Nat.le_refl _) _
        have F2 : V2.heap[wr.heap.size]? = some (.cells #[.int .i64 t.hd.kind, .int .i64 t.hd.n, .int .i64 t.hd.range, .string t.hd.word, .slice t.sp.ma t.hd.ms.length t.sp.mc, .slice t.sp.ba t.hd.bs.length t.sp.bc, .slice t.sp.ka t.kids.length t.sp.kc] 26 (0, 0)) := by rw [hV2]; exact heap_alloc_new wr _
        have FP2 := below_block b2 FPr
        have FX2 := below_block b2 FXr
        have FY2 := below_block b2 FYr
        have own2 : V2.ownsRow (P + 1 + 1 + 1) 26 7 (.slice co k c) k (ecells us) := by rw [hV2]; exact own.alloc _
        have hV2s : V2.heap.size = wr.heap.size + 1 := by rw [hV2]; simp
        have bW2 : Below W0.heap.size W0 V2 := bW.trans (b2.mono bW.size)
        have bw2 : Below w.heap.size w V2 := bel.trans (b2.mono bel.size)
        have K2 : Kept W0 V2 (P + 1 + 1) (Value.slice co k c).ownBlock us := HON.out.go b2.size (fun j _ hj => b2.block j hj) (.inl rfl)
        have HV2 := hide hV2
        have HBW2 := hide bW2
        have HBW2d := hide (below_drewN bW2 1)
        have HBw2 := hide bw2
        have HK2 := hide K2
        have hown := own.lt
        have HOWN := hide hown
        have H2 := hide F2
        have HP2 := hide FP2
        have HX2 := hide FX2
        have HY2 := hide FY2
        have HO2 := hide own2
        obtain ⟨a0, a1, a2, a3, a4, a5, a6⟩ := seven_cells FY2
        obtain ⟨k0', k1', k2', k3', k4', k5', k6'⟩ := seven_cells F2
        have hlt' : (k : Int) < (kl : Int) := by omega
        unfold eval at HCALL
        clear hcell ht hV2 b2 F2 FP2 FX2 FY2 own2 bW2 bw2 K2 hown own FPr FXr FYr HON bel bW h1 hmem hbl
        have HFACT : Hid (∀ w3 : World, Below V2.heap.size V2 w3 → ∀ u : ET, P + 1 + 1 < w3.heap.size ∧ w3.heap[P + 1 + 1]? = some (.cells #[.int .i64 4, .int .i64 0, .int .i64 0, .string wd, .slice none 0 0, .slice none 0 0, .slice co k c] 26 (0, 0)) ∧ (w3.alloc (.cells #[.int .i64 u.hd.kind, .int .i64 u.hd.n, .int .i64 u.hd.range, .string u.hd.word, .slice u.sp.ma u.hd.ms.length u.sp.mc, .slice u.sp.ba u.hd.bs.length u.sp.bc, .slice u.sp.ka u.kids.length u.sp.kc] 26)).heap[P + 1 + 1]? = some (.cells #[.int .i64 4, .int .i64 0, .int .i64 0, .string wd, .slice none 0 0, .slice none 0 0, .slice co k c] 26 (0, 0)) ∧ (w3.alloc (.cells #[.int .i64 u.hd.kind, .int .i64 u.hd.n, .int .i64 u.hd.range, .string u.hd.word, .slice u.sp.ma u.hd.ms.length u.sp.mc, .slice u.sp.ba u.hd.bs.length u.sp.bc, .slice u.sp.ka u.kids.length u.sp.kc] 26)).ownsRow (P + 1 + 1 + 1) 26 7 (.slice co k c) k (ecells us) ∧ Seg (w3.alloc (.cells #[.int .i64 u.hd.kind, .int .i64 u.hd.n, .int .i64 u.hd.range, .string u.hd.word, .slice u.sp.ma u.hd.ms.length u.sp.mc, .slice u.sp.ba u.hd.bs.length u.sp.bc, .slice u.sp.ka u.kids.length u.sp.kc] 26)) (some ⟨w3.heap.size, 0, none⟩) (ecell u)) := by
          intro w3 B3 u
          have FY3 := below_block B3 HY2.out
          have hY3 : P + 1 + 1 < w3.heap.size := lt_of_block FY3
          refine ⟨hY3, FY3, (Below.heap_alloc _ _ _ hY3).trans FY3, ?_, seg_new w3 #[.int .i64 u.hd.kind, .int .i64 u.hd.n, .int .i64 u.hd.range, .string u.hd.word, .slice u.sp.ma u.hd.ms.length u.sp.mc, .slice u.sp.ba u.hd.bs.length u.sp.bc, .slice u.sp.ka u.kids.length u.sp.kc] 26⟩
          exact (own_grown (B := 0) HO2.out (grown_trans (World.grownBy.refl _ _) (grown_of_below B3) (fun _ hk => by cases hk)) (by omega)).alloc _
        have R0 : Below V2.heap.size V2 V2 := Below.refl _ _
        have R1 : Below V2.heap.size V2 V2.drew := below_drewN (Below.refl _ V2) 1
        go_wp2_with fail
        rw [← HV2.out]
        go_region_law
          (first
            | (rw [if_pos (by rfl)]; go_simp; go_at_call 9; refine (HCALL.out _ (by first | exact HBW2.out | exact HBW2d.out)).mono ?_; rintro e w3 ⟨⟨u, hu, rfl, hin3, hon3⟩, b3⟩; have B3 := below_step7 b3 (by first | exact R0 | exact R1); obtain ⟨hY3, FY3, FY4, OW4, SG4⟩ := HFACT.out w3 B3 u; obtain ⟨d0, d1, d2, d3, d4, d5, d6⟩ := seven_cells FY3; obtain ⟨e0, e1, e2, e3, e4, e5, e6⟩ := seven_cells FY4)
            | (refine step_append_segP (by rfl) (.tmp 63) (.tmp 66) 24 (by rfl) (P + 1 + 1 + 1) 26 i0 (.agg #[.int .i64 0, .int .i64 0, .int .i64 0, .string ⟨#[]⟩, .slice none 0 0, .slice none 0 0, .slice none 0 0]) 7 112 Tryz.underlying24 hi hz0 hz1 hz2 rfl (by decide) (.slice co k c) k (ecells us) (by rfl) OW4 (some ⟨w3.heap.size, 0, none⟩) 1 1 (ecell u) (by rfl) (fun h => by cases h) SG4 (by rfl) (ecell_one u) (by unfold maxLen; omega) (by omega) (by simp; omega) ?_; intro v5 w5 own5 gr5 hat5; obtain ⟨co5, cc5, hv5, sg5, hc5⟩ := own_open own5; subst hv5; have FY5 : w5.heap[P + 1 + 1]? = some (.cells #[.int .i64 4, .int .i64 0, .int .i64 0, .string wd, .slice none 0 0, .slice none 0 0, .slice co k c] 26 (0, 0)) := (gr5.block (P + 1 + 1) (by simp; omega) (fun e => by have := (OW4.lt _ e.symm).1; omega)).trans FY4; obtain ⟨f0, f1, f2, f3, f4, f5, f6⟩ := seven_cells FY5; obtain ⟨g0, g1, g2, g3, g4, g5, g6⟩ := thaw7 FY5))
        all_goals
          have hs3 := B3.size
          have hs5 := gr5.size
          simp only [World.size_alloc] at hs5 hat5
          obtain ⟨w6, hw6⟩ : ∃ v, v = w5.setCell ⟨P + 1 + 1, 6, none⟩ (.slice co5 (k + 1) cc5) := ⟨_, rfl⟩
          have hs6 : w6.heap.size = w5.heap.size := by rw [hw6]; simp
          have HU' : Hid (exL (us ++ [u]) = bareL (exL (kids.take (k + 1)))) := by show _ = _; rw [HTK.out, bareL_snoc, exL_snoc, HU.out, hu]
          have own6 : w6.ownsRow (P + 1 + 1 + 1) 26 7 (.slice co5 (k + 1) cc5) (k + 1) (ecells (us ++ [u])) := by rw [hw6, ecells_snoc]; exact own_far own5 (by omega)
          have far5 : ∀ j, j < P + 1 + 1 + 1 → j < w3.heap.size → w5.heap[j]? = w3.heap[j]? := fun j hj hj3 => (gr5.block j (by simp; omega) (fun e => by have := (OW4.lt _ e.symm).1; omega)).trans (Below.heap_alloc _ _ _ hj3)
          have FP6 : w6.heap[P]? = some (.cells #[.int .i64 4, .int .i64 n, .int .i64 rg, .string wd, .slice ma ml mc, .slice ba bn bc, .slice (some ⟨p, off, none⟩) kl kc] 26 (0, 0)) := by rw [hw6, setCell_far (by omega), far5 P (by omega) (by omega)]; exact below_block B3 HP2.out
          have FX6 : w6.heap[P + 1]? = some (.cells #[.int .i64 0, .int .i64 0, .int .i64 0, .string ⟨#[]⟩, .slice none 0 0, .slice none 0 0, .slice none 0 0] 26 (0, 0)) := by rw [hw6, setCell_far (by omega), far5 (P + 1) (by omega) (by omega)]; exact below_block B3 HX2.out
          have FY6 : w6.heap[P + 1 + 1]? = some (.cells #[.int .i64 4, .int .i64 0, .int .i64 0, .string wd, .slice none 0 0, .slice none 0 0, .slice co5 (k + 1) cc5] 26 (0, 0)) := by rw [hw6]; exact (set7 FY5 (.slice co5 (k + 1) cc5)).2.2.2
          have KP3 : Kept W0 w3 (P + 1 + 1) (Value.slice co k c).ownBlock us := HK2.out.go B3.size (fun j _ hj => B3.block j hj) (.inl rfl)
          have ho3 : u.On (fun j => j < W0.heap.size ∨ P + 1 + 1 < j ∧ (Value.slice co k c).ownBlock ≠ some j ∧ j < w3.heap.size) := by
            refine ET.On.mono (fun j hj => ?_) u hon3
            rcases hj with e | ⟨e1, e2⟩
            · exact .inl e
            · have e1' : V2.heap.size ≤ j := e1
              refine .inr ⟨by omega, fun e => ?_, e2⟩
              have := (HOWN.out j e).2
              omega
          have KP4 := KP3.snoc hin3 ho3
          have KP6 : Kept W0 w6 (P + 1 + 1) (Value.slice co5 (k + 1) cc5).ownBlock (us ++ [u]) := by
            refine KP4.go (by omega) (fun j hj hj3 => ?_) (by rcases hat5 with e | e; exact .inl e; exact .inr ⟨_, e, by omega⟩)
            have hjY : j ≠ P + 1 + 1 := by omega
            rw [hw6, setCell_far (by omega)]
            refine (gr5.block j (by simp; omega) (fun e => ?_)).trans (Below.heap_alloc _ _ _ hj3)
            rcases hj with e' | ⟨_, e'⟩
            · have := (OW4.lt _ e.symm).1; omega
            · exact e' e.symm
          have B6 : Below w.heap.size w w6 := by
            rw [hw6]
            have B30 : Below w.heap.size w w3 := HBw2.out.trans (B3.mono HBw2.out.size)
            have B4 := B30.alloc B30.size (.cells #[.int .i64 u.hd.kind, .int .i64 u.hd.n, .int .i64 u.hd.range, .string u.hd.word, .slice u.sp.ma u.hd.ms.length u.sp.mc, .slice u.sp.ba u.hd.bs.length u.sp.bc, .slice u.sp.ka u.kids.length u.sp.kc] 26)
            have B5 : Below w.heap.size w w5 := B4.grown gr5 B4.size (fun j hj => by have := (OW4.lt j hj).1; omega)
            exact B5.setCell (by show _ ≤ P + 1 + 1; omega) _
          have HW6 := hide hw6
          have HO6 := hide own6
          have HP6 := hide FP6
          have HX6 := hide FX6
          have HY6 := hide FY6
          have HK6 := hide KP6
          have HB6 := hide B6
          clear hw6 own6 FP6 FX6 FY6 KP6 B6 KP4 KP3 ho3 far5 FY5 own5 gr5 hat5 sg5 hs6
          go_wp2_with fail
          rw [← HW6.out]
          go_roundw
          case rel => exact ⟨k + 1, cc5, co5, us ++ [u], by omega, by go_num, HU', HO6.out, HP6.out, HX6.out, HY6.out, HK6.out, HB6.out⟩
          case measure => simp [intOf]; omega
      · have hke : k = kl := by omega
        have HFIN : Hid (exL us = bareL (exL kids)) := by
          show _ = _
          rw [HU.out, hke, HKL.out, List.take_length]
        obtain ⟨sgk, hkc⟩ := (show Seg wr co (ecells us) ∧ k ≤ c from by
          obtain ⟨ao, c', hv, sg, hc⟩ := own_open own
          simp only [Value.slice.injEq, true_and] at hv
          obtain ⟨rfl, rfl⟩ := hv
          exact ⟨sg, hc⟩)
        have hul : us.length = kl := by
          have := congrArg List.length HFIN.out
          rw [exL_length] at this
          have h2 : ∀ l : List Ex, (bareL l).length = l.length := by
            intro l
            induction l with
            | nil => rfl
            | cons a r ih => simp [bareL, ih]
          rw [h2, exL_length, ← HKL.out] at this
          exact this
        obtain ⟨u, hu⟩ : ∃ u : ET, u = .node ⟨4, 0, 0, wd, [], []⟩ ⟨none, 0, none, 0, co, c⟩ us := ⟨_, rfl⟩
        have hev : eval u = .agg #[.int .i64 4, .int .i64 0, .int .i64 0, .string wd, .slice none 0 0, .slice none 0 0, .slice co kl c] := by rw [hu]; show Value.agg _ = _; simp only [ET.kids, ET.hd, ET.sp, hul, List.length_nil]
        have hex : u.ex = bare (ET.ex (.node ⟨4, n, rg, wd, ms, bs⟩ ⟨ma, mc, ba, bc, ka, kc⟩ kids)) := by
          rw [hu]
          simp only [ET.ex, bare, bareH]
          rw [HFIN.out]
          rfl
        have hIN : u.In (put7 wr (P + 1) u) := by
          have mv : ∀ v : ET, v ∈ us → v.In (put7 wr (P + 1) u) := fun v hv => ET.In.move (R := fun j => j < W0.heap.size ∨ P + 1 + 1 < j ∧ (Value.slice co k c).ownBlock ≠ some j ∧ j < wr.heap.size) (fun j hj _ => put7_far (by omega)) v (HON.out v hv).1 (HON.out v hv).2
          have sg2 : Seg (put7 wr (P + 1) u) co (ecells us) := by
            obtain ⟨ao, c', hv, sg, hc⟩ := own_open (own_put7 (t := u) (X := P + 1) own (by omega))
            simp only [Value.slice.injEq, true_and] at hv
            obtain ⟨rfl, rfl⟩ := hv
            exact sg
          have bW : Below W0.heap.size W0 (put7 wr (P + 1) u) := by
            have b1 : Below W0.heap.size W0 wr := HW0.out.trans (bel.mono HW0.out.size)
            unfold put7
            exact ((((((b1.setCell (by show _ ≤ P + 1; omega) _).setCell (by show _ ≤ P + 1; omega) _).setCell (by show _ ≤ P + 1; omega) _).setCell (by show _ ≤ P + 1; omega) _).setCell (by show _ ≤ P + 1; omega) _).setCell (by show _ ≤ P + 1; omega) _).setCell (by show _ ≤ P + 1; omega) _
          rw [hu] at sg2 mv bW ⊢
          simp only [ET.In]
          exact ⟨⟨.inl rfl, .inl rfl, sg2⟩, ⟨by simp, by simp, by rw [hul]; omega, lW, fun m hm => by (cases hm), fun b hb => by (cases hb), Nat.le_refl _, fun m hm => by (cases hm)⟩, inL_of mv⟩
        have hON : u.On (fun j => j < W0.heap.size ∨ w.heap.size ≤ j ∧ j < (put7 wr (P + 1) u).heap.size) := by
          rw [put7_size, hu]
          simp only [ET.On]
          refine ⟨⟨fun h => absurd rfl h, fun h => absurd rfl h, fun hne b o e => ?_⟩, onL_of fun v hv => ET.On.mono (fun j hj => ?_) v (HON.out v hv).2⟩
          · have := own.lt b (by rw [e]; rfl)
            exact .inr ⟨by omega, this.2⟩
          · rcases hj with e | ⟨e1, _, e3⟩
            · exact .inl e
            · exact .inr ⟨by omega, e3⟩
        have hBL : Below w.heap.size w (put7 wr (P + 1) u) := by
          unfold put7
          exact ((((((bel.setCell (by show _ ≤ P + 1; omega) _).setCell (by show _ ≤ P + 1; omega) _).setCell (by show _ ≤ P + 1; omega) _).setCell (by show _ ≤ P + 1; omega) _).setCell (by show _ ≤ P + 1; omega) _).setCell (by show _ ≤ P + 1; omega) _).setCell (by show _ ≤ P + 1; omega) _
        have hput : put7 wr (P + 1) u = (((((((wr.setCell ⟨P + 1, 0, none⟩ (.int .i64 4)).setCell ⟨P + 1, 1, none⟩ (.int .i64 0)).setCell ⟨P + 1, 2, none⟩ (.int .i64 0)).setCell ⟨P + 1, 3, none⟩ (.string wd)).setCell ⟨P + 1, 4, none⟩ (.slice none 0 0)).setCell ⟨P + 1, 5, none⟩ (.slice none 0 0)).setCell ⟨P + 1, 6, none⟩ (.slice co kl c)) := by
          have h7 := hev
          unfold eval at h7
          simp only [Value.agg.injEq, Array.mk.injEq, List.cons.injEq, and_true] at h7
          obtain ⟨e0, e1, e2, e3, e4, e5, e6⟩ := h7
          unfold put7
          rw [e0, e1, e2, e3, e4, e5, e6]
        have HIN := hide hIN
        have HON2 := hide hON
        have HBL := hide hBL
        have HEV := hide hev
        have HEX := hide hex
        rw [hput] at HIN HON2 HBL
        subst hke
        obtain ⟨a0, a1, a2, a3, a4, a5, a6⟩ := seven_cells FYr
        obtain ⟨z0, z1, z2, z3, z4, z5, z6⟩ := seven_cells FXr
        obtain ⟨t0, t1, t2, t3, t4, t5, t6⟩ := thaw7 FXr
        clear hIN hON hBL hev hex hput hu sgk HON own FPr FXr FYr bel HU HFIN hul
        go_wp2_with fail
        exact bodyPost_ret (v := .agg #[.int .i64 4, .int .i64 0, .int .i64 0, .string wd, .slice none 0 0, .slice none 0 0, .slice co k c]) (by simp [results, Tryz.results9, go_sem, z0, z1, z2, z3, z4, z5, z6]) rfl ⟨⟨u, HEX.out, by rw [HEV.out], HIN.out, HON2.out⟩, HBL.out⟩

end Go.Proofs.YtfgablhgjbjbkadGreatDoor

/-
  The walk of LangTurns.
-/
namespace Go.Proofs.YtfgablhgjbjbkadGreatDoor
open Go.RowKit Go.GrainU

set_option maxRecDepth 20000 in
set_option maxHeartbeats 8000000 in
theorem lturns_any (t : ET) (w : World) (hin : t.In w) (hT : Tab w) (hv : ErrV w) :
    Calls Tryz.prog 3 #[eval t] w fun e w' => e = .returned (.bool true) ∧ Below w.heap.size w w' := by
  obtain ⟨P, hP⟩ : ∃ P, P = w.heap.size := ⟨_, rfl⟩
  obtain ⟨W, hW⟩ : ∃ W, W = w.alloc (.cells #[.int .i64 t.hd.kind, .int .i64 t.hd.n, .int .i64 t.hd.range, .string t.hd.word, .slice t.sp.ma t.hd.ms.length t.sp.mc, .slice t.sp.ba t.hd.bs.length t.sp.bc, .slice t.sp.ka t.kids.length t.sp.kc] 26) := ⟨_, rfl⟩
  have bW : Below w.heap.size w W := by rw [hW]; exact (Below.refl _ _).alloc (Nat.le_refl _) _
  have FP : W.heap[P]? = some (.cells #[.int .i64 t.hd.kind, .int .i64 t.hd.n, .int .i64 t.hd.range, .string t.hd.word, .slice t.sp.ma t.hd.ms.length t.sp.mc, .slice t.sp.ba t.hd.bs.length t.sp.bc, .slice t.sp.ka t.kids.length t.sp.kc] 26 (0, 0)) := by rw [hW, hP]; exact heap_alloc_new w _
  have HA := hide (alive_any W (hT.below bW) (IfaceAt.below hv bW))
  have HPR := hide (fun (v : World) (hb : Below w.heap.size w v) => pprint_any t v (ET.In.below hb t hin) (hT.below hb))
  have HIN := hide hin
  have HV := hide hv
  have HT := hide hT
  have HW := hide hW
  have HP := hide hP
  have HBW := hide bW
  unfold eval at HPR ⊢
  clear hT hv hin hW hP bW
  go_enter Tryz.func3, Tryz.ntmps3
  go_wp2_with fail
  rw [← HW.out, ← HP.out]
  refine HA.out.mono ?_
  rintro e w1 ⟨rfl, b1⟩
  have bw1 : Below w.heap.size w w1 := HBW.out.trans (b1.mono HBW.out.size)
  obtain ⟨p0, p1, p2, p3, p4, p5, p6⟩ := seven_cells (below_block b1 FP)
  go_wp2_with fail
  by_cases hwr : (wr t.ex 1 0).1 = 0
  · rw [prt_ok hwr] at HPR
    by_cases hsz : 2000 < (tx t.ex).size
    · rw [if_pos hsz] at HPR
      simp only at HPR
      unfold lit at HPR
      clear hsz hwr
      refine (HPR.out w1 bw1).mono ?_
      rintro e w2 ⟨rfl, b2⟩
      go_wp2_with fail
      go_ret
      exact ⟨rfl, bw1.trans (b2.mono bw1.size)⟩
    · rw [if_neg hsz] at HPR
      simp only at HPR
      obtain ⟨T, hTx⟩ : ∃ T, T = tx t.ex := ⟨_, rfl⟩
      have HTL : Hid (prs T.data.toList = .ok (bare t.ex)) := by
        show _ = _
        rw [hTx]; exact prs_tx hwr (by omega)
      have HTS : Hid (T.size ≤ 2000) := by show _ ≤ _; rw [hTx]; omega
      have HRT := hide (wr_ok t.ex 1 0 (by omega) hwr).1
      rw [← hTx] at HPR
      clear hsz hTx hwr
      refine (HPR.out w1 bw1).mono ?_
      rintro e w2 ⟨rfl, b2⟩
      have bw2 : Below w.heap.size w w2 := bw1.trans (b2.mono bw1.size)
      have bW2 : Below W.heap.size W w2 := b1.trans (b2.mono b1.size)
      have HPA := hide (parse_any T w2 (by have := HTS.out; omega) (IfaceAt.below HV.out bw2))
      unfold PPost at HPA
      rw [HTL.out] at HPA
      clear p0 p1 p2 p3 p4 p5 p6
      go_wp2_with fail
      refine HPA.out.mono ?_
      rintro e w3 ⟨⟨m, hx, rfl, hinm⟩ | ⟨f, hf, rfl⟩, b3⟩
      rotate_left
      · cases hf
      · have HME : Hid (m.ex = bare t.ex) := by injection hx with hx; exact hx.symm
        have bw3 : Below w.heap.size w w3 := bw2.trans (b3.mono bw2.size)
        have bW3 : Below W.heap.size W w3 := bW2.trans (b3.mono bW2.size)
        obtain ⟨E, hE⟩ : ∃ E, E = w3.heap.size := ⟨_, rfl⟩
        obtain ⟨V, hV⟩ : ∃ V, V = (w3.alloc (.cells #[.int .i64 m.hd.kind, .int .i64 m.hd.n, .int .i64 m.hd.range, .string m.hd.word, .slice m.sp.ma m.hd.ms.length m.sp.mc, .slice m.sp.ba m.hd.bs.length m.sp.bc, .slice m.sp.ka m.kids.length m.sp.kc] 26)).alloc (.cells #[.int .i64 0, .int .i64 0] 32) := ⟨_, rfl⟩
        have bV : Below w3.heap.size w3 V := by rw [hV]; exact ((Below.refl _ _).alloc (Nat.le_refl _) _).alloc (by simp) _
        have F1 : V.heap[E]? = some (.cells #[.int .i64 m.hd.kind, .int .i64 m.hd.n, .int .i64 m.hd.range, .string m.hd.word, .slice m.sp.ma m.hd.ms.length m.sp.mc, .slice m.sp.ba m.hd.bs.length m.sp.bc, .slice m.sp.ka m.kids.length m.sp.kc] 26 (0, 0)) := by rw [hV, hE, Below.heap_alloc _ _ _ (by simp)]; exact heap_alloc_new w3 _
        have F2 : V.heap[E + 1]? = some (.cells #[.int .i64 0, .int .i64 0] 32 (0, 0)) := by
          have := heap_alloc_new (w3.alloc (.cells #[.int .i64 m.hd.kind, .int .i64 m.hd.n, .int .i64 m.hd.range, .string m.hd.word, .slice m.sp.ma m.hd.ms.length m.sp.mc, .slice m.sp.ba m.hd.bs.length m.sp.bc, .slice m.sp.ka m.kids.length m.sp.kc] 26)) (.cells #[.int .i64 0, .int .i64 0] 32)
          rw [hV, hE]; simpa using this
        have bWV : Below W.heap.size W V := bW3.trans (bV.mono bW3.size)
        have F0 := below_block bWV FP
        have bwV : Below w.heap.size w V := bw3.trans (bV.mono bw3.size)
        have INM := ET.In.below bV m hinm.whole
        have HBA := hide (fun (v : World) (hb : Below V.heap.size V v) => bare_any t w v HIN.out (bwV.trans (hb.mono bwV.size)) HRT.out)
        have HEQ := hide (fun (u : ET) (v : World) (hu : u.ex = bare t.ex) (hb : Below V.heap.size V v) (hi : u.In v) => equal_same m u v (HME.out.trans hu.symm) (ET.In.below hb m INM) hi)
        have HS : Hid (∀ w', Below V.heap.size V w' → (w'.cell? ⟨P, 0, none⟩ = some (.int .i64 t.hd.kind) ∧ w'.cell? ⟨P, 1, none⟩ = some (.int .i64 t.hd.n) ∧ w'.cell? ⟨P, 2, none⟩ = some (.int .i64 t.hd.range) ∧ w'.cell? ⟨P, 3, none⟩ = some (.string t.hd.word) ∧ w'.cell? ⟨P, 4, none⟩ = some (.slice t.sp.ma t.hd.ms.length t.sp.mc) ∧ w'.cell? ⟨P, 5, none⟩ = some (.slice t.sp.ba t.hd.bs.length t.sp.bc) ∧ w'.cell? ⟨P, 6, none⟩ = some (.slice t.sp.ka t.kids.length t.sp.kc)) ∧ (w'.cell? ⟨E, 0, none⟩ = some (.int .i64 m.hd.kind) ∧ w'.cell? ⟨E, 1, none⟩ = some (.int .i64 m.hd.n) ∧ w'.cell? ⟨E, 2, none⟩ = some (.int .i64 m.hd.range) ∧ w'.cell? ⟨E, 3, none⟩ = some (.string m.hd.word) ∧ w'.cell? ⟨E, 4, none⟩ = some (.slice m.sp.ma m.hd.ms.length m.sp.mc) ∧ w'.cell? ⟨E, 5, none⟩ = some (.slice m.sp.ba m.hd.bs.length m.sp.bc) ∧ w'.cell? ⟨E, 6, none⟩ = some (.slice m.sp.ka m.kids.length m.sp.kc)) ∧ w'.cell? ⟨E + 1, 0, none⟩ = some (.int .i64 0)) := fun w' hb => ⟨seven_cells (below_block hb F0), seven_cells (below_block hb F1), (two_cells (below_block hb F2)).1⟩
        have HVV := hide hV
        have HE := hide hE
        have HBV := hide bwV
        have R0 : Below V.heap.size V V := Below.refl _ _
        have R1 : Below V.heap.size V V.drew := below_drewN (Below.refl _ V) 1
        unfold eval at HBA HEQ ⊢
        clear hx hinm b1 b2 b3 bw1 bw2 bw3 bW2 bW3 hE hV bV F1 F2 bWV F0 bwV INM HPA FP
        go_wp2_with fail
        rw [← HVV.out, ← HE.out]
        go_region_held3 (fun w' => (w'.cell? ⟨P, 0, none⟩ = some (.int .i64 t.hd.kind) ∧ w'.cell? ⟨P, 1, none⟩ = some (.int .i64 t.hd.n) ∧ w'.cell? ⟨P, 2, none⟩ = some (.int .i64 t.hd.range) ∧ w'.cell? ⟨P, 3, none⟩ = some (.string t.hd.word) ∧ w'.cell? ⟨P, 4, none⟩ = some (.slice t.sp.ma t.hd.ms.length t.sp.mc) ∧ w'.cell? ⟨P, 5, none⟩ = some (.slice t.sp.ba t.hd.bs.length t.sp.bc) ∧ w'.cell? ⟨P, 6, none⟩ = some (.slice t.sp.ka t.kids.length t.sp.kc)) ∧ (w'.cell? ⟨E, 0, none⟩ = some (.int .i64 m.hd.kind) ∧ w'.cell? ⟨E, 1, none⟩ = some (.int .i64 m.hd.n) ∧ w'.cell? ⟨E, 2, none⟩ = some (.int .i64 m.hd.range) ∧ w'.cell? ⟨E, 3, none⟩ = some (.string m.hd.word) ∧ w'.cell? ⟨E, 4, none⟩ = some (.slice m.sp.ma m.hd.ms.length m.sp.mc) ∧ w'.cell? ⟨E, 5, none⟩ = some (.slice m.sp.ba m.hd.bs.length m.sp.bc) ∧ w'.cell? ⟨E, 6, none⟩ = some (.slice m.sp.ka m.kids.length m.sp.kc)) ∧ w'.cell? ⟨E + 1, 0, none⟩ = some (.int .i64 0)) (exact HS.out _ (by assumption))
          (first
            | (go_at_call 9; refine (HBA.out _ (by assumption)).mono ?_; rintro e w5 ⟨⟨u, hu, rfl, hin5, _⟩, b5⟩; have R5 := below_step7 b5 (by assumption))
            | (go_at_call 8; refine (HEQ.out u _ hu (by assumption) hin5).mono ?_; rintro e w6 ⟨rfl, b6⟩; have R6 := below_step7 b6 (by assumption)))
        all_goals
          go_wp2_with fail
          go_ret
          exact ⟨rfl, HBV.out.trans (R6.mono HBV.out.size)⟩
  · have HNE := hide hwr
    have hprt : prt t.ex = (lit [], (wr t.ex 1 0).1) := by unfold prt; rw [if_neg hwr]
    rw [hprt] at HPR
    simp only at HPR
    obtain ⟨X, hX⟩ : ∃ X, X = (wr t.ex 1 0).1 := ⟨_, rfl⟩
    rw [← hX] at HPR hwr
    have hne : ((X : Int) != 0) = true := by simpa using hwr
    unfold lit at HPR
    clear hprt hX hwr
    refine (HPR.out w1 bw1).mono ?_
    rintro e w2 ⟨rfl, b2⟩
    go_wp2_with fail
    go_ret
    exact ⟨rfl, bw1.trans (b2.mono bw1.size)⟩

end Go.Proofs.YtfgablhgjbjbkadGreatDoor

/-
  For every input, LangTurns returns true: a right expression comes back from its text, if that is not too much; of a wrong one there is no text. The listed variables of the library (internal/strconv.uint64pow10, math/bits.deBruijn32tab, math/bits.deBruijn64tab, strconv.ErrRange, strconv.ErrSyntax) start as the program's text lays them: the card ties them. No other condition.
-/
namespace Go.Proofs.YtfgablhgjbjbkadGreatDoor
open Go.ChangeShapes Go.WideShapes Go.ChangeAt Go.RowKit Go.GrainU

theorem Tryz.gTab : Tryz.prog.globalNamed "internal/strconv.uint64pow10" = some 0 := by kernel_rfl
theorem Tryz.gTabType : (Tryz.prog.globals[0]?).map (·.type) = some 103 := by kernel_rfl
theorem Tryz.gErr : Tryz.prog.globalNamed "strconv.ErrRange" = some 5 := by kernel_rfl
theorem Tryz.gErrType : (Tryz.prog.globals[5]?).map (·.type) = some 79 := by kernel_rfl
theorem errStar : "*" ++ "errors.errorString" = "*errors.errorString" := by decide
theorem Tryz.rowErr (u : TypeId) (h : Tryz.prog.typeName? 3 u = some "*errors.errorString") : u = 133 :=
  typeName_ptr_named (nm := "errors.errorString") (by rw [errStar]; kernel_rfl) (by kernel_rfl) (by decide) u (by rw [errStar]; exact h)

/-- the row's list, and what is on it -/
theorem tab_of_laid {W : World} (h : laidMetH Tryz.prog Rows.langTurnsRow.laid W) : Tab W ∧ ErrV W := by
  rw [MakeChecks.laidMetH_plain _ _ _ (by kernel_rfl)] at h
  refine ⟨Lib.tabIs_of_head Tryz.gTab Tryz.gTabType Tryz.underlying103 Tryz.underlying88 (by kernel_rfl) (by kernel_rfl) h.tail.tail, ?_⟩
  obtain ⟨a, s, hv, _⟩ := laid_sentinel h.tail.tail.tail Tryz.gErr Tryz.gErrType Tryz.underlying79 Tryz.rowErr Tryz.underlying133 Tryz.underlying135 rfl rfl Tryz.underlying9 (by kernel_rfl) (by kernel_rfl)
  exact ⟨_, _, hv⟩

/-- the door's own heap meets the list -/
theorem door_met (os : Os) (args : Array Value) : laidMetH Tryz.prog Rows.langTurnsRow.laid ((World.doorLaid Tryz.prog 400 os).forCall (fun _ _ => 0) ⟨#[], args, []⟩).memory :=
  laidMetH_of_parts3 (fuel := 8) (laidMet_of_run' 8 (by kernel_rfl) (by kernel_rfl)) (by kernel_rfl) (by kernel_rfl)

theorem weights_one {H : Type} {t : TypeId} {d : DataW H} (h : (DataW.weightsEach Tryz.prog [t] [d]).all (· ≤ reachBytes) = true) : ∀ k ∈ d.weights Tryz.prog t, k ≤ reachBytes := fun k hk => by
  have := List.all_eq_true.1 h k (DataW.weights_mem_each (j := 0) rfl rfl k hk)
  exact of_decide_eq_true this

theorem array7 {cs : Array Value} {l : List Value} (h : cs.toList = l) : cs = l.toArray := by rw [← h]

set_option maxRecDepth 100000 in
theorem lturns_lifted (os : Os) (started : os.Started) (H : Type) (enc : TypeId × Value → H) :
    ReturnsInHanded {} Tryz.checked os 3 .any (fun w args => (Rows.langTurnsSpec.pre enc Tryz.prog Tryz.f3 [] false w args ∧ laidMetH Tryz.prog Rows.langTurnsRow.laid w) ∧ sizedMet enc Tryz.prog Tryz.f3 (OpenSpec.ofChange Rows.langTurnsSpec) false w args)
      (Rows.langTurnsSpec.post enc Tryz.prog Tryz.f3 false true false false) := by
  refine returnsInHanded_of_change_and (C := Tryz.checked) (X := fun w _ => laidMetH Tryz.prog Rows.langTurnsRow.laid w) (fun _ _ _ hh h => h.of_heap hh) Tryz.own started (by kernel_rfl) Tryz.func3
    (ChangeSpec.witness_shaped (enc := enc) (C := Tryz.checked) (os := os) (X := fun w _ => laidMetH Tryz.prog Rows.langTurnsRow.laid w) false (World.doorLaid Tryz.prog 400 os) #[.agg #[.int .i64 0, .int .i64 0, .int .i64 0, .string ⟨#[]⟩, .slice none 0 0, .slice none 0 0, .slice none 0 0]] 8 rfl (World.shaped_of_RefB (by kernel_rfl) (by kernel_rfl)) (by kernel_rfl) (by kernel_rfl) (by kernel_rfl) (door_met os _)) ?_
  intro W base args ds gs before hval0 hW _ hsz0 hL _
  have hval : ∀ (j : Nat) t v, Tryz.f3.params[j]? = some t → args[j]? = some v → Value.okWide Tryz.prog W .any base t v := hval0
  have hsz : (DataW.weightsEach Tryz.prog (Tryz.f3.params.toList ++ Rows.langTurnsSpec.plain.varTypes Tryz.prog) (ds ++ gs)).all (· ≤ reachBytes) = true := hsz0
  have hW' := hW
  obtain ⟨p, q, hA0, hV, rfl, hfz, hnd⟩ := hW
  have hA : DataW.TrodAll enc Tryz.prog W 0 (fun _ => true) true Tryz.f3.params.toList args.toList ds p := hA0
  rw [Tryz.params3] at hA hval hsz
  obtain ⟨v0, d0, rfl, rfl, h0⟩ := trodAll_one hA
  obtain ⟨rfl, rfl⟩ := trodVars_none hV
  have lt0 : ∀ x ∈ p, x.block < W.heap.size := by obtain ⟨m, hm⟩ := h0; exact DataW.trod_lt m _ _ _ hm
  obtain ⟨cs, rfl, hcs⟩ := okWide_struct Tryz.underlying26 (hval 0 26 v0 rfl rfl)
  have k0 := h0
  obtain ⟨f0, hf0⟩ := h0
  obtain ⟨t, ht, hin⟩ := open_expr f0 _ _ hf0 (weights_one hsz)
  have hv : Value.agg cs = eval t := by
    simp only [Value.cells] at ht
    rw [array7 ht]
    rfl
  obtain ⟨hT, hE⟩ := tab_of_laid hL
  clear hA0 hval0 hsz0 hsz
  rw [hv] at hW' k0 ⊢
  refine (lturns_any t W hin hT hE).mono fun e W' ⟨he, bel⟩ => ?_
  subst he
  exact ⟨_, rfl, _, _, _, [], _, [], hW', trodAll_mk1 (shut_bool Tryz.underlying4 _), (trodAll_cons_mk (Below.trod Tryz.laidOut (by kernel_rfl) (of_decide_eq_true (by kernel_rfl)) k0 bel lt0) trodAll_mk0), rfl, bel.frame _, fun h => by cases h⟩

theorem lturns_row : Rows.LangTurnsSaid :=
  OpenClaim.holds_of_wide 3 Tryz.f3 rfl rfl rfl rfl rfl rfl rfl ⟨rfl, rfl, rfl, rfl, rfl⟩ rfl rfl rfl rfl rfl (by kernel_rfl) Tryz.func3 (by kernel_rfl)
    (of_decide_eq_true (by kernel_rfl)) (by unfold Func.isWrapper; first | (rw [if_pos (by decide +kernel)]; kernel_rfl) | (rw [if_neg (by decide +kernel)]; exact ⟨rfl, rfl⟩))
    (fun os started H enc _ => lturns_lifted os started H enc)

theorem lturns_card : Rows.LangTurnsCardSaid :=
  Claim7.holds_tied_plain_at .later [] [.data, .data, .data, .sentinel, .sentinel] true (true, "8ed584997cf5727959d965af6b512d6b5399fe352495f36f42071e2d6c4ef316") true
    lturns_row (fun _ h => by cases h) (by kernel_rfl) (fun _ h => by cases h) langTurns_row_tie rfl ⟨rfl, rfl⟩ (by kernel_rfl) rfl
    (fun f fn hf hfn => by
      obtain rfl : f = 3 := Option.some.inj ((show Tryz.prog.funcNamed "grainstore/grainlaw5.LangTurns" = some 3 by kernel_rfl).symm.trans hf) |>.symm
      obtain rfl : fn = Tryz.f3 := (Option.some.inj (Tryz.func3.symm.trans hfn)).symm
      exact ⟨by kernel_rfl, fun j t ht => by
        rw [Tryz.params3] at ht
        have h3 : t = 26 := by
          rcases j with _ | j
          · simpa using ht.symm
          · simp at ht
        subst h3
        exact (show Tryz.prog.wantsStandIn 26 = false by kernel_rfl)⟩)
    (by kernel_rfl)

end Go.Proofs.YtfgablhgjbjbkadGreatDoor
