/-
  The walk of the document's Up.
-/
import Derived.Test.YthohkokhimdamaaGreatP32
import Derived.Test.YthohkokhimdamaaGreatP35
import Derived.Test.YthohkokhimdamaaGreatP22
/-
  The walk of the document's SameCells, at cells that are the same.
-/
namespace Go.GrainU
open Go.RowKit

/-- cells that can be read, and their series -/
structure CsR (w : World) (co : Option Addr) (l : List CT) : Prop where
  seg : Seg w co (ccells l)
  ser : ∀ c ∈ l, Seg w c.sa (lcells c.ser)

theorem CsR.below {w w' : World} {co : Option Addr} {l : List CT} (h : CsR w co l) (hb : Below w.heap.size w w') : CsR w' co l := ⟨h.seg.below hb, fun c hc => (h.ser c hc).below hb⟩
theorem CsIn.r {w : World} {co : Option Addr} {l : List CT} (h : CsIn w co l) : CsR w co l := ⟨h.seg, h.ser⟩

end Go.GrainU
namespace Go.Proofs.YthohkokhimdamaaGreat
open Go.RowKit Go.GrainU

theorem cls_ct {a b : List CT} (h : cls a = cls b) {k : Nat} (hk : k < a.length) (hk' : k < b.length) : (ct a k).ser = (ct b k).ser ∧ (ct a k).v = (ct b k).v := by
  have e : (cls a)[k]? = (cls b)[k]? := by rw [h]
  simp [cls, List.getElem?_eq_getElem hk, List.getElem?_eq_getElem hk', CT.cl] at e
  have e1 : ct a k = a[k] := by simp [ct, List.getD, List.getElem?_eq_getElem hk]
  have e2 : ct b k = b[k] := by simp [ct, List.getD, List.getElem?_eq_getElem hk']
  rw [e1, e2]
  exact e

set_option maxRecDepth 100000 in
set_option maxHeartbeats 4000000 in
theorem rsamer_any (a b : List CT) (ao bo : Option Addr) (n m c c' : Nat) (w : World) (ha : CsR w ao a) (hb : CsR w bo b) (hn : n = a.length) (hm : m = b.length) (h : cls a = cls b) (h8 : ∀ x ∈ a, x.ser.length ≤ 9223372036854775807) (hn8 : n ≤ 9223372036854775806) :
    Calls Tryz.prog 6 #[.slice ao n c, .slice bo m c'] w fun e w' => e = .returned (.bool true) ∧ Below w.heap.size w w' := by
  have hnm : m = n := by rw [hn, hm, ← cls_len, ← cls_len, h]
  subst hnm
  have HN := hide hn
  have HM := hide hm
  have HH := hide h
  have H8 := hide h8
  clear hn hm h h8
  have hd : ((m : Int) != (m : Int)) = false := by simp
  go_enter Tryz.func6, Tryz.ntmps6
  go_wp2
  go_loopw [13] (fun i wr => ∃ k : Nat, k ≤ m ∧ i = .int .i64 k ∧ Below w.heap.size w wr) (fun i _ => m - (intOf i).toNat)
  case atStart => exact ⟨0, Nat.zero_le _, rfl, Below.refl _ _⟩
  case round =>
    obtain ⟨k, hk, rfl, bel⟩ := hrel
    have hsz := bel.size
    by_cases hlt : k < m
    · have hka : k < a.length := by rw [← HN.out]; exact hlt
      have hkb : k < b.length := by rw [← HM.out]; exact hlt
      obtain ⟨p, off, rfl, hbl, hcell⟩ := seg_cell ha.seg hka
      obtain ⟨p', off', rfl, hbl', hcell'⟩ := seg_cell hb.seg hkb
      obtain ⟨x, hx⟩ : ∃ x, x = ct a k := ⟨_, rfl⟩
      obtain ⟨y, hy⟩ : ∃ y, y = ct b k := ⟨_, rfl⟩
      obtain ⟨es, ev⟩ := cls_ct HH.out hka hkb
      rw [← hx, ← hy] at es ev
      obtain ⟨xn, hxn⟩ : ∃ xn, xn = x.ser.length := ⟨_, rfl⟩
      obtain ⟨v, hv⟩ : ∃ v, v = x.v := ⟨_, rfl⟩
      have sx : Seg w x.sa (lcells x.ser) := by rw [hx]; exact ha.ser _ (ct_mem hka)
      have sy : Seg w y.sa (lcells x.ser) := by rw [es, hy]; exact hb.ser _ (ct_mem hkb)
      have c0 : wr.cell? ⟨p, off + k * 2, none⟩ = some (.slice x.sa xn x.sc) := by rw [hxn, hx]; exact (bel.cell (by exact hbl)).trans (hcell k hka).1
      have c1 : wr.cell? ⟨p, off + k * 2 + 1, none⟩ = some (.int .i64 v) := by rw [hv, hx]; exact (bel.cell (by exact hbl)).trans (hcell k hka).2
      have d0 : wr.cell? ⟨p', off' + k * 2, none⟩ = some (.slice y.sa xn y.sc) := by rw [hxn, es, hy]; exact (bel.cell (by exact hbl')).trans (hcell' k hkb).1
      have d1 : wr.cell? ⟨p', off' + k * 2 + 1, none⟩ = some (.int .i64 v) := by rw [hv, ev, hy]; exact (bel.cell (by exact hbl')).trans (hcell' k hkb).2
      have x8 : xn ≤ 9223372036854775807 := by rw [hxn, hx]; exact H8.out _ (ct_mem hka)
      have hp1 : p < wr.heap.size := World.block_lt_of_cell? wr _ c0
      have hp2 : p' < wr.heap.size := World.block_lt_of_cell? wr _ d0
      have PS : Hid (∀ w', Below w.heap.size w w' → Calls Tryz.prog 19 #[.slice x.sa xn x.sc, .slice y.sa xn y.sc] w' fun e w'' => e = .returned (.bool true) ∧ Below w'.heap.size w' w'') := fun w' hb' => by
        have := sames_any x.ser x.ser x.sa y.sa xn xn x.sc y.sc w' (sx.below hb') (sy.below hb') hxn hxn x8
        simpa using this
      have HS : Hid (∀ w', Below wr.heap.size wr w' → w'.cell? ⟨p, off + k * 2, none⟩ = some (.slice x.sa xn x.sc) ∧ w'.cell? ⟨p, off + k * 2 + 1, none⟩ = some (.int .i64 v) ∧ w'.cell? ⟨p', off' + k * 2, none⟩ = some (.slice y.sa xn y.sc) ∧ w'.cell? ⟨p', off' + k * 2 + 1, none⟩ = some (.int .i64 v)) := fun w' hb' =>
        ⟨(hb'.cell (by exact hp1)).trans c0, (hb'.cell (by exact hp1)).trans c1, (hb'.cell (by exact hp2)).trans d0, (hb'.cell (by exact hp2)).trans d1⟩
      have R0 : Below wr.heap.size wr wr.drew := below_drewN (Below.refl _ _) 1
      have hvv : (v != v) = false := by simp
      clear hcell hcell' hx hy es ev hxn hv hka hkb c0 c1 d0 d1
      go_wp2_with fail
      have i7 : k < m := hlt
      have i2 : (k : Int) < (m : Int) := by omega
      go_region_held3 (fun w' => w'.cell? ⟨p, off + k * 2, none⟩ = some (.slice x.sa xn x.sc) ∧ w'.cell? ⟨p, off + k * 2 + 1, none⟩ = some (.int .i64 v) ∧ w'.cell? ⟨p', off' + k * 2, none⟩ = some (.slice y.sa xn y.sc) ∧ w'.cell? ⟨p', off' + k * 2 + 1, none⟩ = some (.int .i64 v)) (exact HS.out _ (by with_reducible assumption))
        (first | (go_at_call 19; refine (PS.out _ (bel.trans (Below.mono (by with_reducible assumption) bel.size))).mono ?_; rintro e w3 ⟨rfl, b3⟩; have R4 := below_step b3 (by with_reducible assumption)))
      all_goals
        have bel3 : Below w.heap.size w w3 := bel.trans (R4.mono bel.size)
        clear R4 b3 R0 HS PS bel
        go_wp2
        go_roundw
        case rel => exact ⟨k + 1, by omega, by go_num, bel3⟩
        case measure => simp [intOf]; omega
    · go_wp2
      go_ret
      exact ⟨rfl, bel⟩

theorem rsamec_any (a b : List CT) (ao bo : Option Addr) (n m c c' : Nat) (w : World) (ha : CsIn w ao a) (hb : CsIn w bo b) (hn : n = a.length) (hm : m = b.length) (h : cls a = cls b) (h8 : ∀ x ∈ a, x.ser.length ≤ 9223372036854775807) (hn8 : n ≤ 9223372036854775806) :
    Calls Tryz.prog 6 #[.slice ao n c, .slice bo m c'] w fun e w' => e = .returned (.bool true) ∧ Below w.heap.size w w' := rsamer_any a b ao bo n m c c' w ha.r hb.r hn hm h h8 hn8

end Go.Proofs.YthohkokhimdamaaGreat

/-
  The walk of the document's Up.
-/
namespace Go.Proofs.YthohkokhimdamaaGreat
open Go.RowKit Go.GrainU

set_option maxHeartbeats 400000 in
theorem up_any (a b : Int) (w : World) :
    Calls Tryz.prog 42 #[.int .i64 a, .int .i64 b] w fun e w' => e = .returned (.int .i64 (Grain.rise a b)) ∧ w' = w := by
  by_cases hn : b < a
  · have hf : Grain.rise a b = b := by simp [Grain.rise, hn]
    rw [hf]; clear hf
    go_enter Tryz.func42, Tryz.ntmps42
    go_wp2
    go_ret
    exact ⟨rfl, rfl⟩
  · have hf : Grain.rise a b = IntKind.i64.wrap (b - a) := by simp [Grain.rise, hn, Grain.wr]
    rw [hf]; clear hf
    go_enter Tryz.func42, Tryz.ntmps42
    go_wp2
    go_ret
    exact ⟨ret_int (by simp [IntWalk.i64_left]), rfl⟩

end Go.Proofs.YthohkokhimdamaaGreat
