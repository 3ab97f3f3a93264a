import Derived.Deep.AppendLies
import Derived.Deep.Onto
import Derived.Test.YtoldmigappbjcaaGreatDoorL01
import Derived.Test.YtoldmigappbjcaaGreatDoorL02
import Derived.Test.YtoldmigappbjcaaGreatDoorL14
import Derived.Test.YtoldmigappbjcaaGreatDoorL15
import Derived.Test.YtoldmigappbjcaaGreatDoorL19
import Derived.Test.YtoldmigappbjcaaGreatDoorL20
import Derived.Test.YtoldmigappbjcaaGreatDoorL27
import Derived.Test.YtoldmigappbjcaaGreatDoorL28
import Derived.Test.YtoldmigappbjcaaGreatDoorRows
namespace Grain
theorem pcost_le {s : Shf} (h1 : s.ra.length ≤ 500) (h2 : s.fi.length ≤ 500) (h3 : s.co.length ≤ 500) (p : Pt) : pcost s p ≤ 500 := by
 unfold pcost
 split
 ·exact Nat.le_trans (List.length_filter_le _ _) h2
 ·split
  ·exact Nat.le_trans (List.length_filter_le _ _) h3
  ·exact Nat.le_trans (List.length_filter_le _ _) h1
end Grain
namespace Go.Proofs.YtoldmigappbjcaaGreatDoor
open Go.RowKit Go.GrainU
set_option maxRecDepth 20000 in
set_option maxHeartbeats 4000000 in
theorem read_any (x : ShT) (l : List Grain.Pt) (ao : Option Addr) (n c : Nat) (w : World) (hx : ShIn w x) (hcap : ShCap x) (hs : Seg w ao (pcells l)) (hn : n = l.length) (hL : n ≤ 1000000000000000) :
  Calls Tryz.prog 143 #[x.v, .slice ao n c] w fun e w' => ∃ (J : Grain.Sm) (N E : Int), e = .returned (.tuple #[.agg #[.int .i64 J.c, .int .i64 J.t, .int .i64 J.mn, .int .i64 J.mx, .int .i64 J.f, .int .i64 J.l, .int .i64 J.r], .int .i64 N, .int .i64 E]) ∧ Hid (Grain.read x.s l = (J, N, E)) ∧ Below w.heap.size w w' := by
 have HN := hide hn
 clear hn
 obtain ⟨X, hX⟩ : ∃ X, X = w.heap.size := ⟨_, rfl⟩
 obtain ⟨V, hV⟩ : ∃ V, V = (w.alloc (so x)).alloc (.cells #[.int .i64 0, .int .i64 0, .int .i64 0, .int .i64 0, .int .i64 0, .int .i64 0, .int .i64 0] 76) := ⟨_, rfl⟩
 have bel : Below w.heap.size w V := by rw [hV]; exact ((Below.refl _ _).alloc (Nat.le_refl _) _).alloc (by simp) _
 have S0 : V.heap[X]? = some (so x) := by rw [hV, hX, Below.heap_alloc _ _ _ (by simp)]; exact heap_alloc_new w _
 have Z0 : SumAt V (X + 1) Grain.zero := by
  show V.heap[X + 1]? = _
  rw [hV, hX]; have := heap_alloc_new (w.alloc (so x)) (.cells #[.int .i64 0, .int .i64 0, .int .i64 0, .int .i64 0, .int .i64 0, .int .i64 0, .int .i64 0] 76); rwa [World.size_alloc] at this
 have hxV := hx.below bel
 have hsV := hs.below bel
 have HV : Hid (V = (w.alloc (.cells #[.slice x.a0 x.s.se.length x.c0, .slice x.a1 x.s.ra.length x.c1, .slice x.a2 x.s.fi.length x.c2, .slice x.a3 x.s.co.length x.c3, .int .i64 x.s.rf, .int .i64 x.s.ff, .int .i64 x.s.ft, .int .i64 x.s.cf, .int .i64 x.s.ct] 59)).alloc (.cells #[.int .i64 0, .int .i64 0, .int .i64 0, .int .i64 0, .int .i64 0, .int .i64 0, .int .i64 0] 76)) := hV
 have HX := hide hX
 have Hv : Hid (x.v = .agg #[.slice x.a0 x.s.se.length x.c0, .slice x.a1 x.s.ra.length x.c1, .slice x.a2 x.s.fi.length x.c2, .slice x.a3 x.s.co.length x.c3, .int .i64 x.s.rf, .int .i64 x.s.ff, .int .i64 x.s.ft, .int .i64 x.s.cf, .int .i64 x.s.ct]) := rfl
 obtain ⟨E, hE⟩ : ∃ E, E = Grain.swrong x.s := ⟨_, rfl⟩
 have HE := hide hE
 clear hV hX hE hx hs
 rw [Hv.out]
 go_enter Tryz.func143, Tryz.ntmps143
 go_wp2_with fail
 rw [← HV.out, ← Hv.out]
 refine (swrong_any x V hxV).mono ?_
 rintro e w1 ⟨rfl, hb1⟩
 rw [← HE.out, ← HX.out]
 have bel1 : Below w.heap.size w w1 := below_pl hb1 bel
 have S1 := below_block hb1 S0
 have Z1 := Z0.below hb1
 have hx1 := hxV.below hb1
 have hs1 := hsV.below hb1
 clear hb1 S0 Z0 hxV hsV
 by_cases hw : E = 0
 ·subst hw
  have sr := (Grain.sr_iff x.s).1 HE.out.symm
  obtain ⟨b, hb⟩ : ∃ b, b = Grain.fol x.s l := ⟨_, rfl⟩
  have HB := hide hb
  clear hb
  obtain ⟨x0, x1, x2, x3, x4, x5, x6, x7, x8⟩ := nine_cells S1
  go_wp2_with fail
  refine (follow_any x.s _ _ _ _ l ao n c b w1 hs1 HN.out hL HB.out).mono ?_
  rintro e w2 ⟨rfl, hb2⟩
  have bel2 : Below w.heap.size w w2 := below_pl hb2 bel1
  have S2 := below_block hb2 S1
  have Z2 := Z1.below hb2
  have hx2 := hx1.below hb2
  have hs2 := hs1.below hb2
  clear hb2 S1 Z1 hx1 hs1 x0 x1 x2 x3 x4 x5 x6 x7 x8 bel1
  cases b
  ·obtain ⟨z0, z1, z2, z3, z4, z5, z6⟩ := Z2.cells
   obtain ⟨y0, y1, y2, y3, y4, y5, y6⟩ := seven_thaw Z2
   have HR : Hid (Grain.read x.s l = (Grain.zero, 0, 8)) := by
    show _ = _
    rw [Grain.read, if_neg (by simp [← HE.out]), if_pos HB.out.symm]
   go_wp2
   exact bodyPost_ret (v := .tuple #[.agg #[.int .i64 0, .int .i64 0, .int .i64 0, .int .i64 0, .int .i64 0, .int .i64 0, .int .i64 0], .int .i64 0, .int .i64 8]) (by simp [results, Tryz.results143, go_sem, z0, z1, z2, z3, z4, z5, z6]) rfl ⟨Grain.zero, 0, 8, rfl, HR, below_set7 bel2 (by have := HX.out; omega) _ _ _ _ _ _ _⟩
  ·have HR : Hid (Grain.read x.s l = (Grain.rdS x.s l, (Grain.rdN x.s l : Int), 0)) := by
    show _ = _
    rw [Grain.read, if_neg (by simp [← HE.out]), if_neg (by rw [← HB.out]; decide)]
   have HO := hide ((Grain.fol_iff x.s l).1 HB.out.symm)
   obtain ⟨B, hB⟩ : ∃ B, B = w2.heap.size := ⟨_, rfl⟩
   obtain ⟨U, hU⟩ : ∃ U, U = w2.alloc (.cells #[.int .i64 0, .int .i64 0, .int .i64 0, .int .i64 0, .int .i64 0, .int .i64 0, .int .i64 0] 76) := ⟨_, rfl⟩
   have A0 : SumAt U B Grain.zero := by show U.heap[B]? = _; rw [hU, hB]; exact heap_alloc_new w2 _
   have belU : Below w2.heap.size w2 U := by rw [hU]; exact (Below.refl _ _).alloc (Nat.le_refl _) _
   have HU := hide hU
   have HBB := hide hB
   clear hU hB
   go_wp2
   rw [← HU.out, ← HBB.out]
   go_loopw [9, 27] (fun s9 s27 wr => ∃ (k N : Nat) (s : Grain.Sm), k ≤ n ∧ s9 = .int .i64 N ∧ s27 = .int .i64 k ∧ N ≤ 500 * k ∧ SumAt wr B s ∧ Below w2.heap.size w2 wr ∧ Hid (s = Grain.rdS x.s (l.take k)) ∧ Hid (N = Grain.rdN x.s (l.take k))) (fun _ s27 _ => n - (intOf s27).toNat)
   case atStart => exact ⟨0, 0, Grain.zero, Nat.zero_le _, rfl, rfl, by omega, A0, belU, rfl, rfl⟩
   case round =>
    obtain ⟨k, N, s, hk, rfl, rfl, hNk, A1, belr, H1, H2⟩ := hrel
    have S3 := below_block belr S2
    have hsz := belr.size
    by_cases hlt : k < n
    ·have hkl : k < l.length := by rw [← HN.out]; exact hlt
     obtain ⟨bb, off, rfl, hbl, hcell⟩ := seg_part hs2 hkl
     obtain ⟨P, hP⟩ : ∃ P, P = Grain.pt l k := ⟨_, rfl⟩
     have q := (hcell k hkl).below belr hbl
     rw [← hP] at q
     obtain ⟨c0, c1, c2⟩ := q
     have hpft : P.f ≤ P.t := by
      have := HO.out k hkl
      unfold Grain.okp at this
      simp only [Bool.and_eq_true] at this
      have := Grain.may_lt this.1
      rw [hP]; omega
     have T1 : Hid (Grain.rdS x.s (l.take (k + 1)) = Grain.join s (Grain.psum x.s P)) := by
      show _ = _
      rw [Grain.take_pt hkl, Grain.rdS_snoc, ← hP, ← H1.out]
     have T2 : Hid (Grain.rdN x.s (l.take (k + 1)) = N + Grain.pcost x.s P) := by
      show _ = _
      rw [Grain.take_pt hkl, Grain.rdN_snoc, ← hP, ← H2.out]
     have hpc := Grain.pcost_le sr.rlen sr.flen sr.clen P
     obtain ⟨W, hW⟩ : ∃ W, W = wr.alloc (.cells #[.int .i64 P.k, .int .i64 P.f, .int .i64 P.t] 235) := ⟨_, rfl⟩
     have hbW : Below wr.heap.size wr W := by rw [hW]; exact (Below.refl _ _).alloc (Nat.le_refl _) _
     have belW : Below w2.heap.size w2 W := below_pl hbW belr
     have A2 := A1.below hbW
     have HW := hide hW
     obtain ⟨x0, x1, x2, x3, x4, x5, x6, x7, x8⟩ := nine_cells S3
     have Xl : X < wr.heap.size := lt_of_block S3
     have Bl : B < wr.heap.size := lt_of_block A1
     have hxW := hx2.below belW
     clear hW hP hcell hkl H1 H2
     go_wp2_with fail
     rw [← HW.out]
     refine (rpart_any x P W hxW hcap sr.rlen sr.flen sr.clen sr.rpw sr.fpw sr.cpw hpft).mono ?_
     rintro e w3 ⟨J, m, rfl, HJ, HM, hb3⟩
     have bel3 : Below w2.heap.size w2 w3 := below_pl hb3 belW
     have A3 := A2.below hb3
     obtain ⟨W4, hW4⟩ : ∃ W4, W4 = w3.alloc (.cells #[.int .i64 J.c, .int .i64 J.t, .int .i64 J.mn, .int .i64 J.mx, .int .i64 J.f, .int .i64 J.l, .int .i64 J.r] 76) := ⟨_, rfl⟩
     have hb4 : Below w3.heap.size w3 W4 := by rw [hW4]; exact (Below.refl _ _).alloc (Nat.le_refl _) _
     have A4 := A3.below hb4
     have bel4 : Below w2.heap.size w2 W4 := below_pl hb4 bel3
     have HW4 := hide hW4
     obtain ⟨a0, a1, a2, a3, a4, a5, a6⟩ := A3.cells
     have Bl3 : B < w3.heap.size := lt_of_block A3
     clear hW4 x0 x1 x2 x3 x4 x5 x6 x7 x8 c0 c1 c2 hb3 hbW belW A2 A1 belr Xl Bl hxW S3
     go_wp2_with fail
     rw [← HW4.out]
     refine (join_let s J W4).mono ?_
     rintro e w5 ⟨Q, HQ, rfl, hb5⟩
     have A5 := A4.below hb5
     have bel5 : Below w2.heap.size w2 w5 := below_pl hb5 bel4
     obtain ⟨g0, g1, g2, g3, g4, g5, g6⟩ := A5.cells
     obtain ⟨y0, y1, y2, y3, y4, y5, y6⟩ := seven_thaw A5
     have hmm : m ≤ 500 := by rw [HM.out]; exact hpc
     have hw1 : IntKind.i64.wrap ((N : Int) + (m : Int)) = ((N + m : Nat) : Int) := by rw [IntKind.wrap_i64]; omega
     have hw2 : IntKind.i64.wrap (((N + m : Nat) : Int)) = ((N + m : Nat) : Int) := by rw [IntKind.wrap_i64]; omega
     have T3 : Hid (Q = Grain.rdS x.s (l.take (k + 1))) := by show _ = _; rw [T1.out, HQ.out, HJ.out]
     have T4 : Hid (N + m = Grain.rdN x.s (l.take (k + 1))) := by show _ = _; rw [T2.out, HM.out]
     clear T1 T2 HJ HQ a0 a1 a2 a3 a4 a5 a6 A3 A4 bel3 bel4 hb4 hb5 HW4 HW
     go_wp2
     go_roundw
     case rel => exact ⟨k + 1, N + m, Q, by omega, by go_num, by go_num, by omega, A5.set Q, below_set7 bel5 (by have := HBB.out; omega) _ _ _ _ _ _ _, T3, T4⟩
     case measure => simp [intOf]; omega
    ·obtain ⟨g0, g1, g2, g3, g4, g5, g6⟩ := A1.cells
     have Z3 := Z2.below belr
     obtain ⟨z0, z1, z2, z3, z4, z5, z6⟩ := Z3.cells
     obtain ⟨y0, y1, y2, y3, y4, y5, y6⟩ := seven_thaw Z3
     have ek : l.take k = l := List.take_of_length_le (by have := HN.out; omega)
     have HR2 : Hid (Grain.read x.s l = (s, (N : Int), 0)) := by
      show _ = _
      rw [HR.out, H1.out, H2.out, ek]
     clear HR H1 H2 ek
     go_wp2
     exact bodyPost_ret (v := .tuple #[.agg #[.int .i64 s.c, .int .i64 s.t, .int .i64 s.mn, .int .i64 s.mx, .int .i64 s.f, .int .i64 s.l, .int .i64 s.r], .int .i64 N, .int .i64 0]) (by simp [results, Tryz.results143, go_sem, z0, z1, z2, z3, z4, z5, z6]) rfl ⟨s, N, 0, rfl, HR2, below_set7 (below_pl belr bel2) (by have := HX.out; omega) _ _ _ _ _ _ _⟩
 ·have HR : Hid (Grain.read x.s l = (Grain.zero, 0, E)) := by
   show _ = _
   rw [Grain.read, ← HE.out, if_pos hw]
  have hne : (E != 0) = true := by simpa using hw
  obtain ⟨z0, z1, z2, z3, z4, z5, z6⟩ := Z1.cells
  obtain ⟨y0, y1, y2, y3, y4, y5, y6⟩ := seven_thaw Z1
  go_wp2
  exact bodyPost_ret (v := .tuple #[.agg #[.int .i64 0, .int .i64 0, .int .i64 0, .int .i64 0, .int .i64 0, .int .i64 0, .int .i64 0], .int .i64 0, .int .i64 E]) (by simp [results, Tryz.results143, go_sem, z0, z1, z2, z3, z4, z5, z6]) rfl ⟨Grain.zero, 0, E, rfl, HR, below_set7 bel1 (by have := HX.out; omega) _ _ _ _ _ _ _⟩
end Go.Proofs.YtoldmigappbjcaaGreatDoor
namespace Go.GrainU
open Go.RowKit
def only (l : List (ByteArray × ByteArray)) (ks : List ByteArray) : List (ByteArray × ByteArray) := l.filter fun x => has ks x.1
theorem only_take {l : List (ByteArray × ByteArray)} {ks : List ByteArray} {k : Nat} (h : k < l.length) : only (l.take (k + 1)) ks = if has ks (lk l k) = true then only (l.take k) ks ++ [(lk l k, lv l k)] else only (l.take k) ks := by
 rw [take_lab h]
 unfold only
 rw [List.filter_append]
 cases hh : has ks (lk l k) <;> simp [hh]
theorem only_len (l : List (ByteArray × ByteArray)) (ks : List ByteArray) : (only l ks).length ≤ l.length := List.length_filter_le _ _
theorem own_llen {w : World} {base e N : Nat} {v : Value} {l : List (ByteArray × ByteArray)} (h : w.ownsRow base e 2 v N (lcells l)) : N = l.length := by
 have := h.1; rw [lcells_length] at this; omega
end Go.GrainU
namespace Go.Proofs.YtoldmigappbjcaaGreatDoor
open Go.RowKit Go.GrainU
theorem Tryz.infoLabel : (Tryz.prog.info? 88).map (fun i => (i.zero, i.size, i.bytes)) = some (some (.agg #[.string ⟨#[]⟩, .string ⟨#[]⟩]), 2, 32) := by kernel_rfl
end Go.Proofs.YtoldmigappbjcaaGreatDoor
namespace Go.GrainU
open Go.RowKit
abbrev Lb := List (ByteArray × ByteArray)
abbrev Ln := Lb × List (Int × Int)
abbrev Cl := Lb × Int
def chk (e : Ex) (time : Int) : Int := if (wr e 1 0).1 = 0 then (if typ e = 0 then (if time < 0 ∨ 1000000 < time then 3 else 0) else typ e) else (wr e 1 0).1
def valP (b : ByteArray) (s : Grain.Sm) : Int × Bool :=
 if s.c < 1 then (0, false) else if b = lit [97, 118, 103] then (s.t.tdiv s.c, true) else if b = lit [99, 111, 117, 110, 116] then (s.c, true) else if b = lit [102, 105, 114, 115, 116] then (s.f, true) else if b = lit [108, 97, 115, 116] then (s.l, true)
 else if b = lit [109, 97, 120] then (s.mx, true) else if b = lit [109, 105, 110] then (s.mn, true) else if b = lit [114, 105, 115, 101] then (s.r, true) else if b = lit [115, 117, 109] then (s.t, true) else (0, false)
def winV (x : Ln) (h : Hd) (time : Int) : Int × Bool := valP h.word (Grain.of (Grain.win x.2 (time - h.range) time))
def winX (x : Ln) (h : Hd) (time : Int) : List Cl :=
 if says x.1 h.ms = true then (if (winV x h time).2 = true then [(x.1, (winV x h time).1)] else []) else []
def winC : List Ln → Hd → Int → List Cl
 | [], _, _ => []
 | x :: r, h, time => winX x h time ++ winC r h time
structure Mn where
 num : Bool
 cs : List Cl
def MC : Int := 1125899906842624
def big (v : Int) : Bool := decide (MC < v ∨ v < -MC)
def wkd (s : ByteArray) (a b : Int) : Option Int :=
 if s = lit [43] then (if big (a + b) = true then none else some (a + b))
 else if s = lit [45] then (if big (a - b) = true then none else some (a - b))
 else if a ≠ 0 ∧ MC / (max a (-a)) < max b (-b) then none else some (a * b)
def cellOf : List Cl → Lb → Option Int
 | [], _ => none
 | c :: r, s => if cmpS c.1 s = 0 then some c.2 else cellOf r s
def cl0 (l : List Cl) : Int := (l.getD 0 ([], 0)).2
def atM (m : Mn) (s : Lb) : Option Int := if m.num = true then some (cl0 m.cs) else cellOf m.cs s
def binA (a b : Mn) (w : ByteArray) (acc : List Cl) : List Cl → Option (List Cl)
 | [] => some acc
 | c :: r =>
  match atM a c.1, atM b c.1 with
  | some x, some y =>
   match wkd w x y with
   | none => none
   | some v => binA a b w (acc ++ [(c.1, v)]) r
  | _, _ => binA a b w acc r
def fromM (a b : Mn) : Mn := if a.num = true then b else a
def binM (a b : Mn) (w : ByteArray) : Option Mn := (binA a b w [] (fromM a b).cs).map fun l => ⟨(fromM a b).num, l⟩
def tog (w : ByteArray) (a b : Int) : Int := if w = lit [109, 97, 120] then max a b else if w = lit [109, 105, 110] then min a b else a + b
def putA (w : ByteArray) (s : Lb) (v : Int) : List Cl → Option (List Cl)
 | [] => some [(s, v)]
 | c :: r =>
  if cmpS c.1 s < 0 then (putA w s v r).map (c :: ·)
  else if cmpS c.1 s = 0 then (if big (tog w c.2 v) = true then none else some ((c.1, tog w c.2 v) :: r))
  else some ((s, v) :: c :: r)
def one1 (w : ByteArray) (v : Int) : Int := if w = lit [99, 111, 117, 110, 116] then 1 else v
def allA (w : ByteArray) (ks : List ByteArray) (out : List Cl) : List Cl → Option (List Cl)
 | [] => some out
 | c :: r =>
  match putA w (only c.1 ks) (one1 w c.2) out with
  | none => none
  | some out' => allA w ks out' r
/-! what values come tq -/
def Fine (c : Cl) : Prop := -MC ≤ c.2 ∧ c.2 ≤ MC ∧ c.1.length ≤ 4
def Srt (l : List Cl) : Prop := l.Pairwise fun a b => cmpS a.1 b.1 = -1
theorem cmpS_cases (a b : Lb) : cmpS a b = -1 ∨ (cmpS a b = 0 ∧ a = b) ∨ cmpS a b = 1 := by rw [cmpS_L]; exact cmpL_cases a b
theorem cmpS_zero (a b : Lb) : cmpS a b = 0 ↔ a = b := by rw [cmpS_L]; exact cmpL_zero a b
theorem cmpS_back (a b : Lb) : cmpS b a = - cmpS a b := by rw [cmpS_L, cmpS_L]; exact cmpL_back a b
theorem cmpS_trans {a b c : Lb} (h : cmpS a b = -1) (h' : cmpS b c = -1) : cmpS a c = -1 := by rw [cmpS_L] at *; exact cmpL_trans a b c h h'
structure SmOk (s : Grain.Sm) (k : Int) : Prop where
 c : s.c = k
 t : -(1000000000 * k) ≤ s.t ∧ s.t ≤ 1000000000 * k
 mn : -1000000000 ≤ s.mn ∧ s.mn ≤ 1000000000
 mx : -1000000000 ≤ s.mx ∧ s.mx ≤ 1000000000
 f : -1000000000 ≤ s.f ∧ s.f ≤ 1000000000
 l : -1000000000 ≤ s.l ∧ s.l ≤ 1000000000
 r : -(3000000000 * k) ≤ s.r ∧ s.r ≤ 3000000000 * k
theorem ofN_ok (l : List (Int × Int)) (h : ∀ x ∈ l, -1000000000 ≤ x.2 ∧ x.2 ≤ 1000000000) : ∀ k : Nat, k ≤ l.length → k ≤ 500 → SmOk (Grain.ofN l k) k := by
 intro k
 induction k with
 | zero => intro _ _; exact ⟨rfl, by simp [Grain.ofN, Grain.zero], by simp [Grain.ofN, Grain.zero], by simp [Grain.ofN, Grain.zero], by simp [Grain.ofN, Grain.zero], by simp [Grain.ofN, Grain.zero], by simp [Grain.ofN, Grain.zero]⟩
 | succ k ih =>
  intro hk h5
  have I := ih (by omega) (by omega)
  have hv : -1000000000 ≤ Grain.vl l k ∧ Grain.vl l k ≤ 1000000000 := by
   have : Grain.vl l k = (l[k]'(by omega)).2 := by simp [Grain.vl, List.getD, List.getElem?_eq_getElem (show k < l.length by omega)]
   rw [this]
   exact h _ (List.getElem_mem _)
  obtain ⟨v, e⟩ : ∃ v, v = Grain.vl l k := ⟨_, rfl⟩
  rw [← e] at hv
  have hs : Grain.ofN l (k + 1) = Grain.join (Grain.ofN l k) (Grain.one v) := by rw [e]; rfl
  rw [hs]
  by_cases h0 : k = 0
  ·subst h0
   rw [Grain.join_zero_left _ _ I.c]
   refine ⟨rfl, ?_, ?_, ?_, ?_, ?_, ?_⟩ <;> simp only [Grain.one] <;> omega
  ·have hc := I.c
   obtain ⟨t1, t2⟩ := I.t
   obtain ⟨n1, n2⟩ := I.mn
   obtain ⟨x1, x2⟩ := I.mx
   obtain ⟨f1, f2⟩ := I.f
   obtain ⟨l1, l2⟩ := I.l
   obtain ⟨r1, r2⟩ := I.r
   rw [Grain.join_full _ _ (by omega) (by simp [Grain.one])]
   have hr : -2000000000 ≤ Grain.rise (Grain.ofN l k).l v ∧ Grain.rise (Grain.ofN l k).l v ≤ 2000000000 := by
    unfold Grain.rise
    split
    ·omega
    ·rw [Grain.wr_in (by omega) (by omega)]; omega
   obtain ⟨q, hq⟩ : ∃ q, q = Grain.rise (Grain.ofN l k).l v := ⟨_, rfl⟩
   rw [← hq] at hr
   refine ⟨?_, ?_, ?_, ?_, ?_, ?_, ?_⟩
   ·show Grain.wr ((Grain.ofN l k).c + 1) = ((k + 1 : Nat) : Int)
    rw [hc, Grain.wr_in (by omega) (by omega)]; omega
   ·show -(1000000000 * ((k + 1 : Nat) : Int)) ≤ Grain.wr ((Grain.ofN l k).t + v) ∧ Grain.wr ((Grain.ofN l k).t + v) ≤ 1000000000 * ((k + 1 : Nat) : Int)
    rw [Grain.wr_in (by omega) (by omega)]; omega
   ·show -1000000000 ≤ (if v < (Grain.ofN l k).mn then v else (Grain.ofN l k).mn) ∧ (if v < (Grain.ofN l k).mn then v else (Grain.ofN l k).mn) ≤ 1000000000
    split <;> omega
   ·show -1000000000 ≤ (if v > (Grain.ofN l k).mx then v else (Grain.ofN l k).mx) ∧ (if v > (Grain.ofN l k).mx then v else (Grain.ofN l k).mx) ≤ 1000000000
    split <;> omega
   ·exact ⟨f1, f2⟩
   ·exact hv
   ·show -(3000000000 * ((k + 1 : Nat) : Int)) ≤ Grain.wr (Grain.wr ((Grain.ofN l k).r + Grain.rise (Grain.ofN l k).l v) + 0) ∧ Grain.wr (Grain.wr ((Grain.ofN l k).r + Grain.rise (Grain.ofN l k).l v) + 0) ≤ 3000000000 * ((k + 1 : Nat) : Int)
    rw [← hq, Grain.wr_in (x := (Grain.ofN l k).r + q) (by omega) (by omega), Grain.wr_in (by omega) (by omega)]
    omega
theorem of_ok {l : List (Int × Int)} (h : ∀ x ∈ l, -1000000000 ≤ x.2 ∧ x.2 ≤ 1000000000) (h5 : l.length ≤ 500) : SmOk (Grain.of l) l.length := ofN_ok l h _ (Nat.le_refl _) h5
def W1 : Int := 1500000000000
theorem tdiv_bd {a b k : Int} (hb : 1 ≤ b) (h1 : -k ≤ a) (h2 : a ≤ k) : -k ≤ a.tdiv b ∧ a.tdiv b ≤ k := by
 have hk : 0 ≤ k := by omega
 rcases Int.le_total 0 a with h | h
 ·have e1 := Int.tdiv_eq_ediv_of_nonneg (b := b) h
  rw [e1]
  have e2 : a / b ≤ a := Int.ediv_le_self b h
  have e3 : 0 ≤ a / b := Int.ediv_nonneg h (by omega)
  omega
 ·have e1 : a.tdiv b = -((-a).tdiv b) := by rw [Int.neg_tdiv]; omega
  have e4 := Int.tdiv_eq_ediv_of_nonneg (b := b) (show 0 ≤ -a by omega)
  rw [e1, e4]
  have e2 : (-a) / b ≤ -a := Int.ediv_le_self b (by omega)
  have e3 : 0 ≤ (-a) / b := Int.ediv_nonneg (by omega) (by omega)
  omega
theorem valP_bd {s : Grain.Sm} {k : Int} (h : SmOk s k) (hk : k ≤ 500) (h0 : 0 ≤ k) (b : ByteArray) : -W1 ≤ (valP b s).1 ∧ (valP b s).1 ≤ W1 := by
 obtain ⟨hc, ⟨t1, t2⟩, ⟨n1, n2⟩, ⟨x1, x2⟩, ⟨f1, f2⟩, ⟨l1, l2⟩, ⟨r1, r2⟩⟩ := h
 unfold valP W1
 split
 ·simp
 ·have := tdiv_bd (a := s.t) (b := s.c) (k := 1500000000000) (by omega) (by omega) (by omega)
  repeat' split
  all_goals first | exact this | simp only [] ; omega
open Go.RowKit
structure CT where
 ser : Lb
 v : Int
 sa : Option Addr
 sc : Nat
def CT.cl (c : CT) : Cl := (c.ser, c.v)
def ct0 : CT := ⟨[], 0, none, 0⟩
def ct (l : List CT) (k : Nat) : CT := l.getD k ct0
def ccells : List CT → List Value
 | [] => []
 | c :: r => .slice c.sa c.ser.length c.sc :: .int .i64 c.v :: ccells r
theorem ccells_length (l : List CT) : (ccells l).length = l.length * 2 := by
 induction l with
 | nil => rfl
 | cons s r ih => simp only [ccells, List.length_cons, ih]; omega
theorem ccells_append (a b : List CT) : ccells (a ++ b) = ccells a ++ ccells b := by
 induction a with
 | nil => rfl
 | cons x r ih => simp [ccells, ih]
theorem ccells_at (l : List CT) : ∀ k, k < l.length → (ccells l)[k * 2]? = some (.slice (ct l k).sa (ct l k).ser.length (ct l k).sc) ∧ (ccells l)[k * 2 + 1]? = some (.int .i64 (ct l k).v) := by
 induction l with
 | nil => intro k hk; simp at hk
 | cons s r ih =>
  intro k hk
  match k with
  | 0 => simp [ccells, ct]
  | k + 1 =>
   have := ih k (by simpa using hk)
   rw [show (k + 1) * 2 = k * 2 + 1 + 1 from by omega]
   simpa [ccells, ct] using this
theorem seg_cell {w : World} {ao : Option Addr} {l : List CT} (h : Seg w ao (ccells l)) {k : Nat} (hk : k < l.length) :
  ∃ b off, ao = some ⟨b, off, none⟩ ∧ b < w.heap.size ∧ ∀ j, j < l.length → w.cell? ⟨b, off + j * 2, none⟩ = some (.slice (ct l j).sa (ct l j).ser.length (ct l j).sc) ∧ w.cell? ⟨b, off + j * 2 + 1, none⟩ = some (.int .i64 (ct l j).v) := by
 have hs := ccells_length l
 rcases h with h | ⟨b, off, rfl, h⟩
 ·rw [h] at hs; simp at hs; omega
 ·have hc : ∀ j, j < l.length → w.cell? ⟨b, off + j * 2, none⟩ = some (.slice (ct l j).sa (ct l j).ser.length (ct l j).sc) ∧ w.cell? ⟨b, off + j * 2 + 1, none⟩ = some (.int .i64 (ct l j).v) := fun j hj => by
   have := ccells_at l j hj
   exact ⟨(h (j * 2) (by omega)).trans this.1, by rw [Nat.add_assoc]; exact (h (j * 2 + 1) (by omega)).trans this.2⟩
  exact ⟨b, off, rfl, World.block_lt_of_cell? w ⟨b, off + k * 2, none⟩ (hc k hk).1, hc⟩
theorem ct_mem {l : List CT} {k : Nat} (hk : k < l.length) : ct l k ∈ l := by
 simp only [ct, List.getD, List.getElem?_eq_getElem hk, Option.getD_some]; exact List.getElem_mem hk
def cls (l : List CT) : List Cl := l.map CT.cl
theorem cls_len (l : List CT) : (cls l).length = l.length := by simp [cls]
def Typ (w : World) (T : Nat) (ao : Option Addr) : Prop := ∃ b off arr fr, ao = some ⟨b, off, none⟩ ∧ w.heap[b]? = some (.cells arr T fr)
theorem Typ.below {w w' : World} {T : Nat} {ao : Option Addr} (h : Typ w T ao) (hb : Below w.heap.size w w') : Typ w' T ao := by
 obtain ⟨b, off, arr, fr, e, hh⟩ := h
 exact ⟨b, off, arr, fr, e, below_block hb hh⟩
theorem Typ.set {w : World} {T : Nat} {ao : Option Addr} (h : Typ w T ao) (p : Addr) (v : Value) : Typ (w.setCell p v) T ao := by
 obtain ⟨b, off, arr, fr, e, hh⟩ := h
 by_cases hp : p.block = b
 ·subst hp
  have : ∃ arr', (w.setCell p v).heap[p.block]? = some (.cells arr' T fr) := by simp [World.setCell, Array.getElem?_modify, hh]
  obtain ⟨arr', h'⟩ := this
  exact ⟨p.block, off, arr', fr, e, h'⟩
 ·exact ⟨b, off, arr, fr, e, by rw [Below.heap_setCell w p v b (fun h => hp h.symm)]; exact hh⟩
theorem own_typ {w : World} {base T size N n d : Nat} {ao : Option Addr} {xs : List Value} (h : w.ownsRow base T size (.slice ao N d) n xs) : xs = [] ∨ Typ w T ao := by
 rcases h.2 with ⟨_, h2⟩ | ⟨g, cap, cur, hv, _, hh, _⟩
 ·left
  have h1 := h.1
  rw [h2] at h1
  simpa using h1
 ·right
  injection hv with e1 e2 e3
  exact ⟨g, 0, cur, (0, 0), e1, hh⟩
structure CsIn (w : World) (co : Option Addr) (l : List CT) : Prop where
 seg : Seg w co (ccells l)
 ser : ∀ c ∈ l, Seg w c.sa (lcells c.ser)
 ty : ccells l = [] ∨ Typ w 79 co
 tl : ∀ c ∈ l, lcells c.ser = [] ∨ Typ w 88 c.sa
theorem CsIn.below {w w' : World} {co : Option Addr} {l : List CT} (h : CsIn w co l) (hb : Below w.heap.size w w') : CsIn w' co l := ⟨h.seg.below hb, fun c hc => (h.ser c hc).below hb, h.ty.imp id (·.below hb), fun c hc => (h.tl c hc).imp id (·.below hb)⟩
def SegL (w : World) (ao : Option Addr) (l : Lb) : Prop := Seg w ao (lcells l) ∧ (lcells l = [] ∨ Typ w 88 ao)
theorem SegL.below {w w' : World} {ao : Option Addr} {l : Lb} (h : SegL w ao l) (hb : Below w.heap.size w w') : SegL w' ao l := ⟨h.1.below hb, h.2.imp id (·.below hb)⟩
theorem drop_ct {l : List CT} {k : Nat} (h : k < l.length) : l.drop k = ct l k :: l.drop (k + 1) := by
 rw [List.drop_eq_getElem_cons h]
 simp only [ct, List.getD, List.getElem?_eq_getElem h, Option.getD_some]
def SegN (w : World) (r : Option Nat) (ao : Option Addr) (xs : List Value) : Prop :=
 xs = [] ∨ ∃ b off, ao = some ⟨b, off, none⟩ ∧ r ≠ some b ∧ (∃ arr fr, w.heap[b]? = some (.cells arr 88 fr)) ∧ ∀ j, j < xs.length → w.cell? ⟨b, off + j, none⟩ = xs[j]?
theorem SegN.seg {w : World} {r : Option Nat} {ao : Option Addr} {xs : List Value} (h : SegN w r ao xs) : Seg w ao xs := by
 rcases h with h | ⟨b, off, e, _, _, hc⟩
 ·exact .inl h
 ·exact .inr ⟨b, off, e, hc⟩
theorem SegN.typ {w : World} {r : Option Nat} {ao : Option Addr} {xs : List Value} (h : SegN w r ao xs) : xs = [] ∨ Typ w 88 ao := by
 rcases h with h | ⟨b, off, e, _, ⟨arr, fr, hh⟩, hc⟩
 ·exact .inl h
 ·exact .inr ⟨b, off, arr, fr, e, hh⟩
theorem cell_of_block {w w' : World} {b o : Nat} (h : w'.heap[b]? = w.heap[b]?) : w'.cell? ⟨b, o, none⟩ = w.cell? ⟨b, o, none⟩ := by simp [World.cell?, h]
theorem SegN.grown {w w' : World} {r r' : Option Nat} {ao : Option Addr} {xs : List Value} (h : SegN w r ao xs) (hg : w.grownBy w' r) (hr : ∀ g, r' = some g → r = some g ∨ w.heap.size ≤ g) : SegN w' r' ao xs := by
 rcases h with h | ⟨b, off, rfl, hne, ⟨arr, fr, hh⟩, hc⟩
 ·exact .inl h
 ·have hl := lt_of_block hh
  have hb := hg.block b hl (fun e => hne e.symm)
  refine .inr ⟨b, off, rfl, fun e => ?_, ⟨arr, fr, by rw [hb]; exact hh⟩, fun j hj => ?_⟩
  ·rcases hr b e with e1 | e1
   ·exact hne e1
   ·omega
  ·rw [cell_of_block hb]; exact hc j hj
theorem SegN.below {w w' : World} {r : Option Nat} {ao : Option Addr} {xs : List Value} (h : SegN w r ao xs) (hb : Below w.heap.size w w') : SegN w' r ao xs := by
 rcases h with h | ⟨b, off, rfl, hne, ⟨arr, fr, hh⟩, hc⟩
 ·exact .inl h
 ·exact .inr ⟨b, off, rfl, hne, ⟨arr, fr, below_block hb hh⟩, fun j hj => (hb.cell (p := ⟨b, off + j, none⟩) (lt_of_block hh)).trans (hc j hj)⟩
theorem own_base {w : World} {base e size n : Nat} {v : Value} {xs : List Value} (h : w.ownsRow base e size v n xs) : ∀ g, v.ownBlock = some g → base ≤ g ∧ g < w.heap.size := fun g hg => by
 have := h.lt g hg
 exact this
theorem segN_own {w : World} {base size N d : Nat} {ao : Option Addr} {xs : List Value} (h : w.ownsRow base 88 size (.slice ao N d) N xs) {r : Option Nat} (hr : ∀ g, r = some g → g < base) : SegN w r ao xs := by
 by_cases hx : xs = []
 ·exact .inl hx
 ·rcases own_open h with ⟨ao', c, hv, hs, _⟩
  simp only [Value.slice.injEq] at hv
  obtain ⟨rfl, -, rfl⟩ := hv
  rcases hs with hs | ⟨b, off, rfl, hc⟩
  ·exact .inl hs
  ·rcases h.2 with ⟨h0, _⟩ | ⟨g', cap', cur, h0, hb, hh, _⟩
   ·cases h0
   ·injection h0 with e1 e2 e3
    injection e1 with e1
    injection e1 with e1 e4
    subst e1
    refine .inr ⟨b, off, rfl, fun e => ?_, ⟨cur, (0, 0), hh⟩, hc⟩
    have h1 := hr b e
    omega
end Go.GrainU
