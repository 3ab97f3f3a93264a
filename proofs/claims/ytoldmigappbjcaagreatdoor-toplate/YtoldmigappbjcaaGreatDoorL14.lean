import Derived.Defers
import Derived.IntWalk
import Derived.LaidHandle
import Derived.LaidMore
import Derived.Lib.LaidTab
import Derived.MakeChecks
import Derived.Recover
import Derived.Stop.Joined
import Derived.Stop.LaidErr
import Derived.WalkKit
import Derived.Test.YtoldmigappbjcaaGreatDoorL01
import Derived.Test.YtoldmigappbjcaaGreatDoorL02
import Derived.Test.YtoldmigappbjcaaGreatDoorL13
namespace Go.GrainU
open Go.RowKit
theorem pos_lt {s : ByteArray} {r : List UInt8} (h : r <:+ s.data.toList) : pos s r < s.size ↔ r ≠ [] := by
 have := suf_len h
 unfold pos
 constructor
 ·intro h1 h2; rw [h2] at h1; simp at h1
 ·intro h1
  have : 0 < r.length := List.length_pos_iff.2 h1
  omega
end Go.GrainU
namespace Go.Proofs.YtoldmigappbjcaaGreatDoor
open Go.RowKit Go.GrainU
abbrev WPost (s : ByteArray) (B : Nat) (w : World) (e : Ending) (w' : World) : Prop :=
 ((∃ t : ET, prs s.data.toList = .ok t.ex ∧ e = .returned (eval t) ∧ t.In (cut w.heap.size w')) ∨ ∃ f, prs s.data.toList = .error f ∧ e = .panicked [thr s f]) ∧ w.grownBy w' (some B)
set_option maxHeartbeats 4000000 in
theorem rwhole_any (s : ByteArray) (B : Nat) (w0 w : World) (h : Rd 95 w B s ⟨s.data.toList, 0⟩) (hs63 : s.size ≤ 9223372036854775807) (hv : ErrV w0) (hb0 : Below w0.heap.size w0 w) (hB0 : w0.heap.size ≤ B) :
  Calls Tryz.prog 38 #[.pointer (some ⟨B, 0, none⟩)] w (WPost s B w) := by
 have hB := h.lt
 obtain ⟨X, hX⟩ : ∃ X, X = w.heap.size := ⟨_, rfl⟩
 obtain ⟨V, hV⟩ : ∃ V, V = w.alloc (.cells #[.int .i64 0, .int .i64 0, .int .i64 0, .string ⟨#[]⟩, .slice none 0 0, .slice none 0 0, .slice none 0 0] 41) := ⟨_, rfl⟩
 have R0 : Rd 95 V B s ⟨s.data.toList, 0⟩ := by rw [hV]; exact h.alloc _
 have G0 : w.grownBy V (some B) := by rw [hV]; exact grown_trans (World.grownBy.refl _ _) (World.grownBy_alloc _ _ none) (fun _ hk => by cases hk)
 have FX0 : V.heap[X]? = some (.cells #[.int .i64 0, .int .i64 0, .int .i64 0, .string ⟨#[]⟩, .slice none 0 0, .slice none 0 0, .slice none 0 0] 41 (0, 0)) := by rw [hV, hX]; exact heap_alloc_new w _
 have hXB : X ≠ B := by omega
 have hXw : w.heap.size ≤ X := by omega
 have c0 := R0.cells.1
 rw [hV] at c0
 have hlen : s.data.toList.length = s.size := (size_len s).symm
 have HV := hide hV
 have HX := hide hX
 clear hV hX h
 by_cases h1 : 2000 < s.size
 ·have HE : Hid (prs s.data.toList = .error (4, s.size)) := by show _ = _; unfold prs; rw [if_pos (by omega), hlen]
  have h1' : (2000 : Int) < (s.size : Int) := by omega
  clear hlen
  go_enter Tryz.func38, Tryz.ntmps38
  go_wp2_with fail
  refine (throw_any _ _ _).mono ?_
  intro e w2 hh
  rw [hh.1, hh.2]
  clear hh
  go_wp2_with fail
  rw [← HV.out]
  exact ⟨rfl, .inr ⟨_, HE.out, by simp [thr]⟩, G0⟩
 ·have h1' : ¬ (2000 : Int) < (s.size : Int) := by omega
  have hs : s.size ≤ 2000 := by omega
  have HP : Hid (∀ t : ET, ∀ q : St, smm (fct 20) ⟨s.data.toList, 0⟩ = .ok (t.ex, q) → prs s.data.toList = (if skip q.r ≠ [] then .error (2, (skip q.r).length) else if dpr t.ex 20 = true then .error (4, 0) else .ok t.ex)) := by
   intro t q hq
   unfold prs
   rw [if_neg (by omega), hq]
  have HPE : Hid (∀ f, smm (fct 20) ⟨s.data.toList, 0⟩ = .error f → prs s.data.toList = .error f) := by
   intro f hf
   unfold prs
   rw [if_neg (by omega), hf]
  have HSC := hide (sum_any s ⟨s.data.toList, 0⟩ B w0 V R0 hs (by simp) hv (hb0.grown G0 hb0.size (fun j hj => by cases hj; exact hB0)) hB0)
  obtain ⟨S, hS⟩ : ∃ S, S = V.heap.size := ⟨_, rfl⟩
  have hXS : X < S := by rw [hS]; exact lt_of_block FX0
  have hBS : B < S := by rw [hS]; exact R0.lt
  unfold EPost at HSC; rw [← hS] at HSC
  have HS := hide hS
  clear hS hlen h1 hv hb0
  go_enter Tryz.func38, Tryz.ntmps38
  go_wp2_with fail
  rw [← HV.out, ← HX.out]
  refine HSC.out.mono ?_
  rintro e w2 ⟨⟨t, q, hx, rfl, IN2, R2, hq⟩ | ⟨f, hf, rfl⟩, g⟩
  rotate_left
  ·have HE := hide (HPE.out f hf)
   have G := grown_trans G0 g (fun _ hk => .inl hk)
   clear hf
   go_wp2_with fail
   exact ⟨rfl, .inr ⟨_, HE.out, rfl⟩, G⟩
  have HPR := hide (HP.out t q hx)
  have G2 := grown_trans G0 g (fun _ hk => .inl hk)
  have FX2 := grown_block g FX0 hXB
  have hS2 : S ≤ w2.heap.size := by have := g.size; have := HS.out; omega
  clear g hx G0 FX0 R0 HSC c0 HP HPE
  obtain ⟨Y, hY⟩ : ∃ Y, Y = w2.heap.size := ⟨_, rfl⟩
  have hYB : Y ≠ B := by omega
  obtain ⟨w3, hw3⟩ : ∃ v, v = w2.alloc (.cells #[.int .i64 t.hd.kind, .int .i64 t.hd.n, .int .i64 t.hd.range, .string t.hd.word, .slice t.sp.ma t.hd.ms.length t.sp.mc, .slice t.sp.ba t.hd.bs.length t.sp.bc, .slice t.sp.ka t.kids.length t.sp.kc] 41) := ⟨_, rfl⟩
  have R3 : Rd 95 w3 B s q := by rw [hw3]; exact R2.alloc _
  have G3 : w.grownBy w3 (some B) := by rw [hw3]; exact grown_trans G2 (World.grownBy_alloc _ _ none) (fun _ hk => by cases hk)
  have FX3 : w3.heap[X]? = some (.cells #[.int .i64 0, .int .i64 0, .int .i64 0, .string ⟨#[]⟩, .slice none 0 0, .slice none 0 0, .slice none 0 0] 41 (0, 0)) := by rw [hw3, Below.heap_alloc _ _ _ (by omega)]; exact FX2
  have FY3 : w3.heap[Y]? = some (.cells #[.int .i64 t.hd.kind, .int .i64 t.hd.n, .int .i64 t.hd.range, .string t.hd.word, .slice t.sp.ma t.hd.ms.length t.sp.mc, .slice t.sp.ba t.hd.bs.length t.sp.bc, .slice t.sp.ka t.kids.length t.sp.kc] 41 (0, 0)) := by rw [hw3, hY]; exact heap_alloc_new w2 _
  have IN3 : t.In (cut S w3) := by rw [hw3]; exact IN2.grown (B := B) (grown_trans (World.grownBy.refl _ _) (World.grownBy_alloc _ _ none) (fun _ hk => by cases hk)) hBS
  have HW3 := hide hw3
  have HY := hide hY
  clear hw3 hY R2 G2 FX2 IN2
  obtain ⟨c0, c1, c2⟩ := R3.cells
  have hsuf := (skip_suf q.r).trans R3.suf
  have hpl := pos_lt hsuf
  have HBG := hide (rbegin_any s q B w3 R3 hs)
  obtain ⟨K, hK⟩ : ∃ K, K = pos s (skip q.r) := ⟨_, rfl⟩
  rw [← hK] at HBG hpl
  have HK := hide hK
  have hsuf' := suf_len hsuf
  clear hK hsuf c1 c2
  obtain ⟨y0, y1, y2, y3, y4, y5, y6⟩ := seven_cells FY3
  unfold eval
  go_wp2_with fail
  rw [← HW3.out, ← HY.out]
  refine HBG.out.mono ?_
  intro e w4 hh
  rw [hh.1, hh.2]
  clear hh HBG
  by_cases h2 : K < s.size
  ·have HE : Hid (prs s.data.toList = .error (2, (skip q.r).length)) := by show _ = _; rw [HPR.out, if_pos (hpl.1 h2)]
   have h2' : (K : Int) < (s.size : Int) := by omega
   clear hpl
   go_wp2_with fail
   refine (throw_any _ _ w3).mono ?_
   intro e w5 hh
   rw [hh.1, hh.2]
   clear hh
   go_wp2_with fail
   exact ⟨rfl, .inr ⟨_, HE.out, by rw [HK.out]; rfl⟩, G3⟩
  ·have h2' : ¬ (K : Int) < (s.size : Int) := by omega
   have hnil : skip q.r = [] := by
    rcases Classical.em (skip q.r = []) with e | e
    ·exact e
    ·exact absurd (hpl.2 e) h2
   have HKS : Hid (K = s.size) := by show _ = _; rw [HK.out, hnil]; simp [pos]
   have HDP := hide (deeper_any t 20 w3 (ET.In.whole IN3) (by omega))
   have HPR2 : Hid (prs s.data.toList = if dpr t.ex 20 = true then .error (4, 0) else .ok t.ex) := by show _ = _; rw [HPR.out, if_neg (by rw [hnil]; simp)]
   unfold eval at HDP
   clear hpl hnil HPR
   rw [show ((20 : Nat) : Int) = 20 from rfl] at HDP
   go_wp2_with fail
   refine HDP.out.mono ?_
   rintro e w5 ⟨rfl, b5⟩
   have G5 : w.grownBy w5 (some B) := grown_trans G3 (grown_of_below b5) (fun _ hk => by cases hk)
   have FX5 := below_block b5 FX3
   have FY5 := below_block b5 FY3
   have IN5 : t.In (cut S w5) := IN3.grown (B := B) (grown_trans (World.grownBy.refl _ _) (grown_of_below b5) (fun _ hk => by cases hk)) hBS
   clear y0 y1 y2 y3 y4 y5 y6 b5 G3 FX3 FY3 IN3 HDP c0
   obtain ⟨y0, y1, y2, y3, y4, y5, y6⟩ := seven_cells FY5
   cases hd : dpr t.ex 20 with
   | true =>
    have HE : Hid (prs s.data.toList = .error (4, 0)) := by show _ = _; rw [HPR2.out, hd]; rfl
    clear hd HPR2
    go_wp2_with fail
    refine (throw_any _ _ w5).mono ?_
    intro e w6 hh
    rw [hh.1, hh.2]
    clear hh
    go_wp2_with fail
    exact ⟨rfl, .inr ⟨_, HE.out, by rw [HKS.out]; simp [thr]⟩, G5⟩
   | false =>
    have HE : Hid (prs s.data.toList = .ok t.ex) := by show _ = _; rw [HPR2.out, hd]; rfl
    obtain ⟨z0, z1, z2, z3, z4, z5, z6⟩ := seven_cells FX5
    obtain ⟨u0, u1, u2, u3, u4, u5, u6⟩ := thaw7 FX5
    have HGF := hide (put7_grown (t := t) G5 (X := X) hXw)
    have HIN := hide (ET.In.low (b' := w.heap.size) (by omega) t (put7_in (t := t) IN5 (X := X) (by omega)))
    clear hd HPR2 G5 FX5 FY5 IN5
    unfold put7 at HGF HIN
    go_wp2
    exact bodyPost_ret (v := eval t) (by simp [eval, results, Tryz.results38, go_sem, z0, z1, z2, z3, z4, z5, z6]) rfl ⟨.inl ⟨t, HE.out, rfl, HIN.out⟩, HGF.out⟩
theorem assert_thrown (W : World) (v : Value) : (Instr.typeAssert (.iface 121 v) 20 121 true).run Tryz.prog W = .ok (.tuple #[v, .bool true]) W := by kernel_rfl
set_option maxRecDepth 20000 in
set_option maxHeartbeats 1000000 in
theorem caught_any (a b : Int) (w : World) :
  Calls Tryz.prog 37 #[.iface 121 (.agg #[.int .i64 a, .int .i64 b])] w fun e w' => e = .returned (.agg #[.int .i64 a, .int .i64 b]) ∧ Below w.heap.size w w' := by
 have hta := assert_thrown
 go_enter Tryz.func37, Tryz.ntmps37
 go_wp2
 exact bodyPost_ret (v := .agg #[.int .i64 a, .int .i64 b]) (by simp [results, Tryz.results37, go_sem]) rfl ⟨rfl, ((Below.refl _ _).alloc (Nat.le_refl _) _).alloc (by simp) _⟩
open Go.RowKit Go.GrainU
set_option maxRecDepth 20000 in
set_option maxHeartbeats 2000000 in
theorem catch_idle (p q : Addr) (w : World) :
  CallsD Tryz.prog 36 #[.pointer (some p), .pointer (some q)] .returning w fun e u' w' => e = .returned (.tuple #[]) ∧ u' = .returning ∧ w' = w := by
 refine callsD_of_wpS Tryz.func36 rfl fun c₀ cs hu => ?_
 apply wpS_seq
 apply wpS_region
 simp [wpOpsS, go_sem, recoverD, hu, Tryz.ntmps36, Exit.thenS]
 have e1 : (#[Value.pointer (some p), Value.pointer (some q)] ++ ((Array.replicate 7 undef).setIfInBounds 1 Value.nilIface).setIfInBounds 0 Value.nilIface) = #[Value.pointer (some p), Value.pointer (some q), Value.nilIface, Value.nilIface, undef, undef, undef, undef, undef] := rfl
 rw [e1]
 refine wpS_of_wp ?_
 go_wp2
 cases c₀
 simp_all [bodyPostS, results, Tryz.results36]
set_option maxRecDepth 20000 in
set_option maxHeartbeats 2000000 in
theorem catch_panicking (P Q : Nat) (a b : Int) (older : List PanicEntry) (w : World) (hPQ : P ≠ Q) (x0 x1 x2 x3 x4 x5 x6 y0 y1 : Value) (FP : w.heap[P]? = some (.cells #[x0, x1, x2, x3, x4, x5, x6] 41 (0, 0))) (FQ : w.heap[Q]? = some (.cells #[y0, y1] 43 (0, 0))) :
  CallsD Tryz.prog 36 #[.pointer (some ⟨P, 0, none⟩), .pointer (some ⟨Q, 0, none⟩)] (.panicking ({ v := .iface 121 (.agg #[.int .i64 a, .int .i64 b]), recovered := false } :: older)) w fun e u' w' => e = .returned (.tuple #[]) ∧ u' = .panicking ({ v := .iface 121 (.agg #[.int .i64 a, .int .i64 b]), recovered := true } :: older) ∧ ∃ w1, Below w.heap.size w w1 ∧ w' = (((((((((w1.setCell ⟨P, 0, none⟩ (.int .i64 0)).setCell ⟨P, 1, none⟩ (.int .i64 0)).setCell ⟨P, 2, none⟩ (.int .i64 0)).setCell ⟨P, 3, none⟩ (.string ⟨#[]⟩)).setCell ⟨P, 4, none⟩ (.slice none 0 0)).setCell ⟨P, 5, none⟩ (.slice none 0 0)).setCell ⟨P, 6, none⟩ (.slice none 0 0)).setCell ⟨Q, 0, none⟩ (.int .i64 a)).setCell ⟨Q, 1, none⟩ (.int .i64 b)) := by
 refine callsD_of_wpS Tryz.func36 rfl fun c₀ cs hu => ?_
 apply wpS_seq
 apply wpS_region
 simp [wpOpsS, go_sem, recoverD, hu, Tryz.ntmps36, Exit.thenS]
 have e1 : (#[Value.pointer (some ⟨P, 0, none⟩), Value.pointer (some ⟨Q, 0, none⟩)] ++ ((Array.replicate 7 undef).setIfInBounds 1 (Value.iface 121 (Value.agg #[Value.int IntKind.i64 a, Value.int IntKind.i64 b]))).setIfInBounds 0 (Value.iface 121 (Value.agg #[Value.int IntKind.i64 a, Value.int IntKind.i64 b]))) = #[Value.pointer (some ⟨P, 0, none⟩), Value.pointer (some ⟨Q, 0, none⟩), Value.iface 121 (Value.agg #[Value.int IntKind.i64 a, Value.int IntKind.i64 b]), Value.iface 121 (Value.agg #[Value.int IntKind.i64 a, Value.int IntKind.i64 b]), undef, undef, undef, undef, undef] := rfl
 rw [e1]
 refine wpS_of_wp ?_
 go_wp2_with fail
 refine (caught_any a b w).mono ?_
 rintro e w1 ⟨rfl, b1⟩
 have FP1 := below_block b1 FP
 have FQ1 := below_block b1 FQ
 obtain ⟨p0, p1, p2, p3, p4, p5, p6⟩ := seven_cells FP1
 obtain ⟨u0, u1, u2, u3, u4, u5, u6⟩ := thaw7 FP1
 obtain ⟨q0, q1⟩ := two_cells FQ1
 have t0 : w1.frozen? ⟨Q, 0, none⟩ = false := by simp [World.frozen?, FQ1]
 have t1 : w1.frozen? ⟨Q, 1, none⟩ = false := by simp [World.frozen?, FQ1]
 have HB := hide b1
 clear b1 FP FQ FP1 FQ1
 go_wp2
 cases c₀
 simp_all [bodyPostS, results, Tryz.results36]
 exact ⟨w1, HB.out, rfl⟩
abbrev PrPost (s : ByteArray) (w : World) (e : Ending) (w' : World) : Prop :=
 ((∃ t : ET, prs s.data.toList = .ok t.ex ∧ e = .returned (.tuple #[eval t, .agg #[.int .i64 0, .int .i64 0]]) ∧ t.In (cut w.heap.size w')) ∨ ∃ f : Flt, prs s.data.toList = .error f ∧ e = .returned (.tuple #[.agg #[.int .i64 0, .int .i64 0, .int .i64 0, .string ⟨#[]⟩, .slice none 0 0, .slice none 0 0, .slice none 0 0], .agg #[.int .i64 f.1, .int .i64 (s.size - f.2 : Nat)]])) ∧ Below w.heap.size w w'
theorem door_ret (s : ByteArray) (t : ET) (P : Nat) (w w1 : World) (x0 x1 x4 x5 x6 x7 x8 x9 : Value) (hx : prs s.data.toList = .ok t.ex) (FP : w1.heap[P]? = some (.cells #[.int .i64 t.hd.kind, .int .i64 t.hd.n, .int .i64 t.hd.range, .string t.hd.word, .slice t.sp.ma t.hd.ms.length t.sp.mc, .slice t.sp.ba t.hd.bs.length t.sp.bc, .slice t.sp.ka t.kids.length t.sp.kc] 41 (0, 0))) (FQ : w1.heap[P + 1]? = some (.cells #[.int .i64 0, .int .i64 0] 43 (0, 0))) (hin : t.In (cut w.heap.size w1)) (hb : Below w.heap.size w w1) :
  Leaves Tryz.prog Tryz.f15 #[x0, x1, .pointer (some ⟨P, 0, none⟩), .pointer (some ⟨P + 1, 0, none⟩), x4, x5, x6, x7, x8, x9] (PrPost s w) [{ target := .fn (.func 36) #[.pointer (some ⟨P, 0, none⟩), .pointer (some ⟨P + 1, 0, none⟩)], args := #[] }] .returning w1 := by
 refine leaves_cons (f := 36) (args := #[.pointer (some ⟨P, 0, none⟩), .pointer (some ⟨P + 1, 0, none⟩)]) (by simp) (by simp [go_sem]) ?_
 refine (catch_idle _ _ _).mono ?_
 rintro e u' w'' ⟨rfl, rfl, rfl⟩
 obtain ⟨p0, p1, p2, p3, p4, p5, p6⟩ := seven_cells FP
 obtain ⟨q0, q1, _, _⟩ := two_cells FQ
 refine ⟨.tuple #[eval t, .agg #[.int .i64 0, .int .i64 0]], ?_, .inl ⟨t, hx, rfl, hin⟩, hb⟩
 simp [eval, results, Tryz.results15, go_sem, p0, p1, p2, p3, p4, p5, p6, q0, q1]
theorem door_thrown (s : ByteArray) (f : Flt) (P : Nat) (w w1 : World) (x0 x1 x4 x5 x6 x7 x8 x9 : Value) (y0 y1 y2 y3 y4 y5 y6 z0 z1 : Value) (hx : prs s.data.toList = .error f) (FP : w1.heap[P]? = some (.cells #[y0, y1, y2, y3, y4, y5, y6] 41 (0, 0))) (FQ : w1.heap[P + 1]? = some (.cells #[z0, z1] 43 (0, 0))) (hb : Below w.heap.size w w1) (hP : w.heap.size ≤ P) :
  Leaves Tryz.prog Tryz.f15 #[x0, x1, .pointer (some ⟨P, 0, none⟩), .pointer (some ⟨P + 1, 0, none⟩), x4, x5, x6, x7, x8, x9] (PrPost s w) [{ target := .fn (.func 36) #[.pointer (some ⟨P, 0, none⟩), .pointer (some ⟨P + 1, 0, none⟩)], args := #[] }] (.panicking [thr s f]) w1 := by
 refine leaves_cons (f := 36) (args := #[.pointer (some ⟨P, 0, none⟩), .pointer (some ⟨P + 1, 0, none⟩)]) (by simp) (by simp [go_sem]) ?_
 refine (catch_panicking P (P + 1) f.1 (s.size - f.2 : Nat) [] w1 (by omega) _ _ _ _ _ _ _ _ _ FP FQ).mono ?_
 rintro e u' w'' ⟨rfl, rfl, w2, b2, rfl⟩
 have FP2 := below_block b2 FP
 have FQ2 := below_block b2 FQ
 have hb2 : Below w.heap.size w w2 := hb.trans (b2.mono hb.size)
 refine ⟨.tuple #[.agg #[.int .i64 0, .int .i64 0, .int .i64 0, .string ⟨#[]⟩, .slice none 0 0, .slice none 0 0, .slice none 0 0], .agg #[.int .i64 f.1, .int .i64 (s.size - f.2 : Nat)]], ?_, .inr ⟨f, hx, rfl⟩, ?_⟩
 ·have hPQ : P ≠ P + 1 := by omega
  simp [results, Tryz.results15, go_sem, World.cell?, World.setCell, Array.getElem?_modify, FP2, FQ2]
 ·exact ((((((((hb2.setCell (by exact hP) _).setCell (by exact hP) _).setCell (by exact hP) _).setCell (by exact hP) _).setCell (by exact hP) _).setCell (by exact hP) _).setCell (by exact hP) _).setCell (by show _ ≤ P + 1; omega) _).setCell (by show _ ≤ P + 1; omega) _
set_option maxRecDepth 20000 in
set_option maxHeartbeats 4000000 in
theorem parse_any (s : ByteArray) (w : World) (hs63 : s.size ≤ 9223372036854775807) (hv : ErrV w) : Calls Tryz.prog 15 #[.string s] w (PrPost s w) := by
 obtain ⟨P, hP⟩ : ∃ P, P = w.heap.size := ⟨_, rfl⟩
 obtain ⟨U, hU⟩ : ∃ U, U = ((w.alloc (.cells #[.int .i64 0, .int .i64 0, .int .i64 0, .string ⟨#[]⟩, .slice none 0 0, .slice none 0 0, .slice none 0 0] 41)).alloc (.cells #[.int .i64 0, .int .i64 0] 43)).alloc (.cells #[.string s, .int .i64 0, .int .i64 0] 95) := ⟨_, rfl⟩
 have b0 : Below w.heap.size w U := by rw [hU]; exact (((Below.refl _ _).alloc (Nat.le_refl _) _).alloc (by simp) _).alloc (by simp; omega) _
 have FP : U.heap[P]? = some (.cells #[.int .i64 0, .int .i64 0, .int .i64 0, .string ⟨#[]⟩, .slice none 0 0, .slice none 0 0, .slice none 0 0] 41 (0, 0)) := by
  rw [hU, hP, Below.heap_alloc _ _ _ (by simp; omega), Below.heap_alloc _ _ _ (by simp)]; exact heap_alloc_new w _
 have FQ : U.heap[P + 1]? = some (.cells #[.int .i64 0, .int .i64 0] 43 (0, 0)) := by
  rw [hU, hP, Below.heap_alloc _ _ _ (by simp)]
  have := heap_alloc_new (w.alloc (.cells #[.int .i64 0, .int .i64 0, .int .i64 0, .string ⟨#[]⟩, .slice none 0 0, .slice none 0 0, .slice none 0 0] 41)) (.cells #[.int .i64 0, .int .i64 0] 43)
  simpa using this
 have R0 : Rd 95 U (P + 1 + 1) s ⟨s.data.toList, 0⟩ := by
  refine ⟨List.suffix_refl _, ?_⟩
  have hp : pos s s.data.toList = 0 := by unfold pos; rw [size_len]; omega
  have := heap_alloc_new ((w.alloc (.cells #[.int .i64 0, .int .i64 0, .int .i64 0, .string ⟨#[]⟩, .slice none 0 0, .slice none 0 0, .slice none 0 0] 41)).alloc (.cells #[.int .i64 0, .int .i64 0] 43)) (.cells #[.string s, .int .i64 0, .int .i64 0] 95)
  rw [hU, hP, hp]; simpa using this
 have HWH := hide (fun (v : World) (hR : Rd 95 v (P + 1 + 1) s ⟨s.data.toList, 0⟩) (hb : Below w.heap.size w v) => rwhole_any s (P + 1 + 1) w v hR hs63 hv hb (by omega))
 have HU := hide hU
 have HP := hide hP
 have hmf : ∀ (fn : Fn) (first cap : Array Value) (w : World), (Instr.makeFunc fn first cap).run Tryz.prog w = .ok (.func fn first cap) w := fun _ _ _ _ => rfl
 clear hU hP
 go_enter_defers Tryz.func15, Tryz.ntmps15
 have hPB : P ≠ P + 1 + 1 := by omega
 have hQB : P + 1 ≠ P + 1 + 1 := by omega
 have R1 := R0.drewN 1
 have b1 := below_drewN b0 1
 have FP1 : U.drew.heap[P]? = some (.cells #[.int .i64 0, .int .i64 0, .int .i64 0, .string ⟨#[]⟩, .slice none 0 0, .slice none 0 0, .slice none 0 0] 41 (0, 0)) := FP
 have FQ1 : U.drew.heap[P + 1]? = some (.cells #[.int .i64 0, .int .i64 0] 43 (0, 0)) := FQ
 obtain ⟨q0, q1, _, _⟩ := two_cells FQ
 obtain ⟨q2, q3, _, _⟩ := two_cells FQ1
 have HGB : Hid (∀ v v' : World, Below w.heap.size w v → v.grownBy v' (some (P + 1 + 1)) → Below w.heap.size w v') := fun v v' hb hg => hb.grown hg hb.size (fun j hj => by cases hj; have := HP.out; omega)
 have hPw : w.heap.size ≤ P := by have := HP.out; omega
 go_wp2_with fail
 rw [← HU.out, ← HP.out]
 go_region_with
  (first
   | (go_at_call 38; refine (HWH.out _ (by first | exact R0 | exact R1) (by first | exact b0 | exact b1)).mono ?_; rintro e w2 ⟨⟨t, hx, rfl, hin⟩ | ⟨f, hf, rfl⟩, g⟩; rotate_left; (have FP2 := grown_block g (by first | exact FP | exact FP1) hPB; have FQ2 := grown_block g (by first | exact FQ | exact FQ1) hQB; have b2 := HGB.out _ _ (by first | exact b0 | exact b1) g; have HE := hide hf; clear hf; go_wp2_with fail; exact door_thrown s f P w _ _ _ _ _ _ _ _ _ _ _ _ _ _ _ _ _ _ HE.out FP2 FQ2 b2 hPw); have FP2 := grown_block g (by first | exact FP | exact FP1) hPB; have FQ2 := grown_block g (by first | exact FQ | exact FQ1) hQB; have b2 := HGB.out _ _ (by first | exact b0 | exact b1) g; obtain ⟨v0, v1, v2, v3, v4, v5, v6⟩ := seven_cells FP2; obtain ⟨u0, u1, u2, u3, u4, u5, u6⟩ := thaw7 FP2; obtain ⟨r0, r1, r2, r3⟩ := two_cells FQ2; unfold eval))
 all_goals
  have hUP : P + 1 + 1 < U.heap.size := R0.lt
  have HX := hide hx
  have hFPF : (((put7 w2 P t).setCell ⟨P + 1, 0, none⟩ (.int .i64 0)).setCell ⟨P + 1, 1, none⟩ (.int .i64 0)).heap[P]? = some (.cells #[.int .i64 t.hd.kind, .int .i64 t.hd.n, .int .i64 t.hd.range, .string t.hd.word, .slice t.sp.ma t.hd.ms.length t.sp.mc, .slice t.sp.ba t.hd.bs.length t.sp.bc, .slice t.sp.ka t.kids.length t.sp.kc] 41 (0, 0)) := by
   rw [setCell_far (by omega), setCell_far (by omega)]; exact put7_blk FP2
  have hFQF : (((put7 w2 P t).setCell ⟨P + 1, 0, none⟩ (.int .i64 0)).setCell ⟨P + 1, 1, none⟩ (.int .i64 0)).heap[P + 1]? = some (.cells #[.int .i64 0, .int .i64 0] 43 (0, 0)) := by
   have h0 : (put7 w2 P t).heap[P + 1]? = some (.cells #[.int .i64 0, .int .i64 0] 43 (0, 0)) := (put7_far (by omega)).trans FQ2
   simp [World.setCell, Array.getElem?_modify, h0]
  have hIN : t.In (cut w.heap.size (((put7 w2 P t).setCell ⟨P + 1, 0, none⟩ (.int .i64 0)).setCell ⟨P + 1, 1, none⟩ (.int .i64 0))) := by
   have h0 : t.In (cut U.heap.size w2) := hin
   exact ET.In.low (by omega) t (ET.In.far (ET.In.far (put7_in (t := t) h0 (X := P) (by omega)) (by omega)) (by omega))
  have hBF : Below w.heap.size w (((put7 w2 P t).setCell ⟨P + 1, 0, none⟩ (.int .i64 0)).setCell ⟨P + 1, 1, none⟩ (.int .i64 0)) := by
   unfold put7
   exact ((((((((b2.setCell (by exact hPw) _).setCell (by exact hPw) _).setCell (by exact hPw) _).setCell (by exact hPw) _).setCell (by exact hPw) _).setCell (by exact hPw) _).setCell (by exact hPw) _).setCell (by show _ ≤ P + 1; omega) _).setCell (by show _ ≤ P + 1; omega) _
  have H1 := hide hFPF
  have H2 := hide hFQF
  have H3 := hide hIN
  have H4 := hide hBF
  clear hFPF hFQF hIN hBF hx
  go_wp2_with fail
  exact door_ret s t P w _ _ _ _ _ _ _ _ _ HX.out H1.out H2.out H3.out H4.out
open Go.ChangeShapes Go.WideShapes Go.ChangeAt Go.RowKit Go.GrainU
theorem Tryz.gTab : Tryz.prog.globalNamed "internal/strconv.uint64pow10" = some 1 := by kernel_rfl
theorem Tryz.gTabType : (Tryz.prog.globals[1]?).map (·.type) = some 275 := by kernel_rfl
theorem Tryz.gErr : Tryz.prog.globalNamed "strconv.ErrRange" = some 5 := by kernel_rfl
theorem Tryz.gErrType : (Tryz.prog.globals[5]?).map (·.type) = some 224 := by kernel_rfl
theorem errStar : "*" ++ "errors.errorString" = "*errors.errorString" := by decide
theorem Tryz.rowErr (u : TypeId) (h : Tryz.prog.typeName? 3 u = some "*errors.errorString") : u = 305 :=
 typeName_ptr_named (nm := "errors.errorString") (by rw [errStar]; kernel_rfl) (by kernel_rfl) (by decide) u (by rw [errStar]; exact h)
theorem tfrodAll_three {H : Type} {enc : TypeId × Value → H} {P : Program} {w : World} {base : Nat} {sp : Nat → Bool} {held : Bool} {t0 t1 t2 : TypeId} {args : Array Value} {ds : List (DataW H)} {p : List MemPlace} (h : DataW.TrodAll enc P w base sp held [t0, t1, t2] args.toList ds p) :
  ∃ v0 v1 v2 d0 d1 d2 p0 p1 p2, args = #[v0, v1, v2] ∧ ds = [d0, d1, d2] ∧ p = p0 ++ (p1 ++ (p2 ++ [])) ∧ DataW.Trod enc P w base sp held t0 v0 d0 p0 ∧ DataW.Trod enc P w base sp held t1 v1 d1 p1 ∧ DataW.Trod enc P w base sp held t2 v2 d2 p2 := by
 obtain ⟨v0, vs0, d0, ds0, p0, q0, e0, rfl, rfl, h0, r0⟩ := trodAll_cons h
 obtain ⟨v1, vs1, d1, ds1, p1, q1, e1, rfl, rfl, h1, r1⟩ := trodAll_cons r0
 obtain ⟨v2, vs2, d2, ds2, p2, q2, e2, rfl, rfl, h2, r2⟩ := trodAll_cons r1
 obtain ⟨rfl, rfl, rfl⟩ := trodAll_nil r2
 refine ⟨v0, v1, v2, d0, d1, d2, p0, p1, p2, ?_, rfl, rfl, h0, h1, h2⟩
 cases args
 simp_all
end Go.Proofs.YtoldmigappbjcaaGreatDoor
namespace Grain
structure Sm where
 c : Int
 t : Int
 mn : Int
 mx : Int
 f : Int
 l : Int
 r : Int
def wr (x : Int) : Int := Go.IntKind.i64.wrap x
theorem wr_eq (x : Int) : wr x = (x + 9223372036854775808) % 18446744073709551616 - 9223372036854775808 := Go.IntKind.wrap_i64 x
def rise (a b : Int) : Int := if b < a then b else wr (b - a)
def zero : Sm := ⟨0, 0, 0, 0, 0, 0, 0⟩
def one (v : Int) : Sm := ⟨1, v, v, v, v, v, 0⟩
def join (a b : Sm) : Sm :=
 if a.c = 0 then b else if b.c = 0 then a else
  ⟨wr (a.c + b.c), wr (a.t + b.t), if b.mn < a.mn then b.mn else a.mn, if b.mx > a.mx then b.mx else a.mx, a.f, b.l, wr (wr (a.r + rise a.l b.f) + b.r)⟩
theorem wr_in {x : Int} (h : -9223372036854775808 ≤ x) (h' : x ≤ 9223372036854775807) : wr x = x := by rw [wr_eq]; omega
theorem join_zero_left (a b : Sm) (h : a.c = 0) : join a b = b := by simp [join, h]
theorem join_zero_right (a b : Sm) (h : a.c ≠ 0) (h' : b.c = 0) : join a b = a := by simp [join, h, h']
theorem join_full (a b : Sm) (h : a.c ≠ 0) (h' : b.c ≠ 0) : join a b = ⟨wr (a.c + b.c), wr (a.t + b.t), if b.mn < a.mn then b.mn else a.mn, if b.mx > a.mx then b.mx else a.mx, a.f, b.l, wr (wr (a.r + rise a.l b.f) + b.r)⟩ := by
 simp [join, h, h']
theorem Sm.ext {a b : Sm} (h1 : a.c = b.c) (h2 : a.t = b.t) (h3 : a.mn = b.mn) (h4 : a.mx = b.mx) (h5 : a.f = b.f) (h6 : a.l = b.l) (h7 : a.r = b.r) : a = b := by
 cases a; cases b; simp at *; exact ⟨h1, h2, h3, h4, h5, h6, h7⟩
theorem join_assoc (a b c : Sm) (ha : 0 ≤ a.c ∧ a.c ≤ 1152921504606846976) (hb : 0 ≤ b.c ∧ b.c ≤ 1152921504606846976) (hc : 0 ≤ c.c ∧ c.c ≤ 1152921504606846976) :
  join a (join b c) = join (join a b) c := by
 by_cases h1 : a.c = 0
 ·rw [join_zero_left a _ h1, join_zero_left a b h1]
 by_cases h2 : b.c = 0
 ·rw [join_zero_left b c h2, join_zero_right a b h1 h2]
 by_cases h3 : c.c = 0
 ·rw [join_zero_right b c h2 h3]
  have : (join a b).c ≠ 0 := by rw [join_full a b h1 h2]; show wr (a.c + b.c) ≠ 0; rw [wr_in (by omega) (by omega)]; omega
  rw [join_zero_right _ c this h3]
 have e1 : wr (b.c + c.c) = b.c + c.c := wr_in (by omega) (by omega)
 have e2 : wr (a.c + b.c) = a.c + b.c := wr_in (by omega) (by omega)
 rw [join_full b c h2 h3, join_full a b h1 h2, join_full a _ h1 (by show wr (b.c + c.c) ≠ 0; omega), join_full _ c (by show wr (a.c + b.c) ≠ 0; omega) h3]
 apply Sm.ext
 ·show wr (a.c + wr (b.c + c.c)) = wr (wr (a.c + b.c) + c.c); rw [e1, e2, Int.add_assoc]
 ·show wr (a.t + wr (b.t + c.t)) = wr (wr (a.t + b.t) + c.t); simp only [wr_eq]; omega
 ·show (if (if c.mn < b.mn then c.mn else b.mn) < a.mn then (if c.mn < b.mn then c.mn else b.mn) else a.mn) = if c.mn < (if b.mn < a.mn then b.mn else a.mn) then c.mn else (if b.mn < a.mn then b.mn else a.mn)
  split <;> split <;> (try split) <;> (try split) <;> omega
 ·show (if (if c.mx > b.mx then c.mx else b.mx) > a.mx then (if c.mx > b.mx then c.mx else b.mx) else a.mx) = if c.mx > (if b.mx > a.mx then b.mx else a.mx) then c.mx else (if b.mx > a.mx then b.mx else a.mx)
  split <;> split <;> (try split) <;> (try split) <;> omega
 ·rfl
 ·rfl
 ·show wr (wr (a.r + rise a.l b.f) + wr (wr (b.r + rise b.l c.f) + c.r)) = wr (wr (wr (wr (a.r + rise a.l b.f) + b.r) + rise b.l c.f) + c.r)
  generalize rise a.l b.f = x
  generalize rise b.l c.f = y
  simp only [wr_eq]; omega
def ofN (l : List (Int × Int)) : Nat → Sm
 | 0 => zero
 | k + 1 => join (ofN l k) (one (vl l k))
def of (l : List (Int × Int)) : Sm := ofN l l.length
theorem ofN_c (l : List (Int × Int)) : ∀ k : Nat, k ≤ 1152921504606846976 → (ofN l k).c = k := by
 intro k
 induction k with
 | zero => intro _; rfl
 | succ k ih =>
  intro h
  have ih := ih (by omega)
  by_cases h0 : k = 0
  ·subst h0; simp [ofN, join, zero, one]
  ·rw [ofN, join_full _ _ (by omega) (by simp [one])]
   show wr ((ofN l k).c + 1) = ((k + 1 : Nat) : Int)
   rw [ih, wr_in (by omega) (by omega)]; omega
theorem ofN_append_left (a b : List (Int × Int)) : ∀ k, k ≤ a.length → ofN (a ++ b) k = ofN a k := by
 intro k
 induction k with
 | zero => intro _; rfl
 | succ k ih =>
  intro h
  rw [ofN, ofN, ih (by omega)]
  have : vl (a ++ b) k = vl a k := by simp [vl, List.getD, List.getElem?_append_left (show k < a.length by omega)]
  rw [this]
theorem ofN_append (a b : List (Int × Int)) (ha : a.length ≤ 1152921504606846975) : ∀ k, k ≤ 1152921504606846975 → ofN (a ++ b) (a.length + k) = join (of a) (ofN b k) := by
 intro k
 induction k with
 | zero =>
  intro _
  rw [Nat.add_zero, ofN_append_left a b _ (Nat.le_refl _)]
  by_cases h : a.length = 0
  ·rw [join_zero_left _ _ (by unfold of; rw [ofN_c a _ (by omega)]; omega), h]; rfl
  ·rw [join_zero_right _ _ (by unfold of; rw [ofN_c a _ (by omega)]; omega) rfl]; rfl
 | succ k ih =>
  intro h
  have ih := ih (by omega)
  rw [show a.length + (k + 1) = a.length + k + 1 from by omega, ofN, ofN, ih]
  have hv : vl (a ++ b) (a.length + k) = vl b k := by simp [vl, List.getD, List.getElem?_append_right (show a.length ≤ a.length + k by omega)]
  rw [hv]
  refine (join_assoc _ _ _ ?_ ?_ ?_).symm
  ·unfold of; rw [ofN_c a _ (by omega)]; omega
  ·rw [ofN_c b _ (by omega)]; omega
  ·simp [one]
theorem of_append (a b : List (Int × Int)) (ha : a.length ≤ 1152921504606846975) (hb : b.length ≤ 1152921504606846975) : of (a ++ b) = join (of a) (of b) := by
 have := ofN_append a b ha b.length hb
 rw [← List.length_append] at this
 exact this
end Grain
