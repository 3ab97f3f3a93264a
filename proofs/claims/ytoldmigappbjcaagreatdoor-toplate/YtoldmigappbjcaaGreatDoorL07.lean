import Derived.Deep.AppendLies
import Derived.Test.YtoldmigappbjcaaGreatDoorL06
namespace Go.GrainU
open Go.RowKit
theorem uint_digits {l : List UInt8} (h : l.all digit = true) : ∀ a, Go.Lib.parseUint10 a l ≠ .syntax := by
 induction l with
 | nil => intro a; simp [Go.Lib.parseUint10]
 | cons c r ih =>
  intro a
  simp at h
  have hc : 48 ≤ c.toNat ∧ c.toNat ≤ 57 := by have := h.1; unfold digit at this; simp at this; exact this
  unfold Go.Lib.parseUint10
  rw [if_pos hc]
  split
  ·intro e; cases e
  ·split
   ·intro e; cases e
   ·exact ih (by simpa using h.2) _
theorem atoi_digits {l : List UInt8} (h : l.all digit = true) (h0 : l ≠ []) : Go.Lib.atoiAll l ≠ .syntax := by
 cases l with
 | nil => exact absurd rfl h0
 | cons c r =>
  have hc : 48 ≤ c.toNat ∧ c.toNat ≤ 57 := by have := h; simp at this; have := this.1; unfold digit at this; simp at this; exact this
  have hm : Go.Lib.parseMag (c :: r) ≠ .syntax := by
   unfold Go.Lib.parseMag
   rw [if_neg (by simp)]
   exact uint_digits h 0
  unfold Go.Lib.atoiAll
  simp only [show ¬ (c.toNat = 43 ∨ c.toNat = 45) from by omega, if_false]
  cases hp : Go.Lib.parseMag (c :: r) with
  | «syntax» => exact absurd hp hm
  | range => simp
  | ok u =>
   simp only
   split
   ·intro e; cases e
   ·split
    ·intro e; cases e
    ·split <;> (intro e; cases e)
theorem take_all (p : UInt8 → Bool) (l : List UInt8) : (l.takeWhile p).all p = true := by
 induction l with
 | nil => rfl
 | cons c r ih =>
  by_cases h : p c = true
  ·simp [h]
  ·simp [h]
def IfaceAt (P : Program) (w : World) (name : String) : Prop := ∃ tp p, w.var? P name = some #[.iface tp p]
theorem IfaceAt.below {P : Program} {w w' : World} {name : String} (h : IfaceAt P w name) (hb : Below w.heap.size w w') : IfaceAt P w' name := by
 obtain ⟨tp, p, h⟩ := h
 refine ⟨tp, p, ?_⟩
 unfold World.var? at *
 cases hg : P.globalNamed name with
 | none => simp [hg] at h
 | some g =>
  simp only [hg, Option.bind_some] at h ⊢
  have hlt : g < w.heap.size := by
   rcases Nat.lt_or_ge g w.heap.size with e | e
   ·exact e
   ·rw [Array.getElem?_eq_none (by exact e)] at h; simp at h
  rw [hb.block g hlt]
  exact h
end Go.GrainU
namespace Go.Proofs.YtoldmigappbjcaaGreatDoor
open Go.RowKit Go.GrainU
abbrev ErrV (w : World) : Prop := IfaceAt Tryz.prog w "strconv.ErrRange"
theorem atoi_any (d : List UInt8) (w : World) (hd : d.all digit = true) (h0 : d ≠ []) (hl : d.length ≤ 2000) (hv : ErrV w) :
  Calls Tryz.prog 217 #[.string (lit d)] w fun e w' => ((∃ n, Go.Lib.atoiAll d = .ok n ∧ e = .returned (.tuple #[.int .i64 n, .nilIface])) ∨ (Go.Lib.atoiAll d = .range ∧ ∃ z t q, e = .returned (.tuple #[.int .i64 z, .iface t q]))) ∧ Below w.heap.size w w' := by
 have hs : (lit d).size ≤ 2000 := by rw [lit_size]; exact hl
 cases hr : Go.Lib.atoiAll d with
 | ok n =>
  refine (Tryz.strconv_Atoi_ok (lit d) (by omega) n (by rw [lit_data]; exact hr) w).mono ?_
  rintro e w' ⟨he, hw⟩
  refine ⟨.inl ⟨n, rfl, he⟩, ?_⟩
  rcases hw with rfl | ⟨t, rfl⟩
  ·exact Below.refl _ _
  ·exact Lib.bytesWorld_below _ _ _
 | range =>
  obtain ⟨tp, p, hv⟩ := hv
  refine (Tryz.strconv_Atoi_range_var (lit d) (by omega) (by rw [lit_data]; exact hr) tp p w hv).mono ?_
  rintro e w' ⟨N, he, _, _, hb⟩
  exact ⟨.inr ⟨rfl, _, _, _, he⟩, hb⟩
 | «syntax» => exact absurd hr (atoi_digits hd h0)
end Go.Proofs.YtoldmigappbjcaaGreatDoor
namespace Go.GrainU
open Go.RowKit
theorem lit_head {c : UInt8} {t : List UInt8} : ∃ h : 0 < (lit (c :: t)).size, (lit (c :: t))[0]'h = c := by
 refine ⟨by rw [lit_size]; simp, ?_⟩
 simp [lit]
 rfl
theorem numb_of {least most : Int} {r d : List UInt8} (hd : d = (skip r).takeWhile digit) (h0 : d ≠ []) {n : Int} (hn : Go.Lib.atoiAll d = .ok n) :
  numb least most r = if numOk least most d n = true then .ok (n, (skip r).dropWhile digit) else .error (3, (skip r).length) := by
 unfold numb
 rw [← hd, if_neg h0, hn]
end Go.GrainU
namespace Go.Proofs.YtoldmigappbjcaaGreatDoor
open Go.RowKit Go.GrainU
set_option maxHeartbeats 4000000 in
theorem number_any (least most : Int) (s : ByteArray) (st : St) (B : Nat) (w0 w : World) (h : Rd 95 w B s st) (hs : s.size ≤ 2000) (hv : ErrV w0) (hb0 : Below w0.heap.size w0 w) (hB0 : w0.heap.size ≤ B) :
  Calls Tryz.prog 188 #[.pointer (some ⟨B, 0, none⟩), .int .i64 least, .int .i64 most] w fun e w' => ((∃ n r, numb least most st.r = .ok (n, r) ∧ e = .returned (.int .i64 n) ∧ Rd 95 w' B s ⟨r, st.n⟩) ∨ ∃ f, numb least most st.r = .error f ∧ e = .panicked [thr s f]) ∧ w.grownBy w' (some B) := by
 have HB := hide (rbegin_any s st B w h hs)
 have HW := hide (run_digits s st B w h hs)
 have hlen : (skip st.r).length ≤ 2000 := by have := suf_len ((skip_suf st.r).trans h.suf); omega
 obtain ⟨d, hd⟩ : ∃ d, d = (skip st.r).takeWhile digit := ⟨_, rfl⟩
 obtain ⟨r, hr⟩ : ∃ r, r = (skip st.r).dropWhile digit := ⟨_, rfl⟩
 have hall : d.all digit = true := by rw [hd]; exact take_all _ _
 have hdl : d.length ≤ 2000 := by
  rw [hd]
  exact Nat.le_trans (List.takeWhile_prefix _).length_le hlen
 rw [← hd, ← hr] at HW
 obtain ⟨K, hK⟩ : ∃ K, K = pos s (skip st.r) := ⟨_, rfl⟩
 rw [← hK] at HB
 have HK := hide hK
 have HD := hide hd
 have HR := hide hr
 have HV := hide hv
 have HB0 := hide hb0
 clear hK hd hr hv hb0
 cases d with
 | nil =>
  have HE : Hid (numb least most st.r = .error (2, (skip st.r).length)) := by show _ = _; unfold numb; rw [← HD.out, if_pos rfl]
  unfold lit at HW
  go_enter Tryz.func188, Tryz.ntmps188
  go_wp2_with fail
  refine HB.out.mono ?_
  intro e w1 hh
  rw [hh.1, hh.2]
  clear hh
  go_wp2_with fail
  refine HW.out.mono ?_
  rintro e w1 ⟨rfl, h1, g1⟩
  go_wp2_with fail
  refine (throw_any _ _ w1).mono ?_
  intro e w2 hh
  rw [hh.1, hh.2]
  clear hh
  go_wp2_with fail
  exact ⟨rfl, .inr ⟨_, HE.out, by rw [HK.out]; rfl⟩, g1⟩
 | cons c t =>
  have HX0 : Hid (lit (c :: t) ≠ lit []) := fun e => by
   have := congrArg (fun b : ByteArray => b.data.toList) e
   simp [lit] at this
  have q := word_not (l := []) HX0.out
  obtain ⟨hlt, hhd⟩ := lit_head (c := c) (t := t)
  obtain ⟨D, hDD⟩ : ∃ D, D = lit (c :: t) := ⟨_, rfl⟩
  have HAT := hide (fun w' (hv' : ErrV w') => atoi_any (c :: t) w' hall (by simp) hdl hv')
  have hL : D.size = t.length + 1 := by rw [hDD, lit_size]; simp
  have hlt' : 0 < D.size := by rw [hDD]; exact hlt
  have hc' : ((D[0]'hlt').toNat : Int) = (c.toNat : Int) := by simp only [hDD]; rw [hhd]
  rw [← hDD] at q HW HAT
  obtain ⟨C, hC⟩ : ∃ C : Int, C = (c.toNat : Int) := ⟨_, rfl⟩
  rw [← hC] at hc'
  obtain ⟨L, hLL⟩ : ∃ L, L = D.size := ⟨_, rfl⟩
  have hL' : D.size = L := hLL.symm
  have hLt : L = t.length + 1 := by rw [hLL, hL]
  have hlt0 : (0 : Int) < (D.size : Int) := by omega
  clear hDD hhd hlt hL hLL
  go_enter Tryz.func188, Tryz.ntmps188
  go_wp2_with fail
  refine HB.out.mono ?_
  intro e w1 hh
  rw [hh.1, hh.2]
  clear hh
  go_wp2_with fail
  refine HW.out.mono ?_
  rintro e w1 ⟨rfl, h1, g1⟩
  go_wp2_with fail
  refine (HAT.out w1 (HV.out.below (HB0.out.grown g1 HB0.out.size (fun j hj => by cases hj; exact hB0)))).mono ?_
  rintro e w2 ⟨⟨n, hn, rfl⟩ | ⟨hn, z, t2, q2, rfl⟩, b2⟩
  ·have HN := hide (numb_of (least := least) (most := most) HD.out (by simp) hn)
   rw [← HR.out] at HN
   have h2 := h1.below b2
   have g2 := grown_call g1 b2
   clear hn h1 g1 b2 hall hdl
   by_cases hz : 1 < t.length + 1 ∧ c = 48
   ·have HE : Hid (numb least most st.r = .error (3, (skip st.r).length)) := by show _ = _; rw [HN.out, if_neg]; simp [numOk, hz]
    have eC : (C == 48) = true := by rw [hC, hz.2]; rfl
    have eL : (1 : Int) < (L : Int) := by omega
    clear hz hC
    go_wp2_with fail
    refine (throw_any _ _ w2).mono ?_
    intro e w3 hh
    rw [hh.1, hh.2]
    clear hh
    go_wp2_with fail
    exact ⟨rfl, .inr ⟨_, HE.out, by rw [HK.out]; rfl⟩, g2⟩
   ·have HO : Hid (numOk least most (c :: t) n = (decide (least ≤ n) && decide (n ≤ most))) := by
     show _ = _
     unfold numOk
     have : (decide (1 < (c :: t).length) && (c :: t).headD 0 == 48) = false := by
      simp only [List.length_cons, List.headD_cons]
      rw [Bool.and_eq_false_iff]
      by_cases h1 : 1 < t.length + 1
      ·right
       rw [beq_eq_false_iff_ne]
       exact fun e => hz ⟨h1, e⟩
      ·left; simpa using h1
     rw [this]; rfl
    have HT : Hid ((1 : Int) < (L : Int) → (C == 48) = false) := fun h1 => by
     rw [hC, beq_eq_false_iff_ne]
     intro h48
     apply hz
     refine ⟨by omega, ?_⟩
     apply UInt8.toNat_inj.1
     have : (48 : UInt8).toNat = 48 := rfl
     omega
    clear hz hC
    by_cases hn1 : n < least
    ·have HE : Hid (numb least most st.r = .error (3, (skip st.r).length)) := by show _ = _; rw [HN.out, HO.out, if_neg]; simp; omega
     by_cases h1 : (1 : Int) < (L : Int)
     ·have eC := HT.out h1
      go_wp2_with fail
      refine (throw_any _ _ w2).mono ?_
      intro e w3 hh
      rw [hh.1, hh.2]
      clear hh
      go_wp2_with fail
      exact ⟨rfl, .inr ⟨_, HE.out, by rw [HK.out]; rfl⟩, g2⟩
     ·go_wp2_with fail
      refine (throw_any _ _ w2).mono ?_
      intro e w3 hh
      rw [hh.1, hh.2]
      clear hh
      go_wp2_with fail
      exact ⟨rfl, .inr ⟨_, HE.out, by rw [HK.out]; rfl⟩, g2⟩
    ·by_cases hn2 : most < n
     ·have HE : Hid (numb least most st.r = .error (3, (skip st.r).length)) := by show _ = _; rw [HN.out, HO.out, if_neg]; simp; omega
      by_cases h1 : (1 : Int) < (L : Int)
      ·have eC := HT.out h1
       go_wp2_with fail
       refine (throw_any _ _ w2).mono ?_
       intro e w3 hh
       rw [hh.1, hh.2]
       clear hh
       go_wp2_with fail
       exact ⟨rfl, .inr ⟨_, HE.out, by rw [HK.out]; rfl⟩, g2⟩
      ·go_wp2_with fail
       refine (throw_any _ _ w2).mono ?_
       intro e w3 hh
       rw [hh.1, hh.2]
       clear hh
       go_wp2_with fail
       exact ⟨rfl, .inr ⟨_, HE.out, by rw [HK.out]; rfl⟩, g2⟩
     ·have HE : Hid (numb least most st.r = .ok (n, r)) := by show _ = _; rw [HN.out, HO.out, if_pos]; simp; omega
      by_cases h1 : (1 : Int) < (L : Int)
      ·have eC := HT.out h1
       go_wp2_with fail
       go_ret
       exact ⟨.inl ⟨n, r, HE.out, rfl, h2⟩, g2⟩
      ·go_wp2_with fail
       go_ret
       exact ⟨.inl ⟨n, r, HE.out, rfl, h2⟩, g2⟩
  ·have HE : Hid (numb least most st.r = .error (3, (skip st.r).length)) := by show _ = _; unfold numb; rw [← HD.out, if_neg (by simp), hn]
   have g2 := grown_call g1 b2
   clear hn
   go_wp2_with fail
   refine (throw_any _ _ w2).mono ?_
   intro e w3 hh
   rw [hh.1, hh.2]
   clear hh
   go_wp2_with fail
   exact ⟨rfl, .inr ⟨_, HE.out, by rw [HK.out]; rfl⟩, g2⟩
open Go.RowKit Go.GrainU
set_option maxHeartbeats 2000000 in
theorem ended_any (t : ET) (s : ByteArray) (st : St) (B : Nat) (w : World) (h : Rd 95 w B s st) (hn : st.n ≤ 1000) :
  Calls Tryz.prog 146 #[.pointer (some ⟨B, 0, none⟩), eval t] w fun e w' => ((fin t.ex st = .ok (t.ex, ⟨st.r, st.n + 1⟩) ∧ e = .returned (eval t) ∧ Rd 95 w' B s ⟨st.r, st.n + 1⟩) ∨ (fin t.ex st = .error (4, st.r.length) ∧ e = .panicked [thr s (4, st.r.length)])) ∧ w.grownBy w' (some B) := by
 have hB := h.lt
 obtain ⟨c0, c1, c2⟩ := h.cells
 obtain ⟨t0, t1, t2⟩ := h.thaw
 have R1 := h.nodes (st.n + 1)
 simp only [Int.natCast_add] at R1
 have HR1 := hide R1
 obtain ⟨r, n⟩ := st
 simp only at c1 c2 hn HR1 ⊢
 clear R1
 unfold eval
 generalize t.hd.ms.length = ml
 generalize t.hd.bs.length = bl
 generalize t.kids.length = kl
 obtain ⟨P, hP⟩ : ∃ P, P = pos s r := ⟨_, rfl⟩
 rw [← hP] at c1
 have HP := hide hP
 clear hP h
 have HG : Hid (w.grownBy ((w.setCell ⟨B, 2, none⟩ (.int .i64 ((n : Int) + 1))).alloc (.cells #[.int .i64 t.hd.kind, .int .i64 t.hd.n, .int .i64 t.hd.range, .string t.hd.word, .slice t.sp.ma ml t.sp.mc, .slice t.sp.ba bl t.sp.bc, .slice t.sp.ka kl t.sp.kc] 41)) (some B)) :=
  grown_trans grown_set8 (World.grownBy_alloc _ _ none) (fun _ hk => by cases hk)
 by_cases h1 : 100 < n + 1
 ·have h1' : (100 : Int) < (n : Int) + 1 := by omega
  have HE : Hid (fin t.ex ⟨r, n⟩ = .error (4, r.length)) := by show _ = _; simp only [fin]; rw [if_pos h1]
  go_enter Tryz.func146, Tryz.ntmps146
  go_wp2_with fail
  refine (throw_any _ _ _).mono ?_
  intro e w2 hh
  rw [hh.1, hh.2]
  clear hh
  go_wp2_with fail
  exact ⟨rfl, .inr ⟨HE.out, by rw [HP.out]; rfl⟩, grown_trans HG.out (World.grownBy_alloc _ _ none) (fun _ hk => by cases hk)⟩
 ·have h1' : ¬ (100 : Int) < (n : Int) + 1 := by omega
  have HE : Hid (fin t.ex ⟨r, n⟩ = .ok (t.ex, ⟨r, n + 1⟩)) := by show _ = _; simp only [fin]; rw [if_neg h1]
  go_enter Tryz.func146, Tryz.ntmps146
  go_wp2
  exact bodyPost_ret (v := .agg #[.int .i64 t.hd.kind, .int .i64 t.hd.n, .int .i64 t.hd.range, .string t.hd.word, .slice t.sp.ma ml t.sp.mc, .slice t.sp.ba bl t.sp.bc, .slice t.sp.ka kl t.sp.kc]) (by simp [results, Tryz.results146, go_sem]) rfl
   ⟨.inl ⟨HE.out, rfl, (HR1.out.alloc _).alloc _⟩, grown_trans HG.out (World.grownBy_alloc _ _ none) (fun _ hk => by cases hk)⟩
end Go.Proofs.YtoldmigappbjcaaGreatDoor
namespace Go.GrainU
open Go.RowKit
def slen : Value → Nat
 | .slice _ n _ => n
 | _ => 0
theorem own_grown {w w' : World} {base e size n B : Nat} {v : Value} {xs : List Value} (h : w.ownsRow base e size v n xs) (g : w.grownBy w' (some B)) (hB : B < base) : w'.ownsRow base e size v n xs := by
 refine ⟨h.1, ?_⟩
 rcases h.2 with h0 | ⟨b, cap, cur, hv, hb, hblk, rest⟩
 ·exact .inl h0
 ·exact .inr ⟨b, cap, cur, hv, hb, grown_block g hblk (by omega), rest⟩
theorem Rd.app {t : TypeId} {w w' : World} {B base e size n : Nat} {v : Value} {xs : List Value} {s : ByteArray} {st : St} (h : Rd t w B s st) (hB : B < base) (own : w.ownsRow base e size v n xs) (g : w.grownBy w' v.ownBlock) : Rd t w' B s st :=
 ⟨h.suf, by rw [g.block B h.lt (fun e => by have := (own.lt B e.symm).1; omega)]; exact h.blk⟩
theorem news_three {W : World} {B : Nat} (hB : W.heap.size = B) (x y z : Value) (t : TypeId) : ∀ j u, [x, y, z][j]? = some u → (W.alloc (.cells #[x, y, z] t)).cell? ((⟨B, 0, none⟩ : Addr).add j) = some u := by
 intro j u hj
 subst hB
 have := three_cells7 (heap_alloc_new W (.cells #[x, y, z] t))
 match j, hj with
 | 0, hj => simp at hj; rw [← hj]; exact this.1
 | 1, hj => simp at hj; rw [← hj]; exact this.2.1
 | 2, hj => simp at hj; rw [← hj]; exact this.2.2
 | j + 3, hj => simp at hj
theorem mcells_snoc (l : List Mt) (m : Mt) : mcells (l ++ [m]) = mcells l ++ [.int .i64 m.kind, .string m.key, .string m.val] := by
 induction l with
 | nil => rfl
 | cons x r ih => simp [mcells, ih]
theorem lstF_none {α : Type} {part : List UInt8 → Except Flt (α × List UInt8)} {most k : Nat} {l : List α} {r : List UInt8} (h : acc [44] r = none) : lstF part most (k + 1) l r = .ok (l, r) := by unfold lstF; rw [h]
theorem lstF_full {α : Type} {part : List UInt8 → Except Flt (α × List UInt8)} {most k : Nat} {l : List α} {r r1 : List UInt8} (h : acc [44] r = some r1) (hl : l.length = most) : lstF part most (k + 1) l r = .error (5, r1.length) := by unfold lstF; rw [h]; simp [hl]
theorem lstF_err {α : Type} {part : List UInt8 → Except Flt (α × List UInt8)} {most k : Nat} {l : List α} {r r1 : List UInt8} {f : Flt} (h : acc [44] r = some r1) (hl : l.length ≠ most) (hp : part r1 = .error f) : lstF part most (k + 1) l r = .error f := by unfold lstF; rw [h]; simp [hl, hp]
theorem lstF_ok {α : Type} {part : List UInt8 → Except Flt (α × List UInt8)} {most k : Nat} {l : List α} {r r1 r2 : List UInt8} {a : α} (h : acc [44] r = some r1) (hl : l.length ≠ most) (hp : part r1 = .ok (a, r2)) : lstF part most (k + 1) l r = lstF part most k (l ++ [a]) r2 := by
 rw [lstF]
 rw [h]
 simp [hl, hp]
end Go.GrainU
namespace Go.Proofs.YtoldmigappbjcaaGreatDoor
open Go.RowKit Go.GrainU
theorem Tryz.infoMatch : (Tryz.prog.info? 183).map (fun i => (i.zero, i.size, i.bytes)) = some (some (.agg #[.int .i64 0, .string ⟨#[]⟩, .string ⟨#[]⟩]), 3, 40) := by kernel_rfl
set_option maxHeartbeats 4000000 in
theorem listm_any (s : ByteArray) (st : St) (B : Nat) (w : World) (h : Rd 95 w B s st) (hs : s.size ≤ 2000) :
  Calls Tryz.prog 221 #[.pointer (some ⟨B, 0, none⟩), .int .i64 5, .func (.func 222) #[.pointer (some ⟨B, 0, none⟩)] #[]] w fun e w' => ((∃ l r co N c, lst mtc 5 st.r = .ok (l, r) ∧ e = .returned (.slice co N c) ∧ w'.ownsRow w.heap.size 183 3 (.slice co N c) N (mcells l) ∧ Rd 95 w' B s ⟨r, st.n⟩) ∨ ∃ f, lst mtc 5 st.r = .error f ∧ e = .panicked [thr s f]) ∧ w.grownBy w' (some B) := by
 obtain ⟨i0, hi, hz0, hz1, hz2⟩ := info_parts Tryz.infoMatch
 have hB := h.lt
 have HP := hide (pmatch_read s st B w h hs)
 go_enter Tryz.func221, Tryz.ntmps221
 go_wp2_with fail
 refine HP.out.mono ?_
 rintro e w1 ⟨⟨m, r1, hx, rfl, h1⟩ | ⟨f, hf, rfl⟩, g1⟩
 ·have HX : Hid (lst mtc 5 st.r = lstF mtc 5 5 [m] r1) := by show _ = _; unfold lst; rw [hx]
  have hsz1 := g1.size
  have OW : (w1.alloc (.cells #[.int .i64 m.kind, .string m.key, .string m.val] 183)).ownsRow w.heap.size 183 3 (.slice (some ⟨w1.heap.size, 0, none⟩) 1 1) 1 (mcells [m]) :=
   ⟨rfl, .inr ⟨w1.heap.size, 1, #[.int .i64 m.kind, .string m.key, .string m.val], rfl, hsz1, heap_alloc_new w1 _, Nat.le_refl _, by unfold maxLen; omega, rfl, rfl⟩⟩
  have RW := h1.alloc (.cells #[.int .i64 m.kind, .string m.key, .string m.val] 183)
  have GW := grown_trans g1 (World.grownBy_alloc w1 (.cells #[.int .i64 m.kind, .string m.key, .string m.val] 183) none) (fun _ hk => by cases hk)
  have HO := hide OW
  have HRW := hide RW
  have HGW := hide GW
  clear OW RW GW hx HP h1 g1
  go_wp2_with fail
  go_loopw [7] (fun out wr => ∃ (k N c : Nat) (co : Option Addr) (l : List Mt) (q : List UInt8), out = .slice co N c ∧ Hid (lst mtc 5 st.r = lstF mtc 5 k l q ∧ k + N = 5 + 1 ∧ N = l.length) ∧ N ≤ 5 ∧ wr.ownsRow w.heap.size 183 3 (.slice co N c) N (mcells l) ∧ Rd 95 wr B s ⟨q, st.n⟩ ∧ w.grownBy wr (some B)) (fun out _ => 5 + 1 - slen out)
  case atStart => exact ⟨5, 1, 1, _, [m], r1, rfl, ⟨HX.out, by omega, rfl⟩, by omega, HO.out, HRW.out, HGW.out⟩
  case round =>
   obtain ⟨k, N, c, co, l, q, rfl, HL, hN, own, R, gr⟩ := hrel
   clear HX HO HRW HGW
   have A1 := hide (accept_any [44] s ⟨q, st.n⟩ B wr R hs)
   unfold lit at A1
   obtain ⟨k', hk'⟩ : ∃ k', k = k' + 1 := ⟨k - 1, by have := HL.out.2.1; omega⟩
   subst hk'
   cases ha : acc [44] q with
   | none =>
    rw [ha] at A1
    simp only [Option.getD_none, Option.isSome_none] at A1
    have HU : Hid (lst mtc 5 st.r = .ok (l, q)) := by show _ = _; rw [HL.out.1, lstF_none ha]
    clear ha
    go_wp2_with fail
    refine A1.out.mono ?_
    rintro e w2 ⟨rfl, h2, g2⟩
    have own2 := own_grown own g2 hB
    have G2 := grown_trans gr g2 (fun _ hk => .inl hk)
    go_wp2_with fail
    go_ret
    exact ⟨.inl ⟨l, q, co, N, c, HU.out, rfl, own2, h2⟩, G2⟩
   | some r2 =>
    rw [ha] at A1
    simp only [Option.getD_some, Option.isSome_some] at A1
    have HA := hide ha
    clear ha
    go_wp2_with fail
    refine A1.out.mono ?_
    rintro e w2 ⟨rfl, h2, g2⟩
    have own2 := own_grown own g2 hB
    have G2 := grown_trans gr g2 (fun _ hk => .inl hk)
    clear own R gr g2 A1
    by_cases hm : N = 5
    ·have HE : Hid (lst mtc 5 st.r = .error (5, r2.length)) := by show _ = _; rw [HL.out.1, lstF_full HA.out (by rw [← HL.out.2.2]; exact hm)]
     have em : ((N : Int) == 5) = true := by rw [hm]; rfl
     obtain ⟨c0, c1, c2⟩ := h2.cells
     simp only at c1
     obtain ⟨K, hK⟩ : ∃ K, K = pos s r2 := ⟨_, rfl⟩
     rw [← hK] at c1
     have HK := hide hK
     clear hm hK
     go_wp2_with fail
     refine (throw_any _ _ w2).mono ?_
     intro e w3 hh
     rw [hh.1, hh.2]
     clear hh
     go_wp2_with fail
     exact ⟨rfl, .inr ⟨_, HE.out, by rw [HK.out]; rfl⟩, G2⟩
    ·have em : ((N : Int) == 5) = false := by rw [beq_eq_false_iff_ne]; omega
     have HNE : Hid (l.length ≠ 5) := by rw [← HL.out.2.2]; exact hm
     have hN2 : N + 1 ≤ 5 := by omega
     clear hm
     go_wp2_with fail
     refine (pmatch_read s ⟨r2, st.n⟩ B w2 h2 hs).mono ?_
     rintro e w3 ⟨⟨m, r3, hx, rfl, h3⟩ | ⟨f, hf, rfl⟩, g3⟩
     ·have own3 := own_grown own2 g3 hB
      have G3 := grown_trans G2 g3 (fun _ hk => .inl hk)
      have hs3 := G3.size
      have HL2 : Hid (lst mtc 5 st.r = lstF mtc 5 k' (l ++ [m]) r3 ∧ k' + (N + 1) = 5 + 1 ∧ N + 1 = (l ++ [m]).length) := ⟨by rw [HL.out.1, lstF_ok HA.out HNE.out (hx)], by have := HL.out.2.1; omega, by rw [List.length_append, ← HL.out.2.2]; rfl⟩
      clear hx HL own2 G2 h2 g3
      have RA := h3.alloc (.cells #[.int .i64 m.kind, .string m.key, .string m.val] 183)
      have OA := own3.alloc (.cells #[.int .i64 m.kind, .string m.key, .string m.val] 183)
      have HRA := hide RA
      have HOA := hide OA
      clear RA OA h3
      go_wp2_with (at_builtin; refine wpList_append_lies _ rfl _ _ 37 rfl w.heap.size 183 i0 (.agg #[.int .i64 0, .string ⟨#[]⟩, .string ⟨#[]⟩]) 3 40 Tryz.underlying37 hi hz0 hz1 hz2 rfl (by decide) _ _ _ rfl (own3.alloc _) ⟨w3.heap.size, 0, none⟩ 1 1 [.int .i64 m.kind, .string m.key, .string m.val] rfl rfl (news_three rfl _ _ _ _) (by simp [Value.oneCell']) (by decide) (by unfold maxLen; omega) (by omega) (by simp; omega) (w3.heap.size + 1) (by simp) ?_)
      intro g' cp' w5 own5 gr5 hat5 hlt5
      have own6 : w5.ownsRow w.heap.size 183 3 (.slice (some ⟨g', 0, none⟩) (N + 1) cp') (N + 1) (mcells (l ++ [m])) := by
       rw [mcells_snoc]; exact own5
      have R5 := HRA.out.app hB HOA.out gr5
      have G5 : w.grownBy w5 (some B) := grown_trans (grown_trans G3 (World.grownBy_alloc w3 (.cells #[.int .i64 m.kind, .string m.key, .string m.val] 183) none) (fun _ hk => by cases hk)) gr5 (fun j hj => .inr (HOA.out.lt j hj).1)
      clear own5 gr5 hat5 hlt5 own3 G3 HRA HOA
      go_wp2
      go_roundw
      case rel => exact ⟨k', N + 1, cp', _, l ++ [m], r3, rfl, HL2, by omega, own6, R5, G5⟩
      case measure => simp [slen]; omega
     ·have HE : Hid (lst mtc 5 st.r = .error f) := by show _ = _; rw [HL.out.1, lstF_err HA.out HNE.out (hf)]
      have G3 := grown_trans G2 g3 (fun _ hk => .inl hk)
      clear hf
      go_wp2_with fail
      exact ⟨rfl, .inr ⟨_, HE.out, rfl⟩, G3⟩
 ·have HE : Hid (lst mtc 5 st.r = .error f) := by show _ = _; unfold lst; rw [hf]
  clear hf
  go_wp2_with fail
  exact ⟨rfl, .inr ⟨_, HE.out, rfl⟩, g1⟩
theorem words1_ok {r x r' : List UInt8} (h : wrd r = .ok (x, r')) : words1 r = .ok (lit x, r') := by unfold words1; rw [h]
theorem words1_no {r : List UInt8} {f : Flt} (h : wrd r = .error f) : words1 r = .error f := by unfold words1; rw [h]
set_option maxHeartbeats 4000000 in
theorem listw_any (s : ByteArray) (st : St) (B : Nat) (w : World) (h : Rd 95 w B s st) (hs : s.size ≤ 2000) :
  Calls Tryz.prog 220 #[.pointer (some ⟨B, 0, none⟩), .int .i64 4, .func (.func 218) #[.pointer (some ⟨B, 0, none⟩)] #[]] w fun e w' => ((∃ l r co N c, lst words1 4 st.r = .ok (l, r) ∧ e = .returned (.slice co N c) ∧ w'.ownsRow w.heap.size 9 1 (.slice co N c) N (wcells l) ∧ Rd 95 w' B s ⟨r, st.n⟩) ∨ ∃ f, lst words1 4 st.r = .error f ∧ e = .panicked [thr s f]) ∧ w.grownBy w' (some B) := by
 obtain ⟨i0, hi, hz0, hz1, hz2⟩ := info_parts Tryz.infoStr
 have hB := h.lt
 have HP := hide (word_any s st B w h hs)
 go_enter Tryz.func220, Tryz.ntmps220
 go_wp2_with fail
 refine HP.out.mono ?_
 rintro e w1 ⟨⟨x, r1, hx, rfl, h1⟩ | ⟨f, hf, rfl⟩, g1⟩
 ·have HX : Hid (lst words1 4 st.r = lstF words1 4 4 [lit x] r1) := by show _ = _; unfold lst; rw [words1_ok hx]
  have hsz1 := g1.size
  have OW : (w1.alloc (.cells #[.string (lit x)] 9)).ownsRow w.heap.size 9 1 (.slice (some ⟨w1.heap.size, 0, none⟩) 1 1) 1 (wcells [lit x]) :=
   ⟨rfl, .inr ⟨w1.heap.size, 1, #[.string (lit x)], rfl, hsz1, heap_alloc_new w1 _, Nat.le_refl _, by unfold maxLen; omega, rfl, rfl⟩⟩
  have RW := h1.alloc (.cells #[.string (lit x)] 9)
  have GW := grown_trans g1 (World.grownBy_alloc w1 (.cells #[.string (lit x)] 9) none) (fun _ hk => by cases hk)
  have HO := hide OW
  have HRW := hide RW
  have HGW := hide GW
  clear OW RW GW hx HP h1 g1
  go_wp2_with fail
  go_loopw [7] (fun out wr => ∃ (k N c : Nat) (co : Option Addr) (l : List ByteArray) (q : List UInt8), out = .slice co N c ∧ Hid (lst words1 4 st.r = lstF words1 4 k l q ∧ k + N = 4 + 1 ∧ N = l.length) ∧ N ≤ 4 ∧ wr.ownsRow w.heap.size 9 1 (.slice co N c) N (wcells l) ∧ Rd 95 wr B s ⟨q, st.n⟩ ∧ w.grownBy wr (some B)) (fun out _ => 4 + 1 - slen out)
  case atStart => exact ⟨4, 1, 1, _, [lit x], r1, rfl, ⟨HX.out, by omega, rfl⟩, by omega, HO.out, HRW.out, HGW.out⟩
  case round =>
   obtain ⟨k, N, c, co, l, q, rfl, HL, hN, own, R, gr⟩ := hrel
   clear HX HO HRW HGW
   have A1 := hide (accept_any [44] s ⟨q, st.n⟩ B wr R hs)
   unfold lit at A1
   obtain ⟨k', hk'⟩ : ∃ k', k = k' + 1 := ⟨k - 1, by have := HL.out.2.1; omega⟩
   subst hk'
   cases ha : acc [44] q with
   | none =>
    rw [ha] at A1
    simp only [Option.getD_none, Option.isSome_none] at A1
    have HU : Hid (lst words1 4 st.r = .ok (l, q)) := by show _ = _; rw [HL.out.1, lstF_none ha]
    clear ha
    go_wp2_with fail
    refine A1.out.mono ?_
    rintro e w2 ⟨rfl, h2, g2⟩
    have own2 := own_grown own g2 hB
    have G2 := grown_trans gr g2 (fun _ hk => .inl hk)
    go_wp2_with fail
    go_ret
    exact ⟨.inl ⟨l, q, co, N, c, HU.out, rfl, own2, h2⟩, G2⟩
   | some r2 =>
    rw [ha] at A1
    simp only [Option.getD_some, Option.isSome_some] at A1
    have HA := hide ha
    clear ha
    go_wp2_with fail
    refine A1.out.mono ?_
    rintro e w2 ⟨rfl, h2, g2⟩
    have own2 := own_grown own g2 hB
    have G2 := grown_trans gr g2 (fun _ hk => .inl hk)
    clear own R gr g2 A1
    by_cases hm : N = 4
    ·have HE : Hid (lst words1 4 st.r = .error (5, r2.length)) := by show _ = _; rw [HL.out.1, lstF_full HA.out (by rw [← HL.out.2.2]; exact hm)]
     have em : ((N : Int) == 4) = true := by rw [hm]; rfl
     obtain ⟨c0, c1, c2⟩ := h2.cells
     simp only at c1
     obtain ⟨K, hK⟩ : ∃ K, K = pos s r2 := ⟨_, rfl⟩
     rw [← hK] at c1
     have HK := hide hK
     clear hm hK
     go_wp2_with fail
     refine (throw_any _ _ w2).mono ?_
     intro e w3 hh
     rw [hh.1, hh.2]
     clear hh
     go_wp2_with fail
     exact ⟨rfl, .inr ⟨_, HE.out, by rw [HK.out]; rfl⟩, G2⟩
    ·have em : ((N : Int) == 4) = false := by rw [beq_eq_false_iff_ne]; omega
     have HNE : Hid (l.length ≠ 4) := by rw [← HL.out.2.2]; exact hm
     have hN2 : N + 1 ≤ 4 := by omega
     clear hm
     go_wp2_with fail
     refine (word_any s ⟨r2, st.n⟩ B w2 h2 hs).mono ?_
     rintro e w3 ⟨⟨x, r3, hx, rfl, h3⟩ | ⟨f, hf, rfl⟩, g3⟩
     ·have own3 := own_grown own2 g3 hB
      have G3 := grown_trans G2 g3 (fun _ hk => .inl hk)
      have hs3 := G3.size
      have HL2 : Hid (lst words1 4 st.r = lstF words1 4 k' (l ++ [lit x]) r3 ∧ k' + (N + 1) = 4 + 1 ∧ N + 1 = (l ++ [lit x]).length) := ⟨by rw [HL.out.1, lstF_ok HA.out HNE.out (words1_ok hx)], by have := HL.out.2.1; omega, by rw [List.length_append, ← HL.out.2.2]; rfl⟩
      clear hx HL own2 G2 h2 g3
      have RA := h3.alloc (.cells #[.string (lit x)] 9)
      have OA := own3.alloc (.cells #[.string (lit x)] 9)
      have HRA := hide RA
      have HOA := hide OA
      clear RA OA h3
      go_wp2_with (at_builtin; refine wpList_append_lies _ rfl _ _ 38 rfl w.heap.size 9 i0 (.string ⟨#[]⟩) 1 16 Tryz.underlying38 hi hz0 hz1 hz2 rfl (by decide) _ _ _ rfl (own3.alloc _) ⟨w3.heap.size, 0, none⟩ 1 1 [.string (lit x)] rfl rfl (news_one rfl _ _) (by simp [Value.oneCell']) (by decide) (by unfold maxLen; omega) (by omega) (by simp; omega) (w3.heap.size + 1) (by simp) ?_)
      intro g' cp' w5 own5 gr5 hat5 hlt5
      have own6 : w5.ownsRow w.heap.size 9 1 (.slice (some ⟨g', 0, none⟩) (N + 1) cp') (N + 1) (wcells (l ++ [lit x])) := by
       rw [wcells_snoc]; exact own5
      have R5 := HRA.out.app hB HOA.out gr5
      have G5 : w.grownBy w5 (some B) := grown_trans (grown_trans G3 (World.grownBy_alloc w3 (.cells #[.string (lit x)] 9) none) (fun _ hk => by cases hk)) gr5 (fun j hj => .inr (HOA.out.lt j hj).1)
      clear own5 gr5 hat5 hlt5 own3 G3 HRA HOA
      go_wp2
      go_roundw
      case rel => exact ⟨k', N + 1, cp', _, l ++ [lit x], r3, rfl, HL2, by omega, own6, R5, G5⟩
      case measure => simp [slen]; omega
     ·have HE : Hid (lst words1 4 st.r = .error f) := by show _ = _; rw [HL.out.1, lstF_err HA.out HNE.out (words1_no hf)]
      have G3 := grown_trans G2 g3 (fun _ hk => .inl hk)
      clear hf
      go_wp2_with fail
      exact ⟨rfl, .inr ⟨_, HE.out, rfl⟩, G3⟩
 ·have HE : Hid (lst words1 4 st.r = .error f) := by show _ = _; unfold lst; rw [words1_no hf]
  clear hf
  go_wp2_with fail
  exact ⟨rfl, .inr ⟨_, HE.out, rfl⟩, g1⟩
end Go.Proofs.YtoldmigappbjcaaGreatDoor
