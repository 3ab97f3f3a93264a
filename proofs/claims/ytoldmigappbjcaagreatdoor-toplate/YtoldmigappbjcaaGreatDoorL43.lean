import Derived.Test.YtoldmigappbjcaaGreatDoorL38
import Derived.Test.YtoldmigappbjcaaGreatDoorL39
import Derived.Test.YtoldmigappbjcaaGreatDoorL42
namespace Go.GrainU
open Go.RowKit
def lnsB (l : List Kp) : List Ln := l.map fun k => (k.s.se, k.A)
def FewB (m : Nat) (b : Bs) : Prop := ∀ k ∈ b.l, k.A.length ≤ m
theorem FewB.mono {m m' : Nat} {b : Bs} (h : FewB m b) (hm : m ≤ m') : FewB m' b := fun k hk => Nat.le_trans (h k hk) hm
theorem eachB_A {f : Grain.Shf → Grain.Shf × Int} : ∀ (l l' : List Kp), eachB f l = .ok l' → l'.map (fun k => k.A) = l.map (fun k => k.A) := by
 intro l
 induction l with
 | nil => intro l' h; simp [eachB] at h; subst h; rfl
 | cons a r ih =>
  intro l' h
  by_cases ha : (f a.s).2 = 0
  ·simp only [eachB, ha, if_true] at h
   cases hr : eachB f r with
   | error x => rw [hr] at h; simp at h
   | ok r' =>
    rw [hr] at h
    simp at h
    subst h
    simp [ih r' hr]
  ·simp [eachB, ha] at h
theorem few_map {m : Nat} {l l' : List Kp} (e : l'.map (fun k => k.A) = l.map (fun k => k.A)) (h : ∀ k ∈ l, k.A.length ≤ m) : ∀ k ∈ l', k.A.length ≤ m := by
 intro k hk
 have h1 : k.A ∈ l'.map (fun k => k.A) := List.mem_map_of_mem hk
 rw [e] at h1
 obtain ⟨y, hy, e2⟩ := List.mem_map.1 h1
 rw [← e2]; exact h y hy
theorem kp_few {m : Nat} {l : List Kp} (h : ∀ k ∈ l, k.A.length ≤ m) (i : Nat) : (kp l i).A.length ≤ m := by
 by_cases hi : i < l.length
 ·exact h _ (kp_mem hi)
 ·have : kp l i = ⟨Grain.szero, []⟩ := by simp [kp, List.getD, List.getElem?_eq_none (Nat.le_of_not_lt hi)]
  rw [this]; simp
theorem takeB_few {m : Nat} {b : Bs} (h : FewB m b) (s : Lb) (t v : Int) : FewB (m + 1) (takeB b s t v).1 := by
 have h' : FewB (m + 1) b := h.mono (by omega)
 unfold takeB
 repeat' split
 all_goals first | exact h' | skip
 ·unfold putB
  split
  ·intro k hk
   rcases List.mem_or_eq_of_mem_set hk with e | e
   ·exact h' k e
   ·rw [e]
    have := kp_few h (bpos b.l s)
    simp; omega
  ·exact h'
 ·unfold putN
  repeat' split
  all_goals first | exact h' | skip
  intro k hk
  rcases List.mem_append.1 hk with hk | hk
  ·rcases List.mem_append.1 hk with hk | hk
   ·exact h' k (List.mem_of_mem_take hk)
   ·simp at hk; rw [hk]; simp
  ·exact h' k (List.mem_of_mem_drop hk)
theorem doB_few {m : Nat} {b : Bs} (h : FewB m b) (d : Dn) : FewB (m + 1) (doB b d).1 := by
 have h' : FewB (m + 1) b := h.mono (by omega)
 unfold doB
 repeat' split
 ·exact takeB_few h _ _ _
 ·show FewB (m + 1) (rollB b d.till).1
  unfold rollB
  split
  ·exact h'
  ·cases he : eachB (fun s => Grain.sroll s d.till) b.l with
   | error x => exact h'
   | ok l => exact few_map (eachB_A _ _ he) h'
 ·show FewB (m + 1) (forgB b d.tier d.till).1
  unfold forgB
  split
  ·exact h'
  ·split
   ·cases he : eachB (fun s => Grain.sforg s d.tier d.till) b.l with
    | error x => exact h'
    | ok l => exact few_map (eachB_A _ _ he) h'
   ·exact h'
 ·exact h'
 ·exact h'
theorem playB_few : ∀ (l : List Dn) {m : Nat} {b : Bs}, FewB m b → FewB (m + l.length) (playB b l).1
 | [], m, b, h => h
 | d :: r, m, b, h => by
  have := playB_few r (doB_few h d)
  simp only [playB, List.length_cons]
  exact this.mono (by omega)
theorem kp_right {s : Grain.Shf} {A : List (Int × Int)} (hk : Grain.Keeps s A) (h5 : A.length ≤ 500) : Grain.Right A :=
 Grain.right_of ((Grain.right_iff A).2 ⟨h5, hk.took.rin, hk.took.pw⟩)
theorem look_of {s : Grain.Shf} {A : List (Int × Int)} (hk : Grain.Keeps s A) {f t : Int} {J : Grain.Sm} (h : lookS s f t = .ok J) : J = Grain.of (Grain.win A f t) := by
 unfold lookS at h
 by_cases h0 : (Grain.choose s f t).2 = 0
 ·rw [if_pos h0] at h
  obtain ⟨hc, _, hw⟩ := Grain.choose_ok h0
  have hf := Grain.cvr_fol hc
  have hr : Grain.read s (Grain.choose s f t).1 = (Grain.rdS s (Grain.choose s f t).1, (Grain.rdN s (Grain.choose s f t).1 : Int), 0) := by
   unfold Grain.read
   rw [if_neg (by simp [hw]), if_neg (by rw [hf]; decide)]
  rw [hr] at h
  simp at h
  rw [← h]; exact Grain.rdS_exact hk _ _ hc
 ·rw [if_neg h0] at h; simp at h
theorem st_sersB {l : List Kp} {k : Nat} : (st (sersB l) k).ser = (kp l k).s.se := by
 by_cases hk : k < l.length
 ·simp [st, sersB, kp, List.getD, hk]
 ·simp [st, sersB, kp, List.getD, List.getElem?_eq_none (Nat.le_of_not_lt hk), Grain.szero]
theorem lnsB_take {l : List Kp} {k : Nat} (h : k < l.length) : lnsB (l.take (k + 1)) = lnsB (l.take k) ++ [((kp l k).s.se, (kp l k).A)] := by
 unfold lnsB
 rw [List.take_add_one, List.getElem?_eq_getElem h, kp_get h, List.map_append]; rfl
theorem winT_keeps {l : List Kp} (hk : ∀ k ∈ l, Grain.Keeps k.s k.A) (h5 : ∀ k ∈ l, k.A.length ≤ 500) (h : Hd) (time : Int) : ∀ (k : Nat), k ≤ l.length → ∀ c, winT (fun i => lookS (kp l i).s (max 0 (time - h.range)) time) h (sersB l) k = .ok c → c = winC (lnsB (l.take k)) h time := by
 intro k
 induction k with
 | zero => intro _ c hc; simp [winT] at hc; subst hc; rfl
 | succ k ih =>
  intro hkl c hc
  have hk' : k < l.length := by omega
  have hx : winX ((kp l k).s.se, (kp l k).A) h time = if says (kp l k).s.se h.ms = true then (if (valP h.word (Grain.of (Grain.win (kp l k).A (time - h.range) time))).2 = true then [((kp l k).s.se, (valP h.word (Grain.of (Grain.win (kp l k).A (time - h.range) time))).1)] else []) else [] := rfl
  rw [winT] at hc
  cases hp : winT (fun i => lookS (kp l i).s (max 0 (time - h.range)) time) h (sersB l) k with
  | error x => rw [hp] at hc; simp at hc
  | ok c0 =>
   rw [hp] at hc
   have e0 := ih (by omega) c0 hp
   rw [lnsB_take hk', winC_append, ← e0]
   simp only [winC, List.append_nil]
   rw [hx]
   simp only [st_sersB] at hc
   by_cases e : says (kp l k).s.se h.ms = true
   ·rw [if_pos e] at hc ⊢
    cases hl : lookS (kp l k).s (max 0 (time - h.range)) time with
    | error x => rw [hl] at hc; simp at hc
    | ok J =>
     rw [hl] at hc
     have hJ := look_of (hk _ (kp_mem hk')) hl
     rw [win_max (kp_right (hk _ (kp_mem hk')) (h5 _ (kp_mem hk')))] at hJ
     injection hc with hc
     rw [← hc, hJ]
   ·rw [if_neg e] at hc ⊢
    injection hc with hc
    rw [← hc]; simp
theorem lnsB_fine {l : List Kp} (hk : ∀ k ∈ l, Grain.Keeps k.s k.A) (h5 : ∀ k ∈ l, k.A.length ≤ 500) : ∀ x ∈ lnsB l, x.1.length ≤ 4 ∧ Grain.Right x.2 := by
 intro x hx
 obtain ⟨k, hkm, rfl⟩ := List.mem_map.1 hx
 exact ⟨wrongS_len (hk k hkm).sr.se, kp_right (hk k hkm) (h5 k hkm)⟩
theorem base_gd {b : Bs} (hb : BInv b) (h5 : FewB 500 b) (time : Int) : ∀ h, winBad h = 0 → ∀ c, overW (fun i f t => lookS (kp b.l i).s f t) (sersB b.l) b.l.length time h = .ok c → Gd ⟨false, c⟩ := by
 intro h _ c hc
 have e := winT_keeps hb.kee h5 h time b.l.length (Nat.le_refl _) c hc
 rw [List.take_of_length_le (Nat.le_refl _)] at e
 rw [e]
 exact gd_win (lnsB_fine hb.kee h5) (by simp [lnsB]; exact hb.len) h time
theorem base_bd {b : Bs} (hb : BInv b) (h5 : FewB 500 b) (time : Int) : ∀ i a s, lookS (kp b.l i).s a time = .ok s → -9223372036854775808 ≤ s.t ∧ s.t ≤ 9223372036854775807 := by
 intro i a s hs
 by_cases hi : i < b.l.length
 ·have hR := kp_right (hb.kee _ (kp_mem hi)) (h5 _ (kp_mem hi))
  have e := look_of (hb.kee _ (kp_mem hi)) hs
  have hl5 : (Grain.win (kp b.l i).A a time).length ≤ 500 := Nat.le_trans (Grain.win_len _ _ _) hR.few
  have h1 := (of_ok (Grain_win_val hR a time) hl5).t
  rw [e]
  omega
 ·have e : kp b.l i = ⟨Grain.szero, []⟩ := by simp [kp, List.getD, List.getElem?_eq_none (Nat.le_of_not_lt hi)]
  rw [e] at hs
  have hk : Grain.Keeps Grain.szero [] := Grain.keeps_new (se := []) (by decide)
  have e2 := look_of hk hs
  rw [e2]
  show -9223372036854775808 ≤ (0 : Int) ∧ (0 : Int) ≤ 9223372036854775807
  decide
end Go.GrainU
namespace Go.Proofs.YtoldmigappbjcaaGreatDoor
open Go.RowKit Go.GrainU
set_option maxRecDepth 100000 in
set_option maxHeartbeats 4000000 in
theorem bsum_any (C1 C2 : Nat) (S : Except Int Grain.Sm) (k : Nat) (I : Nat → World → Prop) (r : Option Nat) (Nb Bs Bf Bt : Nat) (hB : Beside r Nb I) (i a b : Int) (w : World) (cc : Nat) (hI : I cc w) (hNw : Nb ≤ w.heap.size)
  (cs : w.cell? ⟨Bs, 0, none⟩ = some (.func (.func 102) #[] #[.pointer (some ⟨C1, 0, none⟩), .pointer (some ⟨C2, 0, none⟩)])) (cf : w.cell? ⟨Bf, 0, none⟩ = some (.int .i64 a)) (ct : w.cell? ⟨Bt, 0, none⟩ = some (.int .i64 b))
  (hsum : ∀ (w' : World), I cc w' → Below w.heap.size w w' → Calls Tryz.prog 102 #[.int .i64 i, .int .i64 a, .int .i64 b, .pointer (some ⟨C1, 0, none⟩), .pointer (some ⟨C2, 0, none⟩)] w' fun e w'' => SPost S I r cc k w' e w'') :
  Calls Tryz.prog 70 #[.int .i64 i, .pointer (some ⟨Bs, 0, none⟩), .pointer (some ⟨Bf, 0, none⟩), .pointer (some ⟨Bt, 0, none⟩)] w fun e w' => SPost S I r cc k w e w' := by
 have HSum := hide hsum
 have ls : Bs < w.heap.size := World.block_lt_of_cell? w _ cs
 have lf : Bf < w.heap.size := World.block_lt_of_cell? w _ cf
 have lt' : Bt < w.heap.size := World.block_lt_of_cell? w _ ct
 obtain ⟨W, hW⟩ : ∃ W, W = w.alloc (.cells #[.int .i64 0, .int .i64 0, .int .i64 0, .int .i64 0, .int .i64 0, .int .i64 0, .int .i64 0] 76) := ⟨_, rfl⟩
 have bel0 : Below w.heap.size w W := by rw [hW]; exact (Below.refl _ _).alloc (Nat.le_refl _) _
 have F0 : W.heap[w.heap.size]? = some (.cells #[.int .i64 0, .int .i64 0, .int .i64 0, .int .i64 0, .int .i64 0, .int .i64 0, .int .i64 0] 76 (0, 0)) := by rw [hW]; exact heap_alloc_new w _
 have PS := hide (HSum.out W (hB.kept _ _ _ hI (bel0.mono hNw)) bel0)
 have HKp := hide (fun c' w1 w2 (h1 : I c' w1) (h2 : Below w.heap.size w1 w2) => hB.kept c' w1 w2 h1 (h2.mono hNw))
 have HW := hide hW
 have HB := hide hB
 have HNw := hide hNw
 clear hsum hW HSum hB hI hNw
 go_enter Tryz.func70, Tryz.ntmps70
 go_wp2_with fail
 rw [← HW.out]
 refine PS.out.mono ?_
 rintro e w1 ⟨hp, b1⟩
 have F1 := bel_block b1 HB.out.row HNw.out F0
 have bw : Bel r w.heap.size w w1 := (Bel.of bel0 r).trans (b1.mono bel0.size)
 obtain ⟨p0, p1, p2, p3, p4, p5, p6⟩ := seven_cells F1
 obtain ⟨f0, f1, f2, f3, f4, f5, f6⟩ := seven_thaw F1
 have l0 : w.heap.size < w1.heap.size := lt_of_block F1
 have HP := hide hp
 clear hp PS HB
 rcases HP.out with ⟨y, J, hy, ho, he⟩ | ⟨J, ho, he, hI2⟩
 ·rw [he]
  unfold sumv
  have HO := hide ho
  have HY := hide hy
  clear HP ho he hy
  go_wp2
  exact bodyPost_ret (v := sumv J y) (by simp [sumv, results, Tryz.results70, go_sem, p0, p1, p2, p3, p4, p5, p6]) rfl ⟨.inl ⟨y, J, HY.out, HO.out, rfl⟩, bw.trans (Bel.of (below_set7 (Below.refl w.heap.size w1) (Nat.le_refl _) _ _ _ _ _ _ _) r)⟩
 ·rw [he]
  unfold sumv
  have HO := hide ho
  have HI2 := hide hI2
  clear HP ho he hI2
  go_wp2
  exact bodyPost_ret (v := sumv J 0) (by simp [sumv, results, Tryz.results70, go_sem, p0, p1, p2, p3, p4, p5, p6]) rfl ⟨.inr ⟨J, HO.out, rfl, HKp.out _ _ _ HI2.out (below_set7 (Below.refl w.heap.size w1) (Nat.le_refl _) _ _ _ _ _ _ _)⟩, bw.trans (Bel.of (below_set7 (Below.refl w.heap.size w1) (Nat.le_refl _) _ _ _ _ _ _ _) r)⟩
set_option maxRecDepth 100000 in
set_option maxHeartbeats 4000000 in
theorem bover1_any (C1 C2 : Nat) (l : List ST) (t : ET) (S : Nat → Except Int Grain.Sm) (K : Nat → Nat) (I : Nat → World → Prop) (r : Option Nat) (Nb Bt Bl Bs : Nat) (hB : Beside r Nb I) (ao : Option Addr) (n cap : Nat) (time : Int) (w : World) (cc : Nat) (hI : I cc w) (hNw : Nb ≤ w.heap.size) (hs : SsIn w ao l) (hin : t.In w) (hn : n = l.length) (hn8 : n ≤ 8)
  (ht0 : 0 ≤ time) (ht1 : time ≤ 1000000) (hr0 : 1 ≤ t.hd.range) (hr1 : t.hd.range ≤ 100000)
  (ct : w.cell? ⟨Bt, 0, none⟩ = some (.int .i64 time)) (hrt : r ≠ some Bt) (cl : w.cell? ⟨Bl, 0, none⟩ = some (.slice ao n cap)) (cs : w.cell? ⟨Bs, 0, none⟩ = some (.func (.func 102) #[] #[.pointer (some ⟨C1, 0, none⟩), .pointer (some ⟨C2, 0, none⟩)]))
  (hS : ∀ i s, S i = .ok s → -9223372036854775808 ≤ s.t ∧ s.t ≤ 9223372036854775807)
  (hsum : ∀ (i : Nat) (w' : World) (c' : Nat), i < n → I c' w' → Bel r w.heap.size w w' → Calls Tryz.prog 102 #[.int .i64 i, .int .i64 (max 0 (time - t.hd.range)), .int .i64 time, .pointer (some ⟨C1, 0, none⟩), .pointer (some ⟨C2, 0, none⟩)] w' fun e w'' => SPost (S i) I r c' (K i) w' e w'') :
  Calls Tryz.prog 68 #[eval t, .pointer (some ⟨Bt, 0, none⟩), .pointer (some ⟨Bl, 0, none⟩), .pointer (some ⟨Bs, 0, none⟩)] w fun e w' => GPost (wopt (winT S t.hd l n)) I r cc (winKT K t.hd l n) w e w' := by
 have HSo := hide (hB.solo cc w hI)
 have hrs : r ≠ some Bs := fun e => HSo.out Bs e _ _ cs
 have lt1 : Bt < w.heap.size := World.block_lt_of_cell? w _ ct
 have ll1 : Bl < w.heap.size := World.block_lt_of_cell? w _ cl
 have ls1 : Bs < w.heap.size := World.block_lt_of_cell? w _ cs
 obtain ⟨RR, hRR⟩ : ∃ RR, RR = wopt (winT S t.hd l n) := ⟨_, rfl⟩
 obtain ⟨KK, hKK⟩ : ∃ KK, KK = winKT K t.hd l n := ⟨_, rfl⟩
 have PW : Hid (∀ (V : World) (Bf : Nat), Below w.heap.size w V → V.heap[Bf]? = some (.cells #[.int .i64 (max 0 (time - t.hd.range))] 3 (0, 0)) → w.heap.size ≤ Bf → Calls Tryz.prog 69 #[.slice ao n cap, eval t, .func (.func 70) #[] #[.pointer (some ⟨Bs, 0, none⟩), .pointer (some ⟨Bf, 0, none⟩), .pointer (some ⟨Bt, 0, none⟩)]] V fun e w' => GPost RR I r cc KK V e w') := by
  intro V Bf bV hf hfl
  rw [hRR, hKK]
  have lf : Bf < V.heap.size := lt_of_block hf
  refine gwin_any l t S K I r Nb Bs Bf Bt hB ao n cap V cc (hB.kept _ _ _ hI (bV.mono hNw)) (Nat.le_trans hNw bV.size) (hs.bel HSo.out (Bel.of bV r)) (ET.In.below bV t hin) hn hn8 hS ?_
  intro i w' c' hi hI' hb
  have hb1 : Bel r w.heap.size w w' := bel_step hb (Bel.of bV r)
  refine bsum_any C1 C2 (S i) (K i) I r Nb Bs Bf Bt hB i (max 0 (time - t.hd.range)) time w' c' hI' (Nat.le_trans hNw hb1.size) ((hb1.cell ls1 hrs).trans cs) ?_ ((hb1.cell lt1 hrt).trans ct) ?_
  ·rw [hb.cell lf (fun e => by have := hB.row Bf e; omega)]
   simp [World.cell?, hf]
  ·intro w'' h1 h2
   exact hsum i w'' c' hi h1 (bel_below h2 hb1)
 rw [← hRR, ← hKK]
 have HKp := hide (fun c' w1 w2 (h1 : I c' w1) (h2 : Below w.heap.size w1 w2) => hB.kept c' w1 w2 h1 (h2.mono hNw))
 have HB := hide hB
 have HNw := hide hNw
 clear hsum hS hs hin hn hB hI hNw hrs hrt hRR hKK
 unfold eval at PW ⊢
 generalize t.hd.ms.length = ml at PW ⊢
 generalize t.hd.bs.length = bl at PW ⊢
 generalize t.kids.length = kl at PW ⊢
 obtain ⟨rg, hrg⟩ : ∃ rg, rg = t.hd.range := ⟨_, rfl⟩
 rw [← hrg] at hr0 hr1 PW ⊢
 have tw : IntKind.i64.wrap (time - rg) = time - rg := by rw [IntKind.wrap_i64]; omega
 obtain ⟨W, hW⟩ : ∃ W, W = (((w.alloc (.cells #[.int .i64 t.hd.kind, .int .i64 t.hd.n, .int .i64 rg, .string t.hd.word, .slice t.sp.ma ml t.sp.mc, .slice t.sp.ba bl t.sp.bc, .slice t.sp.ka kl t.sp.kc] 41)).alloc (.cells #[.bool false, .slice none 0 0] 131)).alloc (.cells #[.int .i64 (max 0 (time - rg))] 3)) := ⟨_, rfl⟩
 have bel0 : Below w.heap.size w W := by rw [hW]; exact (((Below.refl _ _).alloc (Nat.le_refl _) _).alloc (by simp) _).alloc (by simp; omega) _
 have G0 : W.heap[w.heap.size + 1]? = some (.cells #[.bool false, .slice none 0 0] 131 (0, 0)) := by
  rw [hW, Below.heap_alloc _ _ _ (by simp)]
  have := heap_alloc_new (w.alloc (.cells #[.int .i64 t.hd.kind, .int .i64 t.hd.n, .int .i64 rg, .string t.hd.word, .slice t.sp.ma ml t.sp.mc, .slice t.sp.ba bl t.sp.bc, .slice t.sp.ka kl t.sp.kc] 41)) (.cells #[.bool false, .slice none 0 0] 131)
  simpa using this
 have T0 : W.heap[w.heap.size + 1 + 1]? = some (.cells #[.int .i64 (max 0 (time - rg))] 3 (0, 0)) := by
  have := heap_alloc_new ((w.alloc (.cells #[.int .i64 t.hd.kind, .int .i64 t.hd.n, .int .i64 rg, .string t.hd.word, .slice t.sp.ma ml t.sp.mc, .slice t.sp.ba bl t.sp.bc, .slice t.sp.ka kl t.sp.kc] 41)).alloc (.cells #[.bool false, .slice none 0 0] 131)) (.cells #[.int .i64 (max 0 (time - rg))] 3)
  rw [hW]; simpa using this
 have kl1 : (((w.alloc (.cells #[.int .i64 t.hd.kind, .int .i64 t.hd.n, .int .i64 rg, .string t.hd.word, .slice t.sp.ma ml t.sp.mc, .slice t.sp.ba bl t.sp.bc, .slice t.sp.ka kl t.sp.kc] 41)).alloc (.cells #[.bool false, .slice none 0 0] 131)).alloc (.cells #[.int .i64 (max 0 (time - rg))] 3)).cell? ⟨Bl, 0, none⟩ = some (.slice ao n cap) := by
  rw [← hW]; exact (bel0.cell (p := ⟨Bl, 0, none⟩) ll1).trans cl
 have PW1 := hide (PW.out W (w.heap.size + 1 + 1) bel0 T0 (by omega))
 have HW := hide hW
 have HB0 := hide bel0
 clear hrg hW PW T0 bel0
 go_enter Tryz.func68, Tryz.ntmps68
 go_wp2_with fail
 rw [← HW.out]
 refine PW1.out.mono ?_
 rintro e w1 ⟨hp, b1⟩
 have G1 := bel_block b1 HB.out.row (Nat.le_trans HNw.out (Nat.le_succ _)) G0
 obtain ⟨t0, t1, t2, t3⟩ := two_cells G1
 have bw : Bel r w.heap.size w w1 := (Bel.of HB0.out r).trans (b1.mono HB0.out.size)
 have HP := hide hp
 clear hp PW1 kl1 G0
 rcases HP.out with ⟨x, hx, ho, he⟩ | ⟨nb2, cts2, co2, N2, d2, he, ho, hN, hC, hI2⟩
 ·rw [he]
  have HE3 := hide ho
  have HX := hide hx
  clear HP ho he hx
  go_wp2
  exact bodyPost_ret (v := .tuple #[.agg #[.bool false, .slice none 0 0], .int .i64 x]) (by simp [results, Tryz.results68, go_sem, t0, t1]) rfl ⟨.inl ⟨x, HX.out, HE3.out, rfl⟩, (bw.setCell (by show w.heap.size ≤ w.heap.size + 1; omega) _).setCell (by show w.heap.size ≤ w.heap.size + 1; omega) _⟩
 ·rw [he]
  have HE3 := hide ho
  have HN2 := hide hN
  have HI2 := hide hI2
  clear HP ho he hN hI2
  go_wp2
  exact bodyPost_ret (v := .tuple #[.agg #[.bool nb2, .slice co2 N2 d2], .int .i64 0]) (by simp [results, Tryz.results68, go_sem, t0, t1]) rfl ⟨.inr ⟨nb2, cts2, co2, N2, d2, rfl, HE3.out, HN2.out, hC.stored G1 nb2 _, HKp.out _ _ _ HI2.out (((Below.refl _ _).setCell (by show w.heap.size ≤ w.heap.size + 1; omega) _).setCell (by show w.heap.size ≤ w.heap.size + 1; omega) _)⟩, (bw.setCell (by show w.heap.size ≤ w.heap.size + 1; omega) _).setCell (by show w.heap.size ≤ w.heap.size + 1; omega) _⟩
set_option maxRecDepth 100000 in
set_option maxHeartbeats 4000000 in
theorem bover_any (C1 C2 : Nat) (l : List ST) (t : ET) (S : Nat → Int → Int → Except Int Grain.Sm) (K : Nat → Int → Int → Nat) (I : Nat → World → Prop) (r : Option Nat) (Nb : Nat) (hB : Beside r Nb I) (ao : Option Addr) (n cap : Nat) (time : Int) (w : World) (cc : Nat) (hI : I cc w) (hNw : Nb ≤ w.heap.size) (hs : SsIn w ao l) (hin : t.In w) (hn : n = l.length) (hn8 : n ≤ 8)
  (hS : ∀ i a s, S i a time = .ok s → -9223372036854775808 ≤ s.t ∧ s.t ≤ 9223372036854775807)
  (hG : ∀ h, winBad h = 0 → ∀ c, overW S l n time h = .ok c → Gd ⟨false, c⟩)
  (hsum : 0 ≤ time → time ≤ 1000000 → ∀ (i : Nat) (a : Int) (w' : World) (c' : Nat), i < n → 0 ≤ a → a ≤ time → I c' w' → Bel r w.heap.size w w' → Calls Tryz.prog 102 #[.int .i64 i, .int .i64 a, .int .i64 time, .pointer (some ⟨C1, 0, none⟩), .pointer (some ⟨C2, 0, none⟩)] w' fun e w'' => SPost (S i a time) I r c' (K i a time) w' e w'') :
  Calls Tryz.prog 40 #[.slice ao n cap, eval t, .int .i64 time, .func (.func 102) #[] #[.pointer (some ⟨C1, 0, none⟩), .pointer (some ⟨C2, 0, none⟩)]] w fun e w' => OPost (overE S l n time t.ex) I r cc (overK K l n time t.ex) w e w' := by
 obtain ⟨C, hC⟩ : ∃ C, C = chk t.ex time := ⟨_, rfl⟩
 have PC := hide (fun w' (hb : Below w.heap.size w w') => mcheck_any t time w' (ET.In.below hb t hin))
 rw [← hC] at PC
 have PM : Hid (C = 0 → ∀ (Bt Bl Bs : Nat) (V : World), Below w.heap.size w V → w.heap.size ≤ Bt → V.cell? ⟨Bt, 0, none⟩ = some (.int .i64 time) → V.cell? ⟨Bl, 0, none⟩ = some (.slice ao n cap) → V.cell? ⟨Bs, 0, none⟩ = some (.func (.func 102) #[] #[.pointer (some ⟨C1, 0, none⟩), .pointer (some ⟨C2, 0, none⟩)]) → Calls Tryz.prog 67 #[eval t, .func (.func 68) #[] #[.pointer (some ⟨Bt, 0, none⟩), .pointer (some ⟨Bl, 0, none⟩), .pointer (some ⟨Bs, 0, none⟩)]] V fun e w' => GPost (evG (overW S l n time) t.ex) I r cc (costG (overC K l n time) t.ex) V e w') := by
  intro h0 Bt Bl Bs V bV hBt ct cl cs
  obtain ⟨hrt, ht0, ht1⟩ := chk_zero (hC.symm.trans h0)
  have hrow2 : ∀ C, r = some C → C < V.heap.size := fun C hC => by have := hB.row C hC; have := bV.size; omega
  have hB2 : Beside r V.heap.size (fun c w' => I c w' ∧ Bel r V.heap.size V w') := ⟨hrow2, fun c w1 w2 h1 h2 => ⟨hB.kept c w1 w2 h1.1 (h2.mono (Nat.le_trans hNw bV.size)), h1.2.trans (Bel.of h2 r)⟩, fun c w1 h1 => hB.solo c w1 h1.1⟩
  have hI2 : I cc V := hB.kept _ _ _ hI (bV.mono hNw)
  have hSoV := hB.solo cc V hI2
  have hrBt : r ≠ some Bt := fun e => by have := hB.row Bt e; omega
  have lBt : Bt < V.heap.size := World.block_lt_of_cell? V _ ct
  have lBl : Bl < V.heap.size := World.block_lt_of_cell? V _ cl
  have lBs : Bs < V.heap.size := World.block_lt_of_cell? V _ cs
  have hrBl : r ≠ some Bl := fun e => hSoV Bl e _ _ cl
  have hrBs : r ≠ some Bs := fun e => hSoV Bs e _ _ cs
  refine (gcomes_any (overW S l n time) (overC K l n time) (fun c w' => I c w' ∧ Bel r V.heap.size V w') r V.heap.size Bt Bl Bs hB2 hG ?_ t V cc ⟨hI2, Bel.refl _ _ _⟩ (Nat.le_refl _) (ET.In.below bV t hin) hrt).mono ?_
  ·intro t' w' c' hI' hN' hin' hwb
   obtain ⟨_, _, _, hr0, hr1⟩ := winBad_ok hwb
   exact bover1_any C1 C2 l t' (fun i => S i (max 0 (time - t'.hd.range)) time) (fun i => K i (max 0 (time - t'.hd.range)) time) (fun c w' => I c w' ∧ Bel r V.heap.size V w') r V.heap.size Bt Bl Bs hB2 ao n cap time w' c' hI' hN' ((hs.bel (hB.solo cc w hI) (Bel.of bV r)).bel hSoV hI'.2) hin' hn hn8 ht0 ht1 hr0 hr1 ((hI'.2.cell lBt hrBt).trans ct) hrBt ((hI'.2.cell lBl hrBl).trans cl) ((hI'.2.cell lBs hrBs).trans cs) (fun i s => hS i _ s) (fun i w'' c'' hi hI'' hb => by
    refine (hsum ht0 ht1 i (max 0 (time - t'.hd.range)) w'' c'' hi (by omega) (by omega) hI''.1 (bel_step hI''.2 (Bel.of bV r))).mono ?_
    intro e w3 hp
    exact spost_with hp hI''.2)
  ·intro e w' hp
   exact gpost_of hp
 obtain ⟨EE, hEE⟩ : ∃ EE, EE = evG (overW S l n time) t.ex := ⟨_, rfl⟩
 obtain ⟨KK, hKK⟩ : ∃ KK, KK = costG (overC K l n time) t.ex := ⟨_, rfl⟩
 have HR : Hid (overE S l n time t.ex = if C = 0 then EE else .error C) := by show _ = _; rw [hC, hEE]; rfl
 have HK : Hid (overK K l n time t.ex = KK) := by show _ = _; rw [hKK]; rfl
 rw [HK.out]
 rw [← hEE, ← hKK] at PM
 generalize overE S l n time t.ex = RES at HR ⊢
 have HKp := hide (fun c' w1 w2 (h1 : I c' w1) (h2 : Below w.heap.size w1 w2) => hB.kept c' w1 w2 h1 (h2.mono hNw))
 have HB := hide hB
 have HNw := hide hNw
 clear hsum hS hs hin hn hB hI hNw hG hC HK hEE hKK
 unfold eval at PC PM ⊢
 generalize t.hd.ms.length = ml at PC PM ⊢
 generalize t.hd.bs.length = bl at PC PM ⊢
 generalize t.kids.length = kl at PC PM ⊢
 obtain ⟨W, hW⟩ : ∃ W, W = (((w.alloc (.cells #[.slice ao n cap] 98)).alloc (.cells #[.int .i64 t.hd.kind, .int .i64 t.hd.n, .int .i64 t.hd.range, .string t.hd.word, .slice t.sp.ma ml t.sp.mc, .slice t.sp.ba bl t.sp.bc, .slice t.sp.ka kl t.sp.kc] 41)).alloc (.cells #[.int .i64 time] 3)).alloc (.cells #[.func (.func 102) #[] #[.pointer (some ⟨C1, 0, none⟩), .pointer (some ⟨C2, 0, none⟩)]] 101) := ⟨_, rfl⟩
 have bel0 : Below w.heap.size w W := by rw [hW]; exact ((((Below.refl _ _).alloc (Nat.le_refl _) _).alloc (by simp) _).alloc (by simp; omega) _).alloc (by simp; omega) _
 have heq : ∀ w' : World, Sem.run Tryz.prog (binOp BinOp.eql 101 (.func (.func 102) #[] #[.pointer (some ⟨C1, 0, none⟩), .pointer (some ⟨C2, 0, none⟩)]) .nilFunc) w' = .ok (.bool false) w' := fun w' => by kernel_rfl
 have A0 : W.heap[w.heap.size]? = some (.cells #[.slice ao n cap] 98 (0, 0)) := by rw [hW, Below.heap_alloc _ _ _ (by simp; omega), Below.heap_alloc _ _ _ (by simp; omega), Below.heap_alloc _ _ _ (by simp)]; exact heap_alloc_new w _
 have F0 : W.heap[w.heap.size + 1]? = some (.cells #[.int .i64 t.hd.kind, .int .i64 t.hd.n, .int .i64 t.hd.range, .string t.hd.word, .slice t.sp.ma ml t.sp.mc, .slice t.sp.ba bl t.sp.bc, .slice t.sp.ka kl t.sp.kc] 41 (0, 0)) := by
  rw [hW, Below.heap_alloc _ _ _ (by simp), Below.heap_alloc _ _ _ (by simp)]
  have := heap_alloc_new (w.alloc (.cells #[.slice ao n cap] 98)) (.cells #[.int .i64 t.hd.kind, .int .i64 t.hd.n, .int .i64 t.hd.range, .string t.hd.word, .slice t.sp.ma ml t.sp.mc, .slice t.sp.ba bl t.sp.bc, .slice t.sp.ka kl t.sp.kc] 41)
  simpa using this
 have T0 : W.heap[w.heap.size + 1 + 1]? = some (.cells #[.int .i64 time] 3 (0, 0)) := by
  rw [hW, Below.heap_alloc _ _ _ (by simp)]
  have := heap_alloc_new ((w.alloc (.cells #[.slice ao n cap] 98)).alloc (.cells #[.int .i64 t.hd.kind, .int .i64 t.hd.n, .int .i64 t.hd.range, .string t.hd.word, .slice t.sp.ma ml t.sp.mc, .slice t.sp.ba bl t.sp.bc, .slice t.sp.ka kl t.sp.kc] 41)) (.cells #[.int .i64 time] 3)
  simpa using this
 have S0 : W.heap[w.heap.size + 1 + 1 + 1]? = some (.cells #[.func (.func 102) #[] #[.pointer (some ⟨C1, 0, none⟩), .pointer (some ⟨C2, 0, none⟩)]] 101 (0, 0)) := by
  have := heap_alloc_new (((w.alloc (.cells #[.slice ao n cap] 98)).alloc (.cells #[.int .i64 t.hd.kind, .int .i64 t.hd.n, .int .i64 t.hd.range, .string t.hd.word, .slice t.sp.ma ml t.sp.mc, .slice t.sp.ba bl t.sp.bc, .slice t.sp.ka kl t.sp.kc] 41)).alloc (.cells #[.int .i64 time] 3)) (.cells #[.func (.func 102) #[] #[.pointer (some ⟨C1, 0, none⟩), .pointer (some ⟨C2, 0, none⟩)]] 101)
  rw [hW]; simpa using this
 have HW := hide hW
 clear hW
 go_enter Tryz.func40, Tryz.ntmps40
 go_wp2_with fail
 rw [← HW.out]
 refine (PC.out W bel0).mono ?_
 rintro e w2 ⟨rfl, b2⟩
 have A2 := below_block b2 A0
 have F2 := below_block b2 F0
 have T2 := below_block b2 T0
 have S2 := below_block b2 S0
 have bX : Below w.heap.size w w2 := bel0.trans (b2.mono bel0.size)
 clear PC A0 F0 T0 S0
 by_cases h1 : C = 0
 ·subst h1
  have k1 : w2.cell? ⟨w.heap.size, 0, none⟩ = some (.slice ao n cap) := by simp [World.cell?, A2]
  have k2 : w2.cell? ⟨w.heap.size + 1 + 1, 0, none⟩ = some (.int .i64 time) := by simp [World.cell?, T2]
  have k3 : w2.cell? ⟨w.heap.size + 1 + 1 + 1, 0, none⟩ = some (.func (.func 102) #[] #[.pointer (some ⟨C1, 0, none⟩), .pointer (some ⟨C2, 0, none⟩)]) := by simp [World.cell?, S2]
  have HR2 : Hid (RES = EE) := by show _ = _; rw [HR.out, if_pos rfl]
  have PM2 := hide (PM.out rfl (w.heap.size + 1 + 1) w.heap.size (w.heap.size + 1 + 1 + 1) w2 bX (by omega) k2 k1 k3)
  obtain ⟨p0, p1, p2, p3, p4, p5, p6⟩ := seven_cells F2
  clear HR PM
  go_wp2_with fail
  refine PM2.out.mono ?_
  rintro e w3 ⟨hp, b3⟩
  have bY : Bel r w.heap.size w w3 := (Bel.of bX r).trans (b3.mono bX.size)
  have HP := hide hp
  clear hp PM2 p0 p1 p2 p3 p4 p5 p6 k1 k2 k3 A2 F2 T2 S2
  rcases HP.out with ⟨x, hx, ho, he⟩ | ⟨nb, cts, co, N, d, he, ho, hN, hC, hI2⟩
  ·rw [he]
   have HE2 : Hid (RES = .error x) := by show _ = _; rw [HR2.out, ho]
   have HX := hide hx
   have hxb : (x != 0) = true := by simpa using hx
   clear HP ho he HR2 hx
   go_wp2
   go_ret2
   exact ⟨.inl ⟨x, HX.out, HE2.out, rfl⟩, bY.alloc bY.size _⟩
  ·rw [he]
   have HE2 : Hid (RES = .ok ⟨nb, cls cts⟩) := by show _ = _; rw [HR2.out, ho]
   have HN := hide hN
   have bz : Below w3.heap.size w3 (w3.alloc (.cells #[.bool nb, .slice co N d] 131)) := (Below.refl _ _).alloc (Nat.le_refl _) _
   have hC2 := hC.below bz
   have HI2 := hide (HKp.out _ _ _ hI2 (bz.mono bY.size))
   clear HP ho he HR2 hN hI2
   go_wp2
   go_ret2
   exact ⟨.inr ⟨nb, cts, co, N, d, rfl, HE2.out, HN.out, hC2, HI2.out⟩, bY.alloc bY.size _⟩
 ·have HR2 : Hid (RES = .error C) := by show _ = _; rw [HR.out, if_neg h1]
  have hd : (C != 0) = true := by simpa using h1
  have HX := hide h1
  clear h1 HR PM
  go_wp2
  go_ret2
  exact ⟨.inl ⟨C, HX.out, HR2.out, rfl⟩, Bel.of bX r⟩
end Go.Proofs.YtoldmigappbjcaaGreatDoor
