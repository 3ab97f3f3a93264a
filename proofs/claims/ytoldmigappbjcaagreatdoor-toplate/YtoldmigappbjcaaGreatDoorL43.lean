import Derived.Test.YtoldmigappbjcaaGreatDoorL42
namespace Go.Proofs.YtoldmigappbjcaaGreatDoor
open Go.RowKit Go.GrainU
set_option maxRecDepth 100000 in
set_option maxHeartbeats 4000000 in
theorem bsum_any (C1 C2 : Nat) (S : Except Int Grain.Sm) (k : Nat) (I : Nat → World → Prop) (r : Option Nat) (Nb Bs Bf Bt : Nat) (hB : Beside r Nb I) (i a b : Int) (w : World) (cc : Nat) (hI : I cc w) (hNw : Nb ≤ w.heap.size)
  (cs : w.cell? ⟨Bs, 0, none⟩ = some (.func (.func 102) #[] #[.pointer (some ⟨C1, 0, none⟩), .pointer (some ⟨C2, 0, none⟩)])) (cf : w.cell? ⟨Bf, 0, none⟩ = some (.int .i64 a)) (ct : w.cell? ⟨Bt, 0, none⟩ = some (.int .i64 b))
  (hsum : ∀ (w' : World), I cc w' → Below w.heap.size w w' → Calls Tryz.prog 102 #[.int .i64 i, .int .i64 a, .int .i64 b, .pointer (some ⟨C1, 0, none⟩), .pointer (some ⟨C2, 0, none⟩)] w' fun e w'' => SPost S I r cc k w' e w'') :
  Calls Tryz.prog 70 #[.int .i64 i, .pointer (some ⟨Bs, 0, none⟩), .pointer (some ⟨Bf, 0, none⟩), .pointer (some ⟨Bt, 0, none⟩)] w fun e w' => SPost S I r cc k w e w' := by
 have HSum := hide hsum
 have ls : Bs < w.heap.size := World.block_lt_of_cell? w _ cs
 have lf : Bf < w.heap.size := World.block_lt_of_cell? w _ cf
 have lt' : Bt < w.heap.size := World.block_lt_of_cell? w _ ct
 obtain ⟨W, hW⟩ : ∃ W, W = w.alloc (.cells #[.int .i64 0, .int .i64 0, .int .i64 0, .int .i64 0, .int .i64 0, .int .i64 0, .int .i64 0] 76) := ⟨_, rfl⟩
 have bel0 : Below w.heap.size w W := by rw [hW]; exact (Below.refl _ _).alloc (Nat.le_refl _) _
 have F0 : W.heap[w.heap.size]? = some (.cells #[.int .i64 0, .int .i64 0, .int .i64 0, .int .i64 0, .int .i64 0, .int .i64 0, .int .i64 0] 76 (0, 0)) := by rw [hW]; exact heap_alloc_new w _
 have PS := hide (HSum.out W (hB.kept _ _ _ hI (bel0.mono hNw)) bel0)
 have HKp := hide (fun c' w1 w2 (h1 : I c' w1) (h2 : Below w.heap.size w1 w2) => hB.kept c' w1 w2 h1 (h2.mono hNw))
 have HW := hide hW
 have HB := hide hB
 have HNw := hide hNw
 clear hsum hW HSum hB hI hNw
 go_enter Tryz.func70, Tryz.ntmps70
 go_wp2_with fail
 rw [← HW.out]
 refine PS.out.mono ?_
 rintro e w1 ⟨hp, b1⟩
 have F1 := bel_block b1 HB.out.row HNw.out F0
 have bw : Bel r w.heap.size w w1 := (Bel.of bel0 r).trans (b1.mono bel0.size)
 obtain ⟨p0, p1, p2, p3, p4, p5, p6⟩ := seven_cells F1
 obtain ⟨f0, f1, f2, f3, f4, f5, f6⟩ := seven_thaw F1
 have l0 : w.heap.size < w1.heap.size := lt_of_block F1
 have HP := hide hp
 clear hp PS HB
 rcases HP.out with ⟨y, J, hy, ho, he⟩ | ⟨J, ho, he, hI2⟩
 ·rw [he]
  unfold sumv
  have HO := hide ho
  have HY := hide hy
  clear HP ho he hy
  go_wp2
  exact bodyPost_ret (v := sumv J y) (by simp [sumv, results, Tryz.results70, go_sem, p0, p1, p2, p3, p4, p5, p6]) rfl ⟨.inl ⟨y, J, HY.out, HO.out, rfl⟩, bw.trans (Bel.of (below_set7 (Below.refl w.heap.size w1) (Nat.le_refl _) _ _ _ _ _ _ _) r)⟩
 ·rw [he]
  unfold sumv
  have HO := hide ho
  have HI2 := hide hI2
  clear HP ho he hI2
  go_wp2
  exact bodyPost_ret (v := sumv J 0) (by simp [sumv, results, Tryz.results70, go_sem, p0, p1, p2, p3, p4, p5, p6]) rfl ⟨.inr ⟨J, HO.out, rfl, HKp.out _ _ _ HI2.out (below_set7 (Below.refl w.heap.size w1) (Nat.le_refl _) _ _ _ _ _ _ _)⟩, bw.trans (Bel.of (below_set7 (Below.refl w.heap.size w1) (Nat.le_refl _) _ _ _ _ _ _ _) r)⟩
set_option maxRecDepth 100000 in
set_option maxHeartbeats 4000000 in
theorem bover1_any (C1 C2 : Nat) (l : List ST) (t : ET) (S : Nat → Except Int Grain.Sm) (K : Nat → Nat) (I : Nat → World → Prop) (r : Option Nat) (Nb Bt Bl Bs : Nat) (hB : Beside r Nb I) (ao : Option Addr) (n cap : Nat) (time : Int) (w : World) (cc : Nat) (hI : I cc w) (hNw : Nb ≤ w.heap.size) (hs : SsIn w ao l) (hin : t.In w) (hn : n = l.length) (hn8 : n ≤ 8)
  (ht0 : 0 ≤ time) (ht1 : time ≤ 1000000) (hr0 : 1 ≤ t.hd.range) (hr1 : t.hd.range ≤ 100000)
  (ct : w.cell? ⟨Bt, 0, none⟩ = some (.int .i64 time)) (hrt : r ≠ some Bt) (cl : w.cell? ⟨Bl, 0, none⟩ = some (.slice ao n cap)) (cs : w.cell? ⟨Bs, 0, none⟩ = some (.func (.func 102) #[] #[.pointer (some ⟨C1, 0, none⟩), .pointer (some ⟨C2, 0, none⟩)]))
  (hS : ∀ i s, S i = .ok s → -9223372036854775808 ≤ s.t ∧ s.t ≤ 9223372036854775807)
  (hsum : ∀ (i : Nat) (w' : World) (c' : Nat), i < n → I c' w' → Bel r w.heap.size w w' → Calls Tryz.prog 102 #[.int .i64 i, .int .i64 (max 0 (time - t.hd.range)), .int .i64 time, .pointer (some ⟨C1, 0, none⟩), .pointer (some ⟨C2, 0, none⟩)] w' fun e w'' => SPost (S i) I r c' (K i) w' e w'') :
  Calls Tryz.prog 68 #[eval t, .pointer (some ⟨Bt, 0, none⟩), .pointer (some ⟨Bl, 0, none⟩), .pointer (some ⟨Bs, 0, none⟩)] w fun e w' => GPost (wopt (winT S t.hd l n)) I r cc (winKT K t.hd l n) w e w' := by
 have HSo := hide (hB.solo cc w hI)
 have hrs : r ≠ some Bs := fun e => HSo.out Bs e _ _ cs
 have lt1 : Bt < w.heap.size := World.block_lt_of_cell? w _ ct
 have ll1 : Bl < w.heap.size := World.block_lt_of_cell? w _ cl
 have ls1 : Bs < w.heap.size := World.block_lt_of_cell? w _ cs
 obtain ⟨RR, hRR⟩ : ∃ RR, RR = wopt (winT S t.hd l n) := ⟨_, rfl⟩
 obtain ⟨KK, hKK⟩ : ∃ KK, KK = winKT K t.hd l n := ⟨_, rfl⟩
 have PW : Hid (∀ (V : World) (Bf : Nat), Below w.heap.size w V → V.heap[Bf]? = some (.cells #[.int .i64 (max 0 (time - t.hd.range))] 3 (0, 0)) → w.heap.size ≤ Bf → Calls Tryz.prog 69 #[.slice ao n cap, eval t, .func (.func 70) #[] #[.pointer (some ⟨Bs, 0, none⟩), .pointer (some ⟨Bf, 0, none⟩), .pointer (some ⟨Bt, 0, none⟩)]] V fun e w' => GPost RR I r cc KK V e w') := by
  intro V Bf bV hf hfl
  rw [hRR, hKK]
  have lf : Bf < V.heap.size := lt_of_block hf
  refine gwin_any l t S K I r Nb Bs Bf Bt hB ao n cap V cc (hB.kept _ _ _ hI (bV.mono hNw)) (Nat.le_trans hNw bV.size) (hs.bel HSo.out (Bel.of bV r)) (ET.In.below bV t hin) hn hn8 hS ?_
  intro i w' c' hi hI' hb
  have hb1 : Bel r w.heap.size w w' := bel_step hb (Bel.of bV r)
  refine bsum_any C1 C2 (S i) (K i) I r Nb Bs Bf Bt hB i (max 0 (time - t.hd.range)) time w' c' hI' (Nat.le_trans hNw hb1.size) ((hb1.cell ls1 hrs).trans cs) ?_ ((hb1.cell lt1 hrt).trans ct) ?_
  ·rw [hb.cell lf (fun e => by have := hB.row Bf e; omega)]
   simp [World.cell?, hf]
  ·intro w'' h1 h2
   exact hsum i w'' c' hi h1 (bel_below h2 hb1)
 rw [← hRR, ← hKK]
 have HKp := hide (fun c' w1 w2 (h1 : I c' w1) (h2 : Below w.heap.size w1 w2) => hB.kept c' w1 w2 h1 (h2.mono hNw))
 have HB := hide hB
 have HNw := hide hNw
 clear hsum hS hs hin hn hB hI hNw hrs hrt hRR hKK
 unfold eval at PW ⊢
 generalize t.hd.ms.length = ml at PW ⊢
 generalize t.hd.bs.length = bl at PW ⊢
 generalize t.kids.length = kl at PW ⊢
 obtain ⟨rg, hrg⟩ : ∃ rg, rg = t.hd.range := ⟨_, rfl⟩
 rw [← hrg] at hr0 hr1 PW ⊢
 have tw : IntKind.i64.wrap (time - rg) = time - rg := by rw [IntKind.wrap_i64]; omega
 obtain ⟨W, hW⟩ : ∃ W, W = (((w.alloc (.cells #[.int .i64 t.hd.kind, .int .i64 t.hd.n, .int .i64 rg, .string t.hd.word, .slice t.sp.ma ml t.sp.mc, .slice t.sp.ba bl t.sp.bc, .slice t.sp.ka kl t.sp.kc] 41)).alloc (.cells #[.bool false, .slice none 0 0] 131)).alloc (.cells #[.int .i64 (max 0 (time - rg))] 3)) := ⟨_, rfl⟩
 have bel0 : Below w.heap.size w W := by rw [hW]; exact (((Below.refl _ _).alloc (Nat.le_refl _) _).alloc (by simp) _).alloc (by simp; omega) _
 have G0 : W.heap[w.heap.size + 1]? = some (.cells #[.bool false, .slice none 0 0] 131 (0, 0)) := by
  rw [hW, Below.heap_alloc _ _ _ (by simp)]
  have := heap_alloc_new (w.alloc (.cells #[.int .i64 t.hd.kind, .int .i64 t.hd.n, .int .i64 rg, .string t.hd.word, .slice t.sp.ma ml t.sp.mc, .slice t.sp.ba bl t.sp.bc, .slice t.sp.ka kl t.sp.kc] 41)) (.cells #[.bool false, .slice none 0 0] 131)
  simpa using this
 have T0 : W.heap[w.heap.size + 1 + 1]? = some (.cells #[.int .i64 (max 0 (time - rg))] 3 (0, 0)) := by
  have := heap_alloc_new ((w.alloc (.cells #[.int .i64 t.hd.kind, .int .i64 t.hd.n, .int .i64 rg, .string t.hd.word, .slice t.sp.ma ml t.sp.mc, .slice t.sp.ba bl t.sp.bc, .slice t.sp.ka kl t.sp.kc] 41)).alloc (.cells #[.bool false, .slice none 0 0] 131)) (.cells #[.int .i64 (max 0 (time - rg))] 3)
  rw [hW]; simpa using this
 have kl1 : (((w.alloc (.cells #[.int .i64 t.hd.kind, .int .i64 t.hd.n, .int .i64 rg, .string t.hd.word, .slice t.sp.ma ml t.sp.mc, .slice t.sp.ba bl t.sp.bc, .slice t.sp.ka kl t.sp.kc] 41)).alloc (.cells #[.bool false, .slice none 0 0] 131)).alloc (.cells #[.int .i64 (max 0 (time - rg))] 3)).cell? ⟨Bl, 0, none⟩ = some (.slice ao n cap) := by
  rw [← hW]; exact (bel0.cell (p := ⟨Bl, 0, none⟩) ll1).trans cl
 have PW1 := hide (PW.out W (w.heap.size + 1 + 1) bel0 T0 (by omega))
 have HW := hide hW
 have HB0 := hide bel0
 clear hrg hW PW T0 bel0
 go_enter Tryz.func68, Tryz.ntmps68
 go_wp2_with fail
 rw [← HW.out]
 refine PW1.out.mono ?_
 rintro e w1 ⟨hp, b1⟩
 have G1 := bel_block b1 HB.out.row (Nat.le_trans HNw.out (Nat.le_succ _)) G0
 obtain ⟨t0, t1, t2, t3⟩ := two_cells G1
 have bw : Bel r w.heap.size w w1 := (Bel.of HB0.out r).trans (b1.mono HB0.out.size)
 have HP := hide hp
 clear hp PW1 kl1 G0
 rcases HP.out with ⟨x, hx, ho, he⟩ | ⟨nb2, cts2, co2, N2, d2, he, ho, hN, hC, hI2⟩
 ·rw [he]
  have HE3 := hide ho
  have HX := hide hx
  clear HP ho he hx
  go_wp2
  exact bodyPost_ret (v := .tuple #[.agg #[.bool false, .slice none 0 0], .int .i64 x]) (by simp [results, Tryz.results68, go_sem, t0, t1]) rfl ⟨.inl ⟨x, HX.out, HE3.out, rfl⟩, (bw.setCell (by show w.heap.size ≤ w.heap.size + 1; omega) _).setCell (by show w.heap.size ≤ w.heap.size + 1; omega) _⟩
 ·rw [he]
  have HE3 := hide ho
  have HN2 := hide hN
  have HI2 := hide hI2
  clear HP ho he hN hI2
  go_wp2
  exact bodyPost_ret (v := .tuple #[.agg #[.bool nb2, .slice co2 N2 d2], .int .i64 0]) (by simp [results, Tryz.results68, go_sem, t0, t1]) rfl ⟨.inr ⟨nb2, cts2, co2, N2, d2, rfl, HE3.out, HN2.out, hC.stored G1 nb2 _, HKp.out _ _ _ HI2.out (((Below.refl _ _).setCell (by show w.heap.size ≤ w.heap.size + 1; omega) _).setCell (by show w.heap.size ≤ w.heap.size + 1; omega) _)⟩, (bw.setCell (by show w.heap.size ≤ w.heap.size + 1; omega) _).setCell (by show w.heap.size ≤ w.heap.size + 1; omega) _⟩
set_option maxRecDepth 100000 in
set_option maxHeartbeats 4000000 in
theorem bover_any (C1 C2 : Nat) (l : List ST) (t : ET) (S : Nat → Int → Int → Except Int Grain.Sm) (K : Nat → Int → Int → Nat) (I : Nat → World → Prop) (r : Option Nat) (Nb : Nat) (hB : Beside r Nb I) (ao : Option Addr) (n cap : Nat) (time : Int) (w : World) (cc : Nat) (hI : I cc w) (hNw : Nb ≤ w.heap.size) (hs : SsIn w ao l) (hin : t.In w) (hn : n = l.length) (hn8 : n ≤ 8)
  (hS : ∀ i a s, S i a time = .ok s → -9223372036854775808 ≤ s.t ∧ s.t ≤ 9223372036854775807)
  (hG : ∀ h, winBad h = 0 → ∀ c, overW S l n time h = .ok c → Gd ⟨false, c⟩)
  (hsum : 0 ≤ time → time ≤ 1000000 → ∀ (i : Nat) (a : Int) (w' : World) (c' : Nat), i < n → 0 ≤ a → a ≤ time → I c' w' → Bel r w.heap.size w w' → Calls Tryz.prog 102 #[.int .i64 i, .int .i64 a, .int .i64 time, .pointer (some ⟨C1, 0, none⟩), .pointer (some ⟨C2, 0, none⟩)] w' fun e w'' => SPost (S i a time) I r c' (K i a time) w' e w'') :
  Calls Tryz.prog 40 #[.slice ao n cap, eval t, .int .i64 time, .func (.func 102) #[] #[.pointer (some ⟨C1, 0, none⟩), .pointer (some ⟨C2, 0, none⟩)]] w fun e w' => OPost (overE S l n time t.ex) I r cc (overK K l n time t.ex) w e w' := by
 obtain ⟨C, hC⟩ : ∃ C, C = chk t.ex time := ⟨_, rfl⟩
 have PC := hide (fun w' (hb : Below w.heap.size w w') => mcheck_any t time w' (ET.In.below hb t hin))
 rw [← hC] at PC
 have PM : Hid (C = 0 → ∀ (Bt Bl Bs : Nat) (V : World), Below w.heap.size w V → w.heap.size ≤ Bt → V.cell? ⟨Bt, 0, none⟩ = some (.int .i64 time) → V.cell? ⟨Bl, 0, none⟩ = some (.slice ao n cap) → V.cell? ⟨Bs, 0, none⟩ = some (.func (.func 102) #[] #[.pointer (some ⟨C1, 0, none⟩), .pointer (some ⟨C2, 0, none⟩)]) → Calls Tryz.prog 67 #[eval t, .func (.func 68) #[] #[.pointer (some ⟨Bt, 0, none⟩), .pointer (some ⟨Bl, 0, none⟩), .pointer (some ⟨Bs, 0, none⟩)]] V fun e w' => GPost (evG (overW S l n time) t.ex) I r cc (costG (overC K l n time) t.ex) V e w') := by
  intro h0 Bt Bl Bs V bV hBt ct cl cs
  obtain ⟨hrt, ht0, ht1⟩ := chk_zero (hC.symm.trans h0)
  have hrow2 : ∀ C, r = some C → C < V.heap.size := fun C hC => by have := hB.row C hC; have := bV.size; omega
  have hB2 : Beside r V.heap.size (fun c w' => I c w' ∧ Bel r V.heap.size V w') := ⟨hrow2, fun c w1 w2 h1 h2 => ⟨hB.kept c w1 w2 h1.1 (h2.mono (Nat.le_trans hNw bV.size)), h1.2.trans (Bel.of h2 r)⟩, fun c w1 h1 => hB.solo c w1 h1.1⟩
  have hI2 : I cc V := hB.kept _ _ _ hI (bV.mono hNw)
  have hSoV := hB.solo cc V hI2
  have hrBt : r ≠ some Bt := fun e => by have := hB.row Bt e; omega
  have lBt : Bt < V.heap.size := World.block_lt_of_cell? V _ ct
  have lBl : Bl < V.heap.size := World.block_lt_of_cell? V _ cl
  have lBs : Bs < V.heap.size := World.block_lt_of_cell? V _ cs
  have hrBl : r ≠ some Bl := fun e => hSoV Bl e _ _ cl
  have hrBs : r ≠ some Bs := fun e => hSoV Bs e _ _ cs
  refine (gcomes_any (overW S l n time) (overC K l n time) (fun c w' => I c w' ∧ Bel r V.heap.size V w') r V.heap.size Bt Bl Bs hB2 hG ?_ t V cc ⟨hI2, Bel.refl _ _ _⟩ (Nat.le_refl _) (ET.In.below bV t hin) hrt).mono ?_
  ·intro t' w' c' hI' hN' hin' hwb
   obtain ⟨_, _, _, hr0, hr1⟩ := winBad_ok hwb
   exact bover1_any C1 C2 l t' (fun i => S i (max 0 (time - t'.hd.range)) time) (fun i => K i (max 0 (time - t'.hd.range)) time) (fun c w' => I c w' ∧ Bel r V.heap.size V w') r V.heap.size Bt Bl Bs hB2 ao n cap time w' c' hI' hN' ((hs.bel (hB.solo cc w hI) (Bel.of bV r)).bel hSoV hI'.2) hin' hn hn8 ht0 ht1 hr0 hr1 ((hI'.2.cell lBt hrBt).trans ct) hrBt ((hI'.2.cell lBl hrBl).trans cl) ((hI'.2.cell lBs hrBs).trans cs) (fun i s => hS i _ s) (fun i w'' c'' hi hI'' hb => by
    refine (hsum ht0 ht1 i (max 0 (time - t'.hd.range)) w'' c'' hi (by omega) (by omega) hI''.1 (bel_step hI''.2 (Bel.of bV r))).mono ?_
    intro e w3 hp
    exact spost_with hp hI''.2)
  ·intro e w' hp
   exact gpost_of hp
 obtain ⟨EE, hEE⟩ : ∃ EE, EE = evG (overW S l n time) t.ex := ⟨_, rfl⟩
 obtain ⟨KK, hKK⟩ : ∃ KK, KK = costG (overC K l n time) t.ex := ⟨_, rfl⟩
 have HR : Hid (overE S l n time t.ex = if C = 0 then EE else .error C) := by show _ = _; rw [hC, hEE]; rfl
 have HK : Hid (overK K l n time t.ex = KK) := by show _ = _; rw [hKK]; rfl
 rw [HK.out]
 rw [← hEE, ← hKK] at PM
 generalize overE S l n time t.ex = RES at HR ⊢
 have HKp := hide (fun c' w1 w2 (h1 : I c' w1) (h2 : Below w.heap.size w1 w2) => hB.kept c' w1 w2 h1 (h2.mono hNw))
 have HB := hide hB
 have HNw := hide hNw
 clear hsum hS hs hin hn hB hI hNw hG hC HK hEE hKK
 unfold eval at PC PM ⊢
 generalize t.hd.ms.length = ml at PC PM ⊢
 generalize t.hd.bs.length = bl at PC PM ⊢
 generalize t.kids.length = kl at PC PM ⊢
 obtain ⟨W, hW⟩ : ∃ W, W = (((w.alloc (.cells #[.slice ao n cap] 98)).alloc (.cells #[.int .i64 t.hd.kind, .int .i64 t.hd.n, .int .i64 t.hd.range, .string t.hd.word, .slice t.sp.ma ml t.sp.mc, .slice t.sp.ba bl t.sp.bc, .slice t.sp.ka kl t.sp.kc] 41)).alloc (.cells #[.int .i64 time] 3)).alloc (.cells #[.func (.func 102) #[] #[.pointer (some ⟨C1, 0, none⟩), .pointer (some ⟨C2, 0, none⟩)]] 101) := ⟨_, rfl⟩
 have bel0 : Below w.heap.size w W := by rw [hW]; exact ((((Below.refl _ _).alloc (Nat.le_refl _) _).alloc (by simp) _).alloc (by simp; omega) _).alloc (by simp; omega) _
 have heq : ∀ w' : World, Sem.run Tryz.prog (binOp BinOp.eql 101 (.func (.func 102) #[] #[.pointer (some ⟨C1, 0, none⟩), .pointer (some ⟨C2, 0, none⟩)]) .nilFunc) w' = .ok (.bool false) w' := fun w' => by kernel_rfl
 have A0 : W.heap[w.heap.size]? = some (.cells #[.slice ao n cap] 98 (0, 0)) := by rw [hW, Below.heap_alloc _ _ _ (by simp; omega), Below.heap_alloc _ _ _ (by simp; omega), Below.heap_alloc _ _ _ (by simp)]; exact heap_alloc_new w _
 have F0 : W.heap[w.heap.size + 1]? = some (.cells #[.int .i64 t.hd.kind, .int .i64 t.hd.n, .int .i64 t.hd.range, .string t.hd.word, .slice t.sp.ma ml t.sp.mc, .slice t.sp.ba bl t.sp.bc, .slice t.sp.ka kl t.sp.kc] 41 (0, 0)) := by
  rw [hW, Below.heap_alloc _ _ _ (by simp), Below.heap_alloc _ _ _ (by simp)]
  have := heap_alloc_new (w.alloc (.cells #[.slice ao n cap] 98)) (.cells #[.int .i64 t.hd.kind, .int .i64 t.hd.n, .int .i64 t.hd.range, .string t.hd.word, .slice t.sp.ma ml t.sp.mc, .slice t.sp.ba bl t.sp.bc, .slice t.sp.ka kl t.sp.kc] 41)
  simpa using this
 have T0 : W.heap[w.heap.size + 1 + 1]? = some (.cells #[.int .i64 time] 3 (0, 0)) := by
  rw [hW, Below.heap_alloc _ _ _ (by simp)]
  have := heap_alloc_new ((w.alloc (.cells #[.slice ao n cap] 98)).alloc (.cells #[.int .i64 t.hd.kind, .int .i64 t.hd.n, .int .i64 t.hd.range, .string t.hd.word, .slice t.sp.ma ml t.sp.mc, .slice t.sp.ba bl t.sp.bc, .slice t.sp.ka kl t.sp.kc] 41)) (.cells #[.int .i64 time] 3)
  simpa using this
 have S0 : W.heap[w.heap.size + 1 + 1 + 1]? = some (.cells #[.func (.func 102) #[] #[.pointer (some ⟨C1, 0, none⟩), .pointer (some ⟨C2, 0, none⟩)]] 101 (0, 0)) := by
  have := heap_alloc_new (((w.alloc (.cells #[.slice ao n cap] 98)).alloc (.cells #[.int .i64 t.hd.kind, .int .i64 t.hd.n, .int .i64 t.hd.range, .string t.hd.word, .slice t.sp.ma ml t.sp.mc, .slice t.sp.ba bl t.sp.bc, .slice t.sp.ka kl t.sp.kc] 41)).alloc (.cells #[.int .i64 time] 3)) (.cells #[.func (.func 102) #[] #[.pointer (some ⟨C1, 0, none⟩), .pointer (some ⟨C2, 0, none⟩)]] 101)
  rw [hW]; simpa using this
 have HW := hide hW
 clear hW
 go_enter Tryz.func40, Tryz.ntmps40
 go_wp2_with fail
 rw [← HW.out]
 refine (PC.out W bel0).mono ?_
 rintro e w2 ⟨rfl, b2⟩
 have A2 := below_block b2 A0
 have F2 := below_block b2 F0
 have T2 := below_block b2 T0
 have S2 := below_block b2 S0
 have bX : Below w.heap.size w w2 := bel0.trans (b2.mono bel0.size)
 clear PC A0 F0 T0 S0
 by_cases h1 : C = 0
 ·subst h1
  have k1 : w2.cell? ⟨w.heap.size, 0, none⟩ = some (.slice ao n cap) := by simp [World.cell?, A2]
  have k2 : w2.cell? ⟨w.heap.size + 1 + 1, 0, none⟩ = some (.int .i64 time) := by simp [World.cell?, T2]
  have k3 : w2.cell? ⟨w.heap.size + 1 + 1 + 1, 0, none⟩ = some (.func (.func 102) #[] #[.pointer (some ⟨C1, 0, none⟩), .pointer (some ⟨C2, 0, none⟩)]) := by simp [World.cell?, S2]
  have HR2 : Hid (RES = EE) := by show _ = _; rw [HR.out, if_pos rfl]
  have PM2 := hide (PM.out rfl (w.heap.size + 1 + 1) w.heap.size (w.heap.size + 1 + 1 + 1) w2 bX (by omega) k2 k1 k3)
  obtain ⟨p0, p1, p2, p3, p4, p5, p6⟩ := seven_cells F2
  clear HR PM
  go_wp2_with fail
  refine PM2.out.mono ?_
  rintro e w3 ⟨hp, b3⟩
  have bY : Bel r w.heap.size w w3 := (Bel.of bX r).trans (b3.mono bX.size)
  have HP := hide hp
  clear hp PM2 p0 p1 p2 p3 p4 p5 p6 k1 k2 k3 A2 F2 T2 S2
  rcases HP.out with ⟨x, hx, ho, he⟩ | ⟨nb, cts, co, N, d, he, ho, hN, hC, hI2⟩
  ·rw [he]
   have HE2 : Hid (RES = .error x) := by show _ = _; rw [HR2.out, ho]
   have HX := hide hx
   have hxb : (x != 0) = true := by simpa using hx
   clear HP ho he HR2 hx
   go_wp2
   go_ret2
   exact ⟨.inl ⟨x, HX.out, HE2.out, rfl⟩, bY.alloc bY.size _⟩
  ·rw [he]
   have HE2 : Hid (RES = .ok ⟨nb, cls cts⟩) := by show _ = _; rw [HR2.out, ho]
   have HN := hide hN
   have bz : Below w3.heap.size w3 (w3.alloc (.cells #[.bool nb, .slice co N d] 131)) := (Below.refl _ _).alloc (Nat.le_refl _) _
   have hC2 := hC.below bz
   have HI2 := hide (HKp.out _ _ _ hI2 (bz.mono bY.size))
   clear HP ho he HR2 hN hI2
   go_wp2
   go_ret2
   exact ⟨.inr ⟨nb, cts, co, N, d, rfl, HE2.out, HN.out, hC2, HI2.out⟩, bY.alloc bY.size _⟩
 ·have HR2 : Hid (RES = .error C) := by show _ = _; rw [HR.out, if_neg h1]
  have hd : (C != 0) = true := by simpa using h1
  have HX := hide h1
  clear h1 HR PM
  go_wp2
  go_ret2
  exact ⟨.inl ⟨C, HX.out, HR2.out, rfl⟩, Bel.of bX r⟩
end Go.Proofs.YtoldmigappbjcaaGreatDoor
namespace Go.GrainU
open Go.RowKit Go.Proofs Go.Lib
theorem heap_drew9 {w : World} {k : Nat} {o : Obj} (h : w.heap[k]? = some o) : w.drew.heap[k]? = some o := h
theorem run_copy9 {P : Program} (w : World) (dT sT ty elem : TypeId) (b o dLen dCap : Nat) (a : Addr) (sLen sCap : Nat) (cs : List Value)
  (hu : P.underlying dT = some (.slice elem)) (hs : (P.info? elem).map (·.size) = some 9) (hn : cs.length = Nat.min sLen dLen * 9)
  (hsrc : ∀ j v, cs[j]? = some v → w.cell? (a.add j) = some v) (hc : ∀ j, j < cs.length → (w.cell? ⟨b, o + j, none⟩).isSome = true) (hf : ∀ j, j < cs.length → w.frozen? ⟨b, o + j, none⟩ = false) (h1 : ∀ v ∈ cs, v.oneCell' = true) :
  (Builtin.copy_ #[dT, sT] ty #[.slice (some ⟨b, o, none⟩) dLen dCap, .slice (some a) sLen sCap]).run P w = .ok (goInt (Nat.min sLen dLen)) (w.setCells b o cs) := by
 have hl := run_loadCells_list (P := P) w a cs hsrc
 have hst := run_storeCells_cells (P := P) b o cs 0 w (by simpa using hc) (by simpa using hf) h1
 cases hq : P.info? elem with
 | none => simp [hq] at hs
 | some i =>
  have hi : i.size = 9 := by simpa [hq] using hs
  simp [Builtin.copy_, run_underlying hu, Builtin.lenOf, Builtin.firstCells, sizeOf, typeInfo, hq, hi, ← hn, hl, hst]
theorem ins_cells9 {w : World} {g N p : Nat} {xs vs : List Value} (hl : xs.length = N * 9) (hv : vs.length = 9) (hp : p ≤ N) (hc : ∀ j, j < xs.length → w.cell? ⟨g, j, none⟩ = xs[j]?) (hs : ∀ j, j < (N + 1) * 9 → (w.cell? ⟨g, j, none⟩).isSome = true) :
  ∀ j, j < (N + 1) * 9 → ((w.setCells g ((p + 1) * 9) (xs.drop (p * 9))).setCells g (p * 9) vs).cell? ⟨g, j, none⟩ = (xs.take (p * 9) ++ (vs ++ xs.drop (p * 9)))[j]? := by
 intro j hj
 have hdl : (xs.drop (p * 9)).length = N * 9 - p * 9 := by rw [List.length_drop, hl]
 have htl : (xs.take (p * 9)).length = p * 9 := by rw [List.length_take, hl]; omega
 rcases Nat.lt_or_ge j (p * 9) with h | h
 ·rw [World.cell?_setCells_out _ _ _ _ _ (fun _ _ => .inl h), World.cell?_setCells_out _ _ _ _ _ (fun _ _ => .inl (by show j < _; omega)), hc j (by omega), List.getElem?_append_left (by omega), List.getElem?_take, if_pos h]
 ·rcases Nat.lt_or_ge j (p * 9 + 9) with h' | h'
  ·have := World.cell?_setCells_in g vs (p * 9) (w.setCells g ((p + 1) * 9) (xs.drop (p * 9))) (fun i hi => isSome_setCells _ _ _ _ (fun t ht => hs _ (by omega)) _ (hs _ (by omega))) (j - p * 9) (by omega)
   rw [show p * 9 + (j - p * 9) = j by omega] at this
   rw [this, List.getElem?_append_right (by omega), htl, List.getElem?_append_left (by omega), List.getElem?_eq_getElem]
  ·rw [World.cell?_setCells_out _ _ _ _ _ (fun _ _ => .inr (by show _ ≤ j; omega))]
   have := World.cell?_setCells_in g (xs.drop (p * 9)) ((p + 1) * 9) w (fun i hi => hs _ (by omega)) (j - (p + 1) * 9) (by omega)
   rw [show (p + 1) * 9 + (j - (p + 1) * 9) = j by omega] at this
   rw [this, List.getElem?_append_right (by omega), htl, List.getElem?_append_right (by omega), hv, ← List.getElem?_eq_getElem]
   congr 1
   omega
theorem ins_cells29 {w : World} {g N p : Nat} {xs vs : List Value} (hl : xs.length = N * 9) (hv : vs.length = 9) (hp : p ≤ N) (hc : ∀ j, j < p * 9 → w.cell? ⟨g, j, none⟩ = xs[j]?) (hs : ∀ j, j < (N + 1) * 9 → (w.cell? ⟨g, j, none⟩).isSome = true) :
  ∀ j, j < (N + 1) * 9 → ((w.setCells g (p * 9) vs).drew.setCells g ((p + 1) * 9) (xs.drop (p * 9))).cell? ⟨g, j, none⟩ = (xs.take (p * 9) ++ (vs ++ xs.drop (p * 9)))[j]? := by
 intro j hj
 have hdl : (xs.drop (p * 9)).length = N * 9 - p * 9 := by rw [List.length_drop, hl]
 have htl : (xs.take (p * 9)).length = p * 9 := by rw [List.length_take, hl]; omega
 rcases Nat.lt_or_ge j (p * 9) with h | h
 ·rw [World.cell?_setCells_out _ _ _ _ _ (fun _ _ => .inl (by show j < _; omega))]
  show (w.setCells g (p * 9) vs).cell? _ = _
  rw [World.cell?_setCells_out _ _ _ _ _ (fun _ _ => .inl h), hc j h, List.getElem?_append_left (by omega), List.getElem?_take, if_pos h]
 ·rcases Nat.lt_or_ge j (p * 9 + 9) with h' | h'
  ·rw [World.cell?_setCells_out _ _ _ _ _ (fun _ _ => .inl (by show j < _; omega))]
   show (w.setCells g (p * 9) vs).cell? _ = _
   have := World.cell?_setCells_in g vs (p * 9) w (fun i hi => hs _ (by omega)) (j - p * 9) (by omega)
   rw [show p * 9 + (j - p * 9) = j by omega] at this
   rw [this, List.getElem?_append_right (by omega), htl, List.getElem?_append_left (by omega), List.getElem?_eq_getElem]
  ·have := World.cell?_setCells_in g (xs.drop (p * 9)) ((p + 1) * 9) (w.setCells g (p * 9) vs).drew (fun i hi => isSome_setCells _ _ _ w (fun t ht => hs _ (by omega)) _ (hs _ (by omega))) (j - (p + 1) * 9) (by omega)
   rw [show (p + 1) * 9 + (j - (p + 1) * 9) = j by omega] at this
   rw [this, List.getElem?_append_right (by omega), htl, List.getElem?_append_right (by omega), hv, ← List.getElem?_eq_getElem]
   congr 1
   omega
end Go.GrainU
namespace Go.Proofs.YtoldmigappbjcaaGreatDoor
open Go.RowKit Go.GrainU Go.Lib
def InsPost9 (w : World) (base : Nat) (v : Value) (N p : Nat) (xs vs : List Value) (e : Ending) (w' : World) : Prop :=
 ∃ g d, e = .returned (.slice (some ⟨g, 0, none⟩) (N + 1) d) ∧ w'.ownsRow base 59 9 (.slice (some ⟨g, 0, none⟩) (N + 1) d) (N + 1) (xs.take (p * 9) ++ (vs ++ xs.drop (p * 9))) ∧ w.grownBy w' v.ownBlock ∧ (v.ownBlock = some g ∨ w.heap.size ≤ g)
theorem Tryz.infoShelf9 : (Tryz.prog.info? 59).map (fun i => (i.zero, i.size, i.bytes)) = some (some (.agg #[.slice none 0 0, .slice none 0 0, .slice none 0 0, .slice none 0 0, .int .i64 0, .int .i64 0, .int .i64 0, .int .i64 0, .int .i64 0]), 9, 136) := by kernel_rfl
set_option maxRecDepth 100000 in
set_option maxHeartbeats 4000000 in
theorem ins_end9 (xs : List Value) (base N d vb : Nat) (co : Option Addr) (v0 v1 v2 v3 v4 v5 v6 v7 v8 : Value) (w : World) (own : w.ownsRow base 59 9 (.slice co N d) N xs) (hN : N ≤ 8) (hbase : base ≤ w.heap.size) (F : w.heap[vb]? = some (.cells #[v0, v1, v2, v3, v4, v5, v6, v7, v8] 59 (0, 0))) (h1v : ∀ u ∈ [v0, v1, v2, v3, v4, v5, v6, v7, v8], u.oneCell' = true) :
  Calls Tryz.prog 129 #[.slice co N d, .int .i64 N, .slice (some ⟨vb, 0, none⟩) 1 1] w (InsPost9 w base (.slice co N d) N N xs [v0, v1, v2, v3, v4, v5, v6, v7, v8]) := by
 obtain ⟨i0, hi, hz0, hz1, hz2⟩ := info_parts Tryz.infoShelf9
 have hl : xs.length = N * 9 := own.1
 have HT : Hid (xs.take (N * 9) ++ ([v0, v1, v2, v3, v4, v5, v6, v7, v8] ++ xs.drop (N * 9)) = xs ++ [v0, v1, v2, v3, v4, v5, v6, v7, v8]) := by
  show _ = _
  rw [List.take_of_length_le (by omega), List.drop_eq_nil_of_le (by omega)]; simp
 have hnw : ∀ j u, [v0, v1, v2, v3, v4, v5, v6, v7, v8][j]? = some u → w.cell? ((⟨vb, 0, none⟩ : Addr).add j) = some u := by
  intro j u hu
  rw [show (⟨vb, 0, none⟩ : Addr).add j = ⟨vb, 0 + j, none⟩ from by unfold Addr.add; split <;> simp_all]
  rw [Nat.zero_add]
  simp only [World.cell?, F]
  simpa using hu
 have h1 := h1v
 have HNW := hide hnw
 have H1 := hide h1
 clear hnw h1 hl
 have hco : ∃ a, co = a := ⟨_, rfl⟩
 cases co with
 | none =>
  have hN0 : N = 0 := by
   rcases own.2 with ⟨_, h⟩ | ⟨g, c, cur, h, _⟩
   ·exact h
   ·cases h
  subst hN0
  have hd0 : d = 0 := by
   rcases own.2 with ⟨h, _⟩ | ⟨g, c, cur, h, _⟩
   ·simpa using h
   ·cases h
  subst hd0
  go_enter Tryz.func129, Tryz.ntmps129
  go_wp2_with (at_builtin; refine wpList_append_lies _ rfl _ _ 24 rfl base 59 i0 (.agg #[.slice none 0 0, .slice none 0 0, .slice none 0 0, .slice none 0 0, .int .i64 0, .int .i64 0, .int .i64 0, .int .i64 0, .int .i64 0]) 9 136 Tryz.underlying24 hi hz0 hz1 hz2 rfl (by decide) _ _ _ rfl own ⟨vb, 0, none⟩ 1 1 [v0, v1, v2, v3, v4, v5, v6, v7, v8] rfl rfl HNW.out H1.out (by decide) (by unfold maxLen; omega) (by omega) hbase w.heap.size rfl ?_)
  intro g cap w' ownZ grZ hatZ hltZ
  go_wp2
  go_ret
  exact ⟨g, cap, rfl, by rw [HT.out]; exact ownZ, grZ, by rcases hatZ with h | h; exact .inl h; right; omega⟩
 | some ad =>
  have had : ∃ g, ad = ⟨g, 0, none⟩ := by
   rcases own.2 with ⟨h, _⟩ | ⟨g, c, cur, h, _⟩
   ·cases h
   ·injection h with h1 h2 h3
    injection h1 with h1
    exact ⟨g, h1⟩
  obtain ⟨g0, rfl⟩ := had
  have hcap := (own_cap own).1
  go_enter Tryz.func129, Tryz.ntmps129
  go_wp2_with (at_builtin; refine wpList_append_lies _ rfl _ _ 24 rfl base 59 i0 (.agg #[.slice none 0 0, .slice none 0 0, .slice none 0 0, .slice none 0 0, .int .i64 0, .int .i64 0, .int .i64 0, .int .i64 0, .int .i64 0]) 9 136 Tryz.underlying24 hi hz0 hz1 hz2 rfl (by decide) _ _ _ rfl own ⟨vb, 0, none⟩ 1 1 [v0, v1, v2, v3, v4, v5, v6, v7, v8] rfl rfl HNW.out H1.out (by decide) (by unfold maxLen; omega) (by omega) hbase w.heap.size rfl ?_)
  all_goals
   intro g cap w' ownZ grZ hatZ hltZ
   go_wp2
   go_ret
   exact ⟨g, cap, rfl, by rw [HT.out]; exact ownZ, grZ, by rcases hatZ with h | h; exact .inl h; right; omega⟩
set_option maxRecDepth 100000 in
set_option maxHeartbeats 4000000 in
theorem ins_room9 (xs : List Value) (base N d p vb g : Nat) (v0 v1 v2 v3 v4 v5 v6 v7 v8 : Value) (w : World) (own : w.ownsRow base 59 9 (.slice (some ⟨g, 0, none⟩) N d) N xs) (hp : p < N) (hN : N ≤ 8) (hd : N + 1 ≤ d) (F : w.heap[vb]? = some (.cells #[v0, v1, v2, v3, v4, v5, v6, v7, v8] 59 (0, 0))) (hne : vb ≠ g) (h1v : ∀ u ∈ [v0, v1, v2, v3, v4, v5, v6, v7, v8], u.oneCell' = true) (h1c : ∀ u ∈ xs, u.oneCell' = true) :
  Calls Tryz.prog 129 #[.slice (some ⟨g, 0, none⟩) N d, .int .i64 p, .slice (some ⟨vb, 0, none⟩) 1 1] w (InsPost9 w base (.slice (some ⟨g, 0, none⟩) N d) N p xs [v0, v1, v2, v3, v4, v5, v6, v7, v8]) := by
 obtain ⟨i0, hi, hz0, hz1, hz2⟩ := info_parts Tryz.infoShelf9
 have hl : xs.length = N * 9 := own.1
 obtain ⟨cur, hcur⟩ : ∃ cur, w.heap[g]? = some (.cells cur 59 (0, 0)) ∧ cur.size = d * 9 ∧ base ≤ g ∧ d ≤ maxLen := by
  rcases own.2 with ⟨h, _⟩ | ⟨g', c, cur, h, hb, hh, h2, h3, h4, _⟩
  ·cases h
  ·injection h with h1 _ h5
   injection h1 with h1
   injection h1 with h1 _ _
   subst h1
   subst h5
   exact ⟨cur, hh, h4, hb, h3⟩
 obtain ⟨hG, hGs, hGb, hGm⟩ := hcur
 have hcs : ∀ j, j < xs.length → w.cell? ⟨g, j, none⟩ = xs[j]? := fun j hj => own.cellAt j (by omega)
 have hsp : ∀ j, j < (N + 1) * 9 → (w.cell? ⟨g, j, none⟩).isSome = true := fun j hj => by
  simp [World.cell?, hG]
  omega
 have hfz : ∀ j, w.frozen? ⟨g, j, none⟩ = false := fun j => by simp [World.frozen?, hG]
 have q2 : w.frozen? ⟨vb, 0, none⟩ = false := by simp [World.frozen?, F]
 have hnw : ∀ j u, [v0, v1, v2, v3, v4, v5, v6, v7, v8][j]? = some u → w.cell? ((⟨vb, 0, none⟩ : Addr).add j) = some u := by
  intro j u hu
  rw [show (⟨vb, 0, none⟩ : Addr).add j = ⟨vb, 0 + j, none⟩ from by unfold Addr.add; split <;> simp_all]
  rw [Nat.zero_add]
  simp only [World.cell?, F]
  simpa using hu
 have hsz : (Tryz.prog.info? 59).map (·.size) = some 9 := by rw [hi]; simp [hz1]
 have hov : ∀ lb cb, (callFunc 174 #[.slice (some ⟨vb, 0, none⟩) 1 1, .slice (some ⟨g, (p + 1) * 9, none⟩) lb cb]).run Tryz.prog w = .ok (.value (.bool false)) w := fun lb cb => by
  rw [run_callFunc_extern Tryz.func174 (by kernel_rfl) (by kernel_rfl) (by kernel_rfl) (e := Extern.SlicesOverlaps.overlaps #[24, 24] #[4]) (by kernel_rfl),
   Lib.run_overlaps_apart w 24 4 59 Tryz.underlying24 9 (fun w => by simp [Go.sizeOf, typeInfo, hi, hz1]) ⟨vb, 0, none⟩ ⟨g, (p + 1) * 9, none⟩ 1 1 lb cb hne 59 59 9 (d * 9) (by simp [World.shape?, F]) (by simp [World.shape?, hG, hGs]) (by omega) q2 (by simp [World.frozen?, F])]
  rfl
 have hdl : (xs.drop (p * 9)).length = (N - p) * 9 := by rw [List.length_drop, hl]; omega
 have hcp1 : ∀ ty dc sc, (Builtin.copy_ #[24, 24] ty #[.slice (some ⟨g, (p + 1) * 9, none⟩) (N - p) dc, .slice (some ⟨g, p * 9, none⟩) (N + 1 - p) sc]).run Tryz.prog w.drew = .ok (goInt (Nat.min (N + 1 - p) (N - p))) (w.drew.setCells g ((p + 1) * 9) (xs.drop (p * 9))) := fun ty dc sc =>
  run_copy9 w.drew _ _ ty 59 g ((p + 1) * 9) (N - p) dc ⟨g, p * 9, none⟩ (N + 1 - p) sc (xs.drop (p * 9)) Tryz.underlying24 hsz (by rw [hdl]; simp only [Nat.min_def]; split <;> omega)
   (fun j v hj => by
    rw [Addr.add_lit]
    have hj2 : j < (xs.drop (p * 9)).length := by
     rcases Nat.lt_or_ge j (xs.drop (p * 9)).length with h | h
     ·exact h
     ·rw [List.getElem?_eq_none h] at hj; cases hj
    rw [List.getElem?_drop] at hj
    exact (hcs (p * 9 + j) (by omega)).trans hj)
   (fun j hj => hsp _ (by omega)) (fun j hj => hfz _) (fun v hv => h1c v (List.mem_of_mem_drop hv))
 obtain ⟨W1, hW1⟩ : ∃ W1, W1 = w.drew.setCells g ((p + 1) * 9) (xs.drop (p * 9)) := ⟨_, rfl⟩
 have hcp2 : ∀ (W : World), (∀ x, W.cell? x = W1.cell? x) → (∀ x, W.frozen? x = W1.frozen? x) → ∀ ty dc, (Builtin.copy_ #[24, 24] ty #[.slice (some ⟨g, p * 9, none⟩) (N + 1 - p) dc, .slice (some ⟨vb, 0, none⟩) 1 1]).run Tryz.prog W = .ok (goInt (Nat.min 1 (N + 1 - p))) (W.setCells g (p * 9) [v0, v1, v2, v3, v4, v5, v6, v7, v8]) := fun W hWc hWf ty dc =>
  run_copy9 W _ _ ty 59 g (p * 9) (N + 1 - p) dc ⟨vb, 0, none⟩ 1 1 [v0, v1, v2, v3, v4, v5, v6, v7, v8] Tryz.underlying24 hsz (by simp only [Nat.min_def]; split <;> simp; omega)
   (fun j v hj => by
    have := hnw j v hj
    rw [Addr.add_lit] at this ⊢
    rw [hWc, hW1, World.cell?_setCells_out g _ _ _ _ (fun h _ => absurd h hne)]
    exact this)
   (fun j hj => by rw [hWc, hW1]; exact isSome_setCells g _ _ w.drew (fun t ht => hsp ((p + 1) * 9 + t) (by rw [hdl] at ht; omega)) _ (hsp (p * 9 + j) (by simp at hj; omega))) (fun j hj => by rw [hWf, hW1, World.frozen?_setCells]; exact hfz _) h1v
 rw [← hW1] at hcp1
 have hw1 : IntKind.i64.wrap ((p : Int) + 1) = (p : Int) + 1 := by rw [IntKind.wrap_i64]; omega
 have hw2 : IntKind.i64.wrap ((N : Int) + 1) = (N : Int) + 1 := by rw [IntKind.wrap_i64]; omega
 have hz2' : ¬ ((p : Int) = (N : Int)) := by omega
 have htn : ((p : Int) + 1).toNat = p + 1 := by omega
 have htn2 : ((N : Int) + 1).toNat = N + 1 := by omega
 have hb1 : (0 : Int) ≤ (p : Int) + 1 := by omega
 have hb3 : (p : Int) ≤ (N : Int) + 1 := by omega
 have hb5 : (p : Int) ≤ (N : Int) := by omega
 have hb6 : p ≤ N := by omega
 have hb2 : ¬ (d = p + 1) := by omega
 have hb4 : ¬ (d = p) := by omega
 have FIN : Hid (InsPost9 w base (.slice (some ⟨g, 0, none⟩) N d) N p xs [v0, v1, v2, v3, v4, v5, v6, v7, v8] (.returned (.slice (some ⟨g, 0, none⟩) (N + 1) d)) (W1.setCells g (p * 9) [v0, v1, v2, v3, v4, v5, v6, v7, v8])) := by
  obtain ⟨c1, k1, k2⟩ := setCells_block g (xs.drop (p * 9)) ((p + 1) * 9) w.drew cur _ _ (show w.drew.heap[g]? = _ from hG)
  obtain ⟨c2, k3, k4⟩ := setCells_block g [v0, v1, v2, v3, v4, v5, v6, v7, v8] (p * 9) _ c1 _ _ k1
  refine ⟨g, d, rfl, own_of_cells (cur := c2) (by rw [hW1]; exact k3) hGb hd hGm (by omega) ?_ ?_, ?_, .inl rfl⟩
  ·simp [hl]; omega
  ·intro j hj
   rw [hW1]
   refine ins_cells9 (w := w.drew) hl rfl (by omega) hcs hsp j ?_
   simp [hl] at hj; omega
  ·rw [hW1]
   exact grown_trans (grown_trans (drew_grown w (some g)) (setCells_grown g _ _ _) (fun k hk => .inl hk)) (setCells_grown g _ _ _) (fun k hk => .inl hk)
 have HOV := hide hov
 have HC1 := hide hcp1
 have HC2 := hide hcp2
 clear hov hcp1 hcp2 hG hGs hGb hGm hcs hsp hfz hnw h1v hdl q2 F own h1c hW1 hl
 go_enter Tryz.func129, Tryz.ntmps129
 have hov := HOV.out
 go_wp2_with (simp only [hov])
 clear hov
 go_region_law (refine step_copy_runI rfl _ _ 24 24 rfl (.slice (some ⟨g, (p + 1) * 9, none⟩) (N - p) (d - (p + 1))) (.slice (some ⟨g, p * 9, none⟩) (N + 1 - p) (d - p)) (by simp [Act.eval, Act.put]) (by simp [Act.eval, Act.put]) (HC1.out 3 (d - (p + 1)) (d - p)) ?_)
 go_wp2_with fail
 rw [HC2.out W1 (fun _ => rfl) (fun _ => rfl) 3 (d - p)]
 simp only [Result.andThen]
 rw [Oper.upon_value]
 go_wp2
 go_ret
 exact FIN.out
set_option maxRecDepth 100000 in
set_option maxHeartbeats 4000000 in
theorem ins_grow9 (xs : List Value) (base N d p vb g : Nat) (vs : List Value) (hv9 : vs.length = 9) (w : World) (own : w.ownsRow base 59 9 (.slice (some ⟨g, 0, none⟩) N d) N xs) (hp : p < N) (hN : N ≤ 8) (hd : d < N + 1) (hbase : base ≤ w.heap.size) (hvl : vb < w.heap.size) (hnw : ∀ j v, vs[j]? = some v → w.cell? ⟨vb, 0 + j, none⟩ = some v) (h1v : ∀ u ∈ vs, u.oneCell' = true) (h1c : ∀ u ∈ xs, u.oneCell' = true) :
  Calls Tryz.prog 129 #[.slice (some ⟨g, 0, none⟩) N d, .int .i64 p, .slice (some ⟨vb, 0, none⟩) 1 1] w (InsPost9 w base (.slice (some ⟨g, 0, none⟩) N d) N p xs vs) := by
 obtain ⟨i0, hi, hz0, hz1, hz2⟩ := info_parts Tryz.infoShelf9
 have hl : xs.length = N * 9 := own.1
 have hdN : N ≤ d := (own_cap own).1
 have hcs : ∀ j, j < xs.length → w.cell? ⟨g, j, none⟩ = xs[j]? := fun j hj => own.cellAt j (by omega)
 have hgl : g < w.heap.size := (own_block own).2
 have hsz : (Tryz.prog.info? 59).map (·.size) = some 9 := by rw [hi]; simp [hz1]
 have hkk : (N : Int) + 1 - (p : Int) = ((N + 1 - p : Nat) : Int) := by omega
 have hik : p + (N + 1 - p) = N + 1 := by omega
 have hold : (Builtin.firstCells i0.size p (.slice (some ⟨g, 0, none⟩) p d)).run Tryz.prog w.drew = .ok (xs.take (p * 9)).toArray w.drew := by
  rw [hz1]
  exact run_firstCells_some w.drew 9 p ⟨g, 0, none⟩ p d (xs.take (p * 9)) (by rw [List.length_take]; omega) (fun j v hj => by
   rw [Addr.add_lit, Nat.zero_add]
   rw [List.getElem?_take] at hj
   split at hj
   ·have hj2 : j < xs.length := by omega
    exact (hcs j hj2).trans hj
   ·cases hj)
 obtain ⟨G, hG⟩ : ∃ G, G = grownCap w (N + 1) d 59 := ⟨_, rfl⟩
 obtain ⟨ROW, hROW⟩ : ∃ ROW : Array Value, ROW = (xs.take (p * 9)).toArray ++ Builtin.zeroCells (Value.agg #[.slice none 0 0, .slice none 0 0, .slice none 0 0, .slice none 0 0, .int .i64 0, .int .i64 0, .int .i64 0, .int .i64 0, .int .i64 0]).cells (N + 1 - p) ++ Builtin.zeroCells (Value.agg #[.slice none 0 0, .slice none 0 0, .slice none 0 0, .slice none 0 0, .int .i64 0, .int .i64 0, .int .i64 0, .int .i64 0, .int .i64 0]).cells (G - (N + 1)) := ⟨_, rfl⟩
 have hrz : ∀ ty, (Builtin.append_ #[24, 3] ty #[.slice (some ⟨g, 0, none⟩) p d, .int .i64 ((N : Int) + 1 - (p : Int))]).run Tryz.prog w =
   .ok (.slice (some ⟨w.heap.size, 0, none⟩) (N + 1) G) (w.drew.alloc (.cells ROW 59)) := fun ty => by
  have h := Lib.run_append_grow_zeros w 24 3 ty 59 i0 _ .i64 .i64 Tryz.underlying24 Tryz.underlying3 hi hz0 (some ⟨g, 0, none⟩) p d (xs.take (p * 9)) hold (N + 1 - p) (by omega) (by omega) (by omega) (by omega) (by rw [hz2]; omega) (by rw [hz2, hik]; exact growslice_fits hd (by omega))
  rw [hik] at h
  rw [hkk, hROW, hG]
  exact h
 have hGn : N + 1 ≤ G := by rw [hG]; exact grownCap_ge w _ _ _
 have hGm : G ≤ maxLen := by rw [hG]; exact grownCap_le_maxLen w (N + 1) d 59 (by unfold maxLen; omega)
 have hRs : ROW.size = G * 9 := by
  rw [hROW]
  simp [Builtin.zeroCells, Value.cells, hl]
  omega
 have hR0 : ∀ j, j < p * 9 → ROW[j]? = xs[j]? := fun j hj => by
  rw [hROW, Array.getElem?_append_left (by simp [Builtin.zeroCells, Value.cells, hl]; omega), Array.getElem?_append_left (by simp [hl]; omega)]
  simp [hj]
 obtain ⟨W1, hW1⟩ : ∃ W1, W1 = w.drew.alloc (.cells ROW 59) := ⟨_, rfl⟩
 have hN1 : ∀ j, j < (N + 1) * 9 → (W1.cell? ⟨w.heap.size, j, none⟩).isSome = true := fun j hj => by
  rw [hW1, World.cell?_alloc_at (w := w.drew) ROW _ w.heap.size j rfl, Array.getElem?_eq_getElem (by omega)]; rfl
 have hN0 : ∀ j, j < p * 9 → W1.cell? ⟨w.heap.size, j, none⟩ = xs[j]? := fun j hj => by
  rw [hW1, World.cell?_alloc_at (w := w.drew) ROW _ w.heap.size j rfl]; exact hR0 j hj
 have hNf : ∀ j, W1.frozen? ⟨w.heap.size, j, none⟩ = false := fun j => by rw [hW1]; exact World.frozen?_alloc_at (w := w.drew) ROW _ w.heap.size j rfl
 have hOg : ∀ j, W1.cell? ⟨g, j, none⟩ = w.cell? ⟨g, j, none⟩ := fun j => by rw [hW1, World.cell?_alloc_past (w := w.drew) _ g j hgl]; rfl
 have hOv : ∀ j, W1.cell? ⟨vb, j, none⟩ = w.cell? ⟨vb, j, none⟩ := fun j => by rw [hW1, World.cell?_alloc_past (w := w.drew) _ vb j hvl]; rfl
 have hdl : (xs.drop (p * 9)).length = (N - p) * 9 := by rw [List.length_drop, hl]; omega
 have hcpA : ∀ (W : World), (∀ x, W.cell? x = W1.cell? x) → (∀ x, W.frozen? x = W1.frozen? x) → ∀ ty dc, (Builtin.copy_ #[24, 24] ty #[.slice (some ⟨w.heap.size, p * 9, none⟩) (N + 1 - p) dc, .slice (some ⟨vb, 0, none⟩) 1 1]).run Tryz.prog W = .ok (goInt (Nat.min 1 (N + 1 - p))) (W.setCells w.heap.size (p * 9) vs) := fun W hWc hWf ty dc =>
  run_copy9 W _ _ ty 59 w.heap.size (p * 9) (N + 1 - p) dc ⟨vb, 0, none⟩ 1 1 vs Tryz.underlying24 hsz (by rw [hv9]; simp only [Nat.min_def]; split <;> omega)
   (fun j v hj => by rw [Addr.add_lit, hWc, hOv]; exact hnw j v hj)
   (fun j hj => by rw [hWc]; exact hN1 _ (by rw [hv9] at hj; omega)) (fun j hj => by rw [hWf]; exact hNf _) h1v
 have hbN : g ≠ w.heap.size := by omega
 have hcpB : ∀ (W : World), (∀ z, W.frozen? z = (W1.setCells w.heap.size (p * 9) vs).frozen? z) → (∀ z, W.cell? z = (W1.setCells w.heap.size (p * 9) vs).cell? z) → ∀ ty dc sc, (Builtin.copy_ #[24, 24] ty #[.slice (some ⟨w.heap.size, (p + 1) * 9, none⟩) (N - p) dc, .slice (some ⟨g, p * 9, none⟩) (N - p) sc]).run Tryz.prog W = .ok (goInt (Nat.min (N - p) (N - p))) (W.setCells w.heap.size ((p + 1) * 9) (xs.drop (p * 9))) := fun W hWf hWc ty dc sc =>
  run_copy9 W _ _ ty 59 w.heap.size ((p + 1) * 9) (N - p) dc ⟨g, p * 9, none⟩ (N - p) sc (xs.drop (p * 9)) Tryz.underlying24 hsz (by rw [hdl]; simp)
   (fun j v hj => by
    have hj2 : j < (xs.drop (p * 9)).length := by
     rcases Nat.lt_or_ge j (xs.drop (p * 9)).length with h | h
     ·exact h
     ·rw [List.getElem?_eq_none h] at hj; cases hj
    rw [Addr.add_lit, hWc, World.cell?_setCells_out _ _ _ _ _ (fun h _ => absurd h hbN), hOg]
    rw [List.getElem?_drop] at hj
    exact (hcs (p * 9 + j) (by omega)).trans hj)
   (fun j hj => by rw [hWc]; exact isSome_setCells _ _ _ W1 (fun t ht => hN1 (p * 9 + t) (by rw [hv9] at ht; omega)) _ (hN1 ((p + 1) * 9 + j) (by omega)))
   (fun j hj => by rw [hWf, World.frozen?_setCells]; exact hNf _) (fun v hv => h1c v (List.mem_of_mem_drop hv))
 have FIN : Hid (InsPost9 w base (.slice (some ⟨g, 0, none⟩) N d) N p xs vs (.returned (.slice (some ⟨w.heap.size, 0, none⟩) (N + 1) G)) ((W1.setCells w.heap.size (p * 9) vs).drew.setCells w.heap.size ((p + 1) * 9) (xs.drop (p * 9)))) := by
  have k0 : W1.heap[w.heap.size]? = some (.cells ROW 59 (0, 0)) := by rw [hW1]; exact heap_alloc_new w.drew _
  obtain ⟨c1, k1, k2⟩ := setCells_block w.heap.size vs (p * 9) W1 ROW _ _ k0
  obtain ⟨c2, k3, k4⟩ := setCells_block w.heap.size (xs.drop (p * 9)) ((p + 1) * 9) (W1.setCells w.heap.size (p * 9) vs).drew c1 _ _ (heap_drew9 k1)
  refine ⟨w.heap.size, G, rfl, own_of_cells (cur := c2) k3 hbase hGn hGm (by omega) ?_ ?_, ?_, .inr (Nat.le_refl _)⟩
  ·simp [hl, hv9]; omega
  ·intro j hj
   refine ins_cells29 (w := W1) hl hv9 (by omega) hN0 hN1 j ?_
   simp [hl, hv9] at hj; omega
  ·have g1 : w.grownBy W1 (some g) := by rw [hW1]; exact grown_trans (drew_grown w (some g)) (World.grownBy_alloc w.drew _ none) (fun k hk => by cases hk)
   have g2 := grown_trans g1 (setCells_grown w.heap.size vs (p * 9) W1) (fun k hk => .inr (by injection hk with hk; omega))
   have g3 := grown_trans g2 (drew_grown _ none) (fun k hk => by cases hk)
   exact grown_trans g3 (setCells_grown w.heap.size (xs.drop (p * 9)) ((p + 1) * 9) _) (fun k hk => .inr (by injection hk with hk; omega))
 have HRZ := hide hrz
 have HCA := hide hcpA
 have HCB := hide hcpB
 have hw1 : IntKind.i64.wrap ((p : Int) + 1) = (p : Int) + 1 := by rw [IntKind.wrap_i64]; omega
 have hw2 : IntKind.i64.wrap ((N : Int) + 1) = (N : Int) + 1 := by rw [IntKind.wrap_i64]; omega
 have hw3 : IntKind.i64.wrap ((N : Int) + 1 - (p : Int)) = (N : Int) + 1 - (p : Int) := by rw [IntKind.wrap_i64]; omega
 have hz2' : ¬ ((p : Int) = (N : Int)) := by omega
 have hz3 : (d : Int) < (N : Int) + 1 := by omega
 have htn : ((p : Int) + 1).toNat = p + 1 := by omega
 have hb1 : (0 : Int) ≤ (p : Int) + 1 := by omega
 have hb3 : (p : Int) ≤ (N : Int) + 1 := by omega
 have hb5 : (p : Int) ≤ (N : Int) := by omega
 have hb6 : p ≤ N := by omega
 have hb7 : p ≤ d := by omega
 have hGi : ¬ (G = p) := by omega
 have hGim : ¬ (G = p + 1) := by omega
 have hci : ¬ (d = p) := by omega
 have HG := hide (And.intro hGn hGm)
 have hb8 : p ≤ N + 1 := by omega
 clear hrz hcpA hcpB hGn hGm hRs hR0 hN0 hN1 hNf hOg hOv hdl hkk hik hold hROW hG hcs hgl hvl own h1c h1v hnw hl
 have HRW : Hid (∀ ty, (Builtin.append_ #[24, 3] ty #[.slice (some ⟨g, 0, none⟩) p d, .int .i64 ((N : Int) + 1 - (p : Int))]).run Tryz.prog w = .ok (.slice (some ⟨w.heap.size, 0, none⟩) (N + 1) G) W1) := fun ty => by rw [hW1]; exact HRZ.out ty
 clear HRZ hW1
 go_enter Tryz.func129, Tryz.ntmps129
 go_wp2_with (at_builtin; refine Lib.wpList_append_run _ rfl _ _ _ _ rfl _ _ rfl rfl _ _ (HRW.out _) ?_)
 rw [HCA.out W1 (fun _ => rfl) (fun _ => rfl) 3 (G - p)]
 simp only [Result.andThen]
 rw [Oper.upon_value]
 go_wp2_with fail
 have hn1 := HG.out.1
 go_region_law (refine step_copy_runI rfl _ _ 24 24 rfl (.slice (some ⟨w.heap.size, (p + 1) * 9, none⟩) (N - p) (G - (p + 1))) (.slice (some ⟨g, p * 9, none⟩) (N - p) (d - p)) (by simp [Act.eval, Act.put]) (by simp [Act.eval, Act.put]) (HCB.out (W1.setCells w.heap.size (p * 9) vs).drew (fun _ => rfl) (fun _ => rfl) 3 (G - (p + 1)) (d - p)) ?_)
 go_wp2
 go_ret
 exact FIN.out
theorem ins9_any (xs : List Value) (v0 v1 v2 v3 v4 v5 v6 v7 v8 : Value) (base N d p vb : Nat) (co : Option Addr) (w : World) (own : w.ownsRow base 59 9 (.slice co N d) N xs) (hp : p ≤ N) (hN : N ≤ 8) (hbase : base ≤ w.heap.size) (F : w.heap[vb]? = some (.cells #[v0, v1, v2, v3, v4, v5, v6, v7, v8] 59 (0, 0))) (h1v : ∀ u ∈ [v0, v1, v2, v3, v4, v5, v6, v7, v8], u.oneCell' = true) (h1c : ∀ u ∈ xs, u.oneCell' = true)
  (hne : (Value.slice co N d).ownBlock ≠ some vb) :
  Calls Tryz.prog 129 #[.slice co N d, .int .i64 p, .slice (some ⟨vb, 0, none⟩) 1 1] w (InsPost9 w base (.slice co N d) N p xs [v0, v1, v2, v3, v4, v5, v6, v7, v8]) := by
 by_cases he : p = N
 ·rw [he]; exact ins_end9 xs base N d vb co _ _ _ _ _ _ _ _ _ w own hN hbase F h1v
 ·have hg : ∃ g, co = some ⟨g, 0, none⟩ := by
   rcases own.2 with ⟨_, h⟩ | ⟨g, cp, cur, h, _⟩
   ·omega
   ·injection h with h1 _ _
    exact ⟨g, h1⟩
  obtain ⟨g, rfl⟩ := hg
  by_cases hr : N + 1 ≤ d
  ·exact ins_room9 xs base N d p vb g _ _ _ _ _ _ _ _ _ w own (by omega) hN hr F (fun e => hne (by simp [Value.ownBlock, e])) h1v h1c
  ·exact ins_grow9 xs base N d p vb g _ rfl w own (by omega) hN (by omega) hbase (lt_of_block F) (fun j u hu => by rw [Nat.zero_add]; simp only [World.cell?, F]; simpa using hu) h1v h1c
end Go.Proofs.YtoldmigappbjcaaGreatDoor
