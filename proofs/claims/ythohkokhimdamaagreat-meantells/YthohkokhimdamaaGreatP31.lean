/-
  The walks of Over's closures, for the sum of Ask.
-/
import Derived.Test.YthohkokhimdamaaGreatP30
/-
  The walk of windowOf, of whatever the samples of each series come to.
-/
namespace Go.GrainU
open Go.RowKit

theorem OwnC.bel {w w' : World} {r : Option Nat} {base T N : Nat} {v : Value} {l : List CT} (h : OwnC w base T v N l) (hr : ∀ C, r = some C → C < base) (hs : Solo r w) (hb : Bel r w.heap.size w w') : OwnC w' base T v N l :=
  ⟨own_bel h.own hr hb, fun c hc => (h.ser c hc).bel (wordy_l _) hs hb⟩

/-- what a sum's asking answers -/
def sumv (J : Grain.Sm) (x : Int) : Value := .tuple #[.agg #[.int .i64 J.c, .int .i64 J.t, .int .i64 J.mn, .int .i64 J.mx, .int .i64 J.f, .int .i64 J.l, .int .i64 J.r], .int .i64 x]

def SPost (S : Except Int Grain.Sm) (I : Nat → World → Prop) (r : Option Nat) (c k : Nat) (w : World) (e : Ending) (w' : World) : Prop :=
  ((∃ (x : Int) (J : Grain.Sm), x ≠ 0 ∧ S = .error x ∧ e = .returned (sumv J x)) ∨
   ∃ J : Grain.Sm, S = .ok J ∧ e = .returned (sumv J 0) ∧ I (c + k) w') ∧ Bel r w.heap.size w w'

/-- the cells of the first k series -/
def winT (S : Nat → Except Int Grain.Sm) (h : Hd) (l : List ST) : Nat → Except Int (List Cl)
  | 0 => .ok []
  | k + 1 =>
    match winT S h l k with
    | .error e => .error e
    | .ok c =>
      if says (st l k).ser h.ms = true then
        match S k with
        | .error e => .error e
        | .ok s => .ok (c ++ if (valP h.word s).2 = true then [((st l k).ser, (valP h.word s).1)] else [])
      else .ok c

def winKT (K : Nat → Nat) (h : Hd) (l : List ST) : Nat → Nat
  | 0 => 0
  | k + 1 => winKT K h l k + if says (st l k).ser h.ms = true then K k else 0

theorem winT_err {S : Nat → Except Int Grain.Sm} {h : Hd} {l : List ST} {x : Int} {k : Nat} (e : winT S h l k = .error x) : ∀ n, k ≤ n → winT S h l n = .error x := by
  intro n
  induction n with
  | zero => intro hk; rw [show k = 0 from by omega] at e; exact e
  | succ n ih =>
    intro hk
    rcases Nat.lt_or_ge n k with h1 | h1
    · rw [show n + 1 = k from by omega]; exact e
    · rw [winT, ih h1]

/-! what Over comes to -/

theorem chk_zero {e : Ex} {time : Int} (h : chk e time = 0) : Rt e ∧ 0 ≤ time ∧ time ≤ 1000000 := by
  unfold chk at h
  by_cases h1 : (wr e 1 0).1 = 0
  · rw [if_pos h1] at h
    by_cases h2 : typ e = 0
    · rw [if_pos h2] at h
      by_cases h3 : time < 0 ∨ 1000000 < time
      · rw [if_pos h3] at h; simp at h
      · exact ⟨(wr_ok e 1 0 (by omega) h1).1, by omega, by omega⟩
    · rw [if_neg h2] at h; exact absurd h h2
  · rw [if_neg h1] at h; exact absurd h h1

def overW (S : Nat → Int → Int → Except Int Grain.Sm) (l : List ST) (n : Nat) (time : Int) (h : Hd) : Except Int (List Cl) := winT (fun i => S i (max 0 (time - h.range)) time) h l n
def overC (K : Nat → Int → Int → Nat) (l : List ST) (n : Nat) (time : Int) (h : Hd) : Nat := winKT (fun i => K i (max 0 (time - h.range)) time) h l n
def overE (S : Nat → Int → Int → Except Int Grain.Sm) (l : List ST) (n : Nat) (time : Int) (e : Ex) : Except Int Mn := if chk e time = 0 then evG (overW S l n time) e else .error (chk e time)
def overK (K : Nat → Int → Int → Nat) (l : List ST) (n : Nat) (time : Int) (e : Ex) : Nat := costG (overC K l n time) e

def OPost (O : Except Int Mn) (I : Nat → World → Prop) (r : Option Nat) (c k : Nat) (w : World) (e : Ending) (w' : World) : Prop :=
  ((∃ x : Int, x ≠ 0 ∧ O = .error x ∧ e = .returned (.tuple #[.slice none 0 0, .int .i64 x])) ∨
   ∃ nb cts co M d, e = .returned (.tuple #[.slice co M d, .int .i64 0]) ∧ O = .ok ⟨nb, cls cts⟩ ∧ M = cts.length ∧ CsIn w' co cts ∧ I (c + k) w') ∧ Bel r w.heap.size w w'

theorem spost_with {S : Except Int Grain.Sm} {I : Nat → World → Prop} {r : Option Nat} {c k : Nat} {V w w' : World} {e : Ending} (h : SPost S I r c k w e w') (hb : Bel r V.heap.size V w) : SPost S (fun c w' => I c w' ∧ Bel r V.heap.size V w') r c k w e w' := by
  obtain ⟨h1, h2⟩ := h
  refine ⟨?_, h2⟩
  rcases h1 with h | ⟨J, a, b, d⟩
  · exact .inl h
  · exact .inr ⟨J, a, b, d, bel_step h2 hb⟩

theorem gpost_of {O : Except Int Mn} {I J : Nat → World → Prop} {r : Option Nat} {c k : Nat} {w w' : World} {e : Ending} (h : GPost O (fun c w' => I c w' ∧ J c w') r c k w e w') : GPost O I r c k w e w' := by
  obtain ⟨h1, h2⟩ := h
  refine ⟨?_, h2⟩
  rcases h1 with h | ⟨nb, cts, co, M, d, a, b, m, f, g⟩
  · exact .inl h
  · exact .inr ⟨nb, cts, co, M, d, a, b, m, f, g.1⟩

end Go.GrainU
namespace Go.Proofs.YthohkokhimdamaaGreat
open Go.RowKit Go.GrainU

set_option maxRecDepth 100000 in
set_option maxHeartbeats 8000000 in
theorem gwin_any (l : List ST) (t : ET) (S : Nat → Except Int Grain.Sm) (K : Nat → Nat) (I : Nat → World → Prop) (r : Option Nat) (Nb B1 B2 B3 : Nat) (hB : Beside r Nb I) (ao : Option Addr) (n cap : Nat) (w : World) (cc : Nat) (hI : I cc w) (hNw : Nb ≤ w.heap.size) (hs : SsIn w ao l) (hin : t.In w) (hn : n = l.length) (hn8 : n ≤ 8)
    (hS : ∀ i s, S i = .ok s → -9223372036854775808 ≤ s.t ∧ s.t ≤ 9223372036854775807)
    (hsum : ∀ (i : Nat) (w' : World) (c' : Nat), i < n → I c' w' → Bel r w.heap.size w w' → Calls Tryz.prog 33 #[.int .i64 i, .pointer (some ⟨B1, 0, none⟩), .pointer (some ⟨B2, 0, none⟩), .pointer (some ⟨B3, 0, none⟩)] w' fun e w'' => SPost (S i) I r c' (K i) w' e w'') :
    Calls Tryz.prog 32 #[.slice ao n cap, eval t, .func (.func 33) #[] #[.pointer (some ⟨B1, 0, none⟩), .pointer (some ⟨B2, 0, none⟩), .pointer (some ⟨B3, 0, none⟩)]] w fun e w' => GPost (wopt (winT S t.hd l n)) I r cc (winKT K t.hd l n) w e w' := by
  obtain ⟨i0, hi, hz0, hz1, hz2⟩ := info_parts Tryz.infoCell
  have HN := hide hn
  have HSo := hide (hB.solo cc w hI)
  have HKp := hide (fun c' w1 w2 (h1 : I c' w1) (h2 : Below w.heap.size w1 w2) => hB.kept c' w1 w2 h1 (h2.mono hNw))
  have HNw := hide hNw
  have HB := hide hB
  have HI := hide hI
  have HS := hide hS
  have HSum := hide hsum
  have HSs := hide hs
  clear hn hB hI hS hsum hNw
  obtain ⟨ms, hms⟩ : ∃ ms, ms = t.hd.ms := ⟨_, rfl⟩
  obtain ⟨wd, hwd⟩ : ∃ wd, wd = t.hd.word := ⟨_, rfl⟩
  obtain ⟨ml, hml⟩ : ∃ ml, ml = ms.length := ⟨_, rfl⟩
  obtain ⟨kd, hkd⟩ : ∃ kd, kd = t.hd.kind := ⟨_, rfl⟩
  obtain ⟨rg, hrg⟩ : ∃ rg, rg = t.hd.range := ⟨_, rfl⟩
  obtain ⟨en, hen⟩ : ∃ en, en = t.hd.n := ⟨_, rfl⟩
  have hinp : Seg w t.sp.ma (mcells ms) ∧ ms.length ≤ 9223372036854775806 := by
    rw [hms]
    cases t with
    | node h s kids => simp only [ET.In] at hin; exact ⟨hin.1.1, hin.2.1.1⟩
  obtain ⟨smM, lM⟩ := hinp
  have HWT : Hid (∀ k, winT S t.hd l (k + 1) = match winT S t.hd l k with | .error e => .error e | .ok c => if says (st l k).ser ms = true then (match S k with | .error e => .error e | .ok s => .ok (c ++ if (valP wd s).2 = true then [((st l k).ser, (valP wd s).1)] else [])) else .ok c) := by
    intro k; rw [hms, hwd]; rfl
  have HWK : Hid (∀ k, winKT K t.hd l (k + 1) = winKT K t.hd l k + if says (st l k).ser ms = true then K k else 0) := by
    intro k; rw [hms]; rfl
  obtain ⟨hd, hhd⟩ : ∃ hd, hd = t.hd := ⟨_, rfl⟩
  have hml2 : t.hd.ms.length = ml := by rw [hml, hms]
  unfold eval
  generalize t.hd.bs.length = bl
  generalize t.kids.length = kl
  rw [hml2, ← hkd, ← hrg, ← hwd, ← hen, ← hhd]
  rw [← hhd] at HWT HWK
  clear hml2 hkd hrg hwd hen hms hin
  have HML := hide hml
  clear hml hhd hs
  have lM' : ml ≤ 9223372036854775807 := by rw [HML.out]; omega
  obtain ⟨W, hW⟩ : ∃ W, W = (w.alloc (.cells #[.int .i64 kd, .int .i64 en, .int .i64 rg, .string wd, .slice t.sp.ma ml t.sp.mc, .slice t.sp.ba bl t.sp.bc, .slice t.sp.ka kl t.sp.kc] 27)).alloc (.cells #[.bool false, .slice none 0 0] 67) := ⟨_, rfl⟩
  have bel0 : Below w.heap.size w W := by rw [hW]; exact ((Below.refl _ _).alloc (Nat.le_refl _) _).alloc (by simp) _
  have F0 : W.heap[w.heap.size]? = some (.cells #[.int .i64 kd, .int .i64 en, .int .i64 rg, .string wd, .slice t.sp.ma ml t.sp.mc, .slice t.sp.ba bl t.sp.bc, .slice t.sp.ka kl t.sp.kc] 27 (0, 0)) := by rw [hW, Below.heap_alloc _ _ _ (by simp)]; exact heap_alloc_new w _
  have G0 : W.heap[w.heap.size + 1]? = some (.cells #[.bool false, .slice none 0 0] 67 (0, 0)) := by
    have := heap_alloc_new (w.alloc (.cells #[.int .i64 kd, .int .i64 en, .int .i64 rg, .string wd, .slice t.sp.ma ml t.sp.mc, .slice t.sp.ba bl t.sp.bc, .slice t.sp.ka kl t.sp.kc] 27)) (.cells #[.bool false, .slice none 0 0] 67)
    rw [hW]; simpa using this
  have HWs : Hid (W.heap.size = w.heap.size + 2) := by show _ = _; rw [hW]; simp
  have HW := hide hW
  have HRow : Hid (∀ C, r = some C → C < W.heap.size) := fun C hC => by
    have h1 := HB.out.row C hC
    have h2 := HNw.out
    have h3 := bel0.size
    omega
  have HI0 := hide (HKp.out _ _ _ HI.out bel0)
  have HF0 := hide F0
  have HG0 := hide G0
  have HB0 := hide bel0
  clear hW F0 G0 bel0
  go_enter Tryz.func32, Tryz.ntmps32
  go_wp2
  rw [← HW.out]
  go_loopw [8, 17] (fun out i wr => ∃ (k N d : Nat) (co : Option Addr) (cts : List CT), k ≤ n ∧ i = .int .i64 k ∧ out = .slice co N d ∧ N ≤ k ∧ OwnC wr W.heap.size 57 (.slice co N d) N cts ∧ Hid (winT S hd l k = .ok (cls cts)) ∧ Hid (I (cc + winKT K hd l k) wr) ∧ Bel r w.heap.size w wr ∧ wr.heap[w.heap.size]? = some (.cells #[.int .i64 kd, .int .i64 en, .int .i64 rg, .string wd, .slice t.sp.ma ml t.sp.mc, .slice t.sp.ba bl t.sp.bc, .slice t.sp.ka kl t.sp.kc] 27 (0, 0)) ∧ wr.heap[w.heap.size + 1]? = some (.cells #[.bool false, .slice none 0 0] 67 (0, 0))) (fun _ i _ => n - (intOf i).toNat)
  case atStart => exact ⟨0, 0, 0, none, [], Nat.zero_le _, rfl, rfl, Nat.le_refl _, OwnC.nil _ _ _, rfl, HI0.out, Bel.of HB0.out r, HF0.out, HG0.out⟩
  case round =>
    obtain ⟨k, N, d, co, cts, hk, rfl, rfl, hNk, own, HC, HIk, bel, Fr, Gr⟩ := hrel
    clear HF0 HG0 HI0 HB0 HI
    have hsz := bel.size
    by_cases hlt : k < n
    · have hkl : k < l.length := by rw [← HN.out]; exact hlt
      have HSr := hide (HSs.out.bel HSo.out bel)
      obtain ⟨b, off, rfl, hb, hcell⟩ := seg_series HSr.out.seg hkl
      obtain ⟨x, hx⟩ : ∃ x, x = st l k := ⟨_, rfl⟩
      obtain ⟨sn, hsn⟩ : ∃ sn, sn = x.ser.length := ⟨_, rfl⟩
      have xm : x ∈ l := by rw [hx]; exact st_mem hkl
      have c0 : wr.cell? ⟨b, off + k, none⟩ = some (.slice x.sa sn x.sc) := by rw [hsn, hx]; exact hcell k hkl
      have HSg := hide (fun w' (hb' : Bel r w.heap.size w w') => (HSs.out.bel HSo.out hb').ser x xm)
      have HT : Hid (winT S hd l (k + 1) = if says x.ser ms = true then (match S k with | .error e => .error e | .ok s => .ok (cls cts ++ if (valP wd s).2 = true then [(x.ser, (valP wd s).1)] else [])) else .ok (cls cts)) := by
        show _ = _
        rw [HWT.out k, HC.out, ← hx]
      have HTK : Hid (winKT K hd l (k + 1) = winKT K hd l k + if says x.ser ms = true then K k else 0) := by
        show _ = _
        rw [HWK.out k, ← hx]
      have sn4 : sn ≤ 4 := by rw [hsn]; exact HSs.out.len x xm
      have HNIL : Hid (x.sa = none → sn = 0 ∧ x.sc = 0) := fun h => by rw [hsn]; exact HSs.out.nil x xm h
      have HSN := hide hsn
      have segM := smM.bel (wordy_m _) HSo.out bel
      have segS := HSg.out wr bel
      obtain ⟨p0, p1, p2, p3, p4, p5, p6⟩ := seven_cells Fr
      obtain ⟨Q, hQ⟩ : ∃ Q, Q = says x.ser ms := ⟨_, rfl⟩
      rw [← hQ] at HT HTK
      have HQ := hide hQ
      have sn63 : sn ≤ 9223372036854775807 := by omega
      obtain ⟨KA, hKA⟩ : ∃ KA, KA = winKT K hd l k := ⟨_, rfl⟩
      obtain ⟨KB, hKB⟩ : ∃ KB, KB = winKT K hd l (k + 1) := ⟨_, rfl⟩
      rw [← hKA] at HTK HIk
      rw [← hKB] at HTK
      have HKB := hide hKB
      clear hsn hx hkl hcell hQ hKA hKB xm HC
      go_wp2_with fail
      refine (nmatches_any x.ser ms x.sa t.sp.ma sn x.sc ml t.sp.mc wr segS segM HSN.out HML.out sn63 lM').mono ?_
      rintro e w1 ⟨rfl, b1⟩
      rw [← HQ.out]
      have bel1 := bel_below b1 bel
      have own1 := own.below b1
      have F1 := below_block b1 Fr
      have G1 := below_block b1 Gr
      have HI1 := hide (HKp.out _ _ _ HIk.out (b1.mono hsz))
      clear b1 own Fr Gr bel p0 p1 p2 p3 p4 p5 p6 c0 segM segS HSr HIk hb hsz
      cases Q with
      | false =>
        have HC2 : Hid (winT S hd l (k + 1) = .ok (cls cts)) := by show _ = _; rw [HT.out]; simp
        have HI2 : Hid (I (cc + winKT K hd l (k + 1)) w1) := by
          show I _ _
          rw [← HKB.out, HTK.out]; simpa using HI1.out
        clear HT HTK HI1 HKB
        go_wp2
        go_roundw
        case rel => exact ⟨k + 1, N, d, co, cts, by omega, by go_num, rfl, by omega, own1, HC2, HI2, bel1, F1, G1⟩
        case measure => simp [intOf]; omega
      | true =>
        have PS := hide (HSum.out k w1 _ hlt HI1.out bel1)
        clear HSum
        go_wp2_with fail
        refine PS.out.mono ?_
        rintro e w2 ⟨hp, b2⟩
        have F2 := bel_block b2 HB.out.row HNw.out F1
        have G2 := bel_block b2 HB.out.row (Nat.le_trans HNw.out (Nat.le_succ _)) G1
        have own2 := own1.bel HRow.out (HB.out.solo _ _ HI1.out) b2
        have bel2 := bel_step b2 bel1
        have l0 : w.heap.size < w2.heap.size := lt_of_block F2
        have l1 : w.heap.size + 1 < w2.heap.size := lt_of_block G2
        have HP := hide hp
        clear hp PS own1 F1 G1 bel1 b2 HI1
        rcases HP.out with ⟨y, J, hy, ho, he⟩ | ⟨J, ho, he, hI2⟩
        · rw [he]
          unfold sumv
          have HE2 : Hid (winT S hd l n = .error y) := winT_err (k := k + 1) (by rw [HT.out, ho]; rfl) n hlt
          have HY := hide hy
          have hyb : (y != 0) = true := by simpa using hy
          obtain ⟨t0, t1, t2, t3⟩ := two_cells G2
          clear HP ho he hy HT HTK own2
          go_wp2
          exact bodyPost_ret (v := .tuple #[.agg #[.bool false, .slice none 0 0], .int .i64 y]) (by simp [results, Tryz.results32, go_sem, (err_done G2 (.cells #[.int .i64 J.c, .int .i64 J.t, .int .i64 J.mn, .int .i64 J.mx, .int .i64 J.f, .int .i64 J.l, .int .i64 J.r] 46)).1, (err_done G2 (.cells #[.int .i64 J.c, .int .i64 J.t, .int .i64 J.mn, .int .i64 J.mx, .int .i64 J.f, .int .i64 J.l, .int .i64 J.r] 46)).2]) rfl ⟨.inl ⟨y, HY.out, by rw [HE2.out]; rfl, rfl⟩, bel_err bel2 (by omega) _⟩
        · rw [he]
          unfold sumv
          have tb := HS.out k J ho
          obtain ⟨v, hv⟩ : ∃ v, v = (valP wd J).1 := ⟨_, rfl⟩
          obtain ⟨ok, hok⟩ : ∃ ok, ok = (valP wd J).2 := ⟨_, rfl⟩
          have HC1 : Hid (winT S hd l (k + 1) = .ok (cls cts ++ if ok = true then [(x.ser, v)] else [])) := by
            show _ = _
            rw [HT.out, ho, hv, hok]; rfl
          have PV : Hid (∀ w', Calls Tryz.prog 56 #[.string wd, .agg #[.int .i64 J.c, .int .i64 J.t, .int .i64 J.mn, .int .i64 J.mx, .int .i64 J.f, .int .i64 J.l, .int .i64 J.r]] w' fun e w'' => e = .returned (.tuple #[.int .i64 v, .bool ok]) ∧ Below w'.heap.size w' w'') := fun w' => by
            rw [hv, hok]; exact mvalue_any J wd w' tb.1 tb.2
          have HI3 : Hid (I (cc + winKT K hd l (k + 1)) w2) := by
            show I _ _
            rw [← HKB.out, HTK.out]
            simpa [Nat.add_assoc] using hI2
          have bA : Below w2.heap.size w2 (w2.alloc (.cells #[.int .i64 J.c, .int .i64 J.t, .int .i64 J.mn, .int .i64 J.mx, .int .i64 J.f, .int .i64 J.l, .int .i64 J.r] 46)) := (Below.refl _ _).alloc (Nat.le_refl _) _
          have F3 := below_block bA F2
          have G3 := below_block bA G2
          have own3 := own2.below bA
          have bel3 := bel_below bA bel2
          have HI4 := hide (HKp.out _ _ _ HI3.out (bA.mono bel2.size))
          obtain ⟨p0, p1, p2, p3, p4, p5, p6⟩ := seven_cells F2
          clear hv hok tb HP ho he HT HTK hI2 HI3 own2 bel2 bA HKB G2
          go_wp2_with fail
          refine (PV.out _).mono ?_
          rintro e w8 ⟨rfl, b8⟩
          have bel8 := bel_below b8 bel3
          have own8 := own3.below b8
          have F8 := below_block b8 F3
          have G8 := below_block b8 G3
          have HI8 := hide (HKp.out _ _ _ HI4.out (b8.mono bel3.size))
          clear b8 own3 F2 F3 G3 bel3 p0 p1 p2 p3 p4 p5 p6 PV HI4 l0 l1
          cases ok with
          | false =>
            have HC2 : Hid (winT S hd l (k + 1) = .ok (cls cts)) := by show _ = _; rw [HC1.out]; simp
            clear HC1
            go_wp2
            go_roundw
            case rel => exact ⟨k + 1, N, d, co, cts, by omega, by go_num, rfl, by omega, own8, HC2, HI8, bel8, F8, G8⟩
            case measure => simp [intOf]; omega
          | true =>
            have segS8 := HSg.out w8 bel8
            go_wp2_with fail
            refine (mclone_any x.ser x.sa sn x.sc w8 segS8 HSN.out (by omega) HNIL.out).mono ?_
            rintro e w9 ⟨no, N9, d9, rfl, own9, hN9, b9⟩
            have bel9 := bel_below b9 bel8
            have hs9 := bel9.size
            have ownN := own8.below b9
            have F9 := below_block b9 F8
            have G9 := below_block b9 G8
            have HI9 := hide (HKp.out _ _ _ HI8.out (b9.mono bel8.size))
            have hlt8 : ∀ g, (Value.slice co N d).ownBlock = some g → g < w8.heap.size := fun g hg => (own_base own8.own g hg).2
            have segN9 : SegN w9 (Value.slice co N d).ownBlock no (lcells x.ser) := segN_own own9 hlt8
            have HN9 : Hid (N9 = x.ser.length) := by show _ = _; rw [hN9]; exact HSN.out
            have hW9 : W.heap.size ≤ w9.heap.size := by
              have h1 := HWs.out
              have h2 := lt_of_block G9
              omega
            clear own8 b9 own9 bel8 hN9 F8 G8 HI8 segS8
            have belA : Below w9.heap.size w9 (w9.alloc (.cells #[.slice no N9 d9, .int .i64 v] 57)) := (Below.refl _ _).alloc (Nat.le_refl _) _
            have ownA := ownN.below belA
            have segA := segN9.below belA
            go_wp2_with (at_builtin; refine wpList_append_lies _ rfl _ _ 28 rfl W.heap.size 57 i0 (.agg #[.slice none 0 0, .int .i64 0]) 2 32 Tryz.underlying28 hi hz0 hz1 hz2 rfl (by decide) _ _ _ rfl ownA.own ⟨w9.heap.size, 0, none⟩ 1 1 [.slice no N9 d9, .int .i64 v] rfl rfl (news_two rfl _ _ _) (by simp [Value.oneCell']) (by decide) (by unfold maxLen; omega) (by omega) (by simp; omega) (w9.heap.size + 1) (by simp) ?_)
            intro g' cp' wz ownZ grZ hatZ hltZ
            have ownP := OwnC.push ownA ⟨x.ser, v, no, d9⟩ segA (by rw [← HN9.out]; exact ownZ) grZ (by
              rcases hatZ with h | h
              · exact .inl h
              · right; simp; omega)
            have bZ : Below W.heap.size w9 wz := ((Below.refl _ _).alloc hW9 _).grown grZ (by simp; omega) (fun j hj => (own_base ownA.own j hj).1)
            have FZ : wz.heap[w.heap.size]? = _ := (bZ.block _ (by rw [HWs.out]; omega)).trans F9
            have GZ : wz.heap[w.heap.size + 1]? = _ := (bZ.block _ (by rw [HWs.out]; omega)).trans G9
            have bZ' : Below w.heap.size w9 wz := bZ.mono (by rw [HWs.out]; omega)
            have HIZ := hide (HKp.out _ _ _ HI9.out bZ')
            have belZ : Bel r w.heap.size w wz := bel9.trans (Bel.of bZ' r)
            have HC2 : Hid (winT S hd l (k + 1) = .ok (cls (cts ++ [⟨x.ser, v, no, d9⟩]))) := by
              show _ = _
              rw [HC1.out, cls_append]; simp [cls, CT.cl]
            clear HC1 ownA segA ownZ grZ hatZ hltZ ownN segN9 belA bel9 F9 G9 HI9 bZ bZ'
            go_wp2
            go_roundw
            case rel => exact ⟨k + 1, N + 1, cp', _, _, by omega, by go_num, rfl, by omega, ownP, HC2, HIZ, belZ, FZ, GZ⟩
            case measure => simp [intOf]; omega
    · have he : k = n := by omega
      subst he
      have hlen := own.len
      have cin := own.csIn
      have HLN := hide hlen
      obtain ⟨t0, t1, t2, t3⟩ := two_cells Gr
      clear HN hlen
      go_wp2
      exact bodyPost_ret (v := .tuple #[.agg #[.bool false, .slice co N d], .int .i64 0]) (by simp [results, Tryz.results32, go_sem, t0, t1]) rfl ⟨.inr ⟨false, cts, co, N, d, rfl, by rw [HC.out]; rfl, HLN.out, cin.stored Gr false _, HKp.out _ _ _ HIk.out (((Below.refl _ _).setCell (by show w.heap.size ≤ w.heap.size + 1; omega) _).setCell (by show w.heap.size ≤ w.heap.size + 1; omega) _)⟩, (bel.setCell (by show w.heap.size ≤ w.heap.size + 1; omega) _).setCell (by show w.heap.size ≤ w.heap.size + 1; omega) _⟩

end Go.Proofs.YthohkokhimdamaaGreat

/-
  The walks of Over's closures, for the sum of Ask.
-/
namespace Go.Proofs.YthohkokhimdamaaGreat
open Go.RowKit Go.GrainU

set_option maxRecDepth 100000 in
set_option maxHeartbeats 4000000 in
theorem msum_any (C1 : Nat) (S : Except Int Grain.Sm) (k : Nat) (I : Nat → World → Prop) (r : Option Nat) (Nb Bs Bf Bt : Nat) (hB : Beside r Nb I) (i a b : Int) (w : World) (cc : Nat) (hI : I cc w) (hNw : Nb ≤ w.heap.size)
    (cs : w.cell? ⟨Bs, 0, none⟩ = some (.func (.func 12) #[] #[.pointer (some ⟨C1, 0, none⟩)])) (cf : w.cell? ⟨Bf, 0, none⟩ = some (.int .i64 a)) (ct : w.cell? ⟨Bt, 0, none⟩ = some (.int .i64 b))
    (hsum : ∀ (w' : World), I cc w' → Below w.heap.size w w' → Calls Tryz.prog 12 #[.int .i64 i, .int .i64 a, .int .i64 b, .pointer (some ⟨C1, 0, none⟩)] w' fun e w'' => SPost S I r cc k w' e w'') :
    Calls Tryz.prog 33 #[.int .i64 i, .pointer (some ⟨Bs, 0, none⟩), .pointer (some ⟨Bf, 0, none⟩), .pointer (some ⟨Bt, 0, none⟩)] w fun e w' => SPost S I r cc k w e w' := by
  have HSum := hide hsum
  have ls : Bs < w.heap.size := World.block_lt_of_cell? w _ cs
  have lf : Bf < w.heap.size := World.block_lt_of_cell? w _ cf
  have lt' : Bt < w.heap.size := World.block_lt_of_cell? w _ ct
  obtain ⟨W, hW⟩ : ∃ W, W = w.alloc (.cells #[.int .i64 0, .int .i64 0, .int .i64 0, .int .i64 0, .int .i64 0, .int .i64 0, .int .i64 0] 46) := ⟨_, rfl⟩
  have bel0 : Below w.heap.size w W := by rw [hW]; exact (Below.refl _ _).alloc (Nat.le_refl _) _
  have F0 : W.heap[w.heap.size]? = some (.cells #[.int .i64 0, .int .i64 0, .int .i64 0, .int .i64 0, .int .i64 0, .int .i64 0, .int .i64 0] 46 (0, 0)) := by rw [hW]; exact heap_alloc_new w _
  have PS := hide (HSum.out W (hB.kept _ _ _ hI (bel0.mono hNw)) bel0)
  have HKp := hide (fun c' w1 w2 (h1 : I c' w1) (h2 : Below w.heap.size w1 w2) => hB.kept c' w1 w2 h1 (h2.mono hNw))
  have HW := hide hW
  have HB := hide hB
  have HNw := hide hNw
  clear hsum hW HSum hB hI hNw
  go_enter Tryz.func33, Tryz.ntmps33
  go_wp2_with fail
  rw [← HW.out]
  refine PS.out.mono ?_
  rintro e w1 ⟨hp, b1⟩
  have F1 := bel_block b1 HB.out.row HNw.out F0
  have bw : Bel r w.heap.size w w1 := (Bel.of bel0 r).trans (b1.mono bel0.size)
  obtain ⟨p0, p1, p2, p3, p4, p5, p6⟩ := seven_cells F1
  obtain ⟨f0, f1, f2, f3, f4, f5, f6⟩ := seven_thaw F1
  have l0 : w.heap.size < w1.heap.size := lt_of_block F1
  have HP := hide hp
  clear hp PS HB
  rcases HP.out with ⟨y, J, hy, ho, he⟩ | ⟨J, ho, he, hI2⟩
  · rw [he]
    unfold sumv
    have HO := hide ho
    have HY := hide hy
    clear HP ho he hy
    go_wp2
    exact bodyPost_ret (v := sumv J y) (by simp [sumv, results, Tryz.results33, go_sem, p0, p1, p2, p3, p4, p5, p6]) rfl ⟨.inl ⟨y, J, HY.out, HO.out, rfl⟩, bw.trans (Bel.of (below_set7 (Below.refl w.heap.size w1) (Nat.le_refl _) _ _ _ _ _ _ _) r)⟩
  · rw [he]
    unfold sumv
    have HO := hide ho
    have HI2 := hide hI2
    clear HP ho he hI2
    go_wp2
    exact bodyPost_ret (v := sumv J 0) (by simp [sumv, results, Tryz.results33, go_sem, p0, p1, p2, p3, p4, p5, p6]) rfl ⟨.inr ⟨J, HO.out, rfl, HKp.out _ _ _ HI2.out (below_set7 (Below.refl w.heap.size w1) (Nat.le_refl _) _ _ _ _ _ _ _)⟩, bw.trans (Bel.of (below_set7 (Below.refl w.heap.size w1) (Nat.le_refl _) _ _ _ _ _ _ _) r)⟩

set_option maxRecDepth 100000 in
set_option maxHeartbeats 4000000 in
theorem mover1_any (C1 : Nat) (l : List ST) (t : ET) (S : Nat → Except Int Grain.Sm) (K : Nat → Nat) (I : Nat → World → Prop) (r : Option Nat) (Nb Bt Bl Bs : Nat) (hB : Beside r Nb I) (ao : Option Addr) (n cap : Nat) (time : Int) (w : World) (cc : Nat) (hI : I cc w) (hNw : Nb ≤ w.heap.size) (hs : SsIn w ao l) (hin : t.In w) (hn : n = l.length) (hn8 : n ≤ 8)
    (ht0 : 0 ≤ time) (ht1 : time ≤ 1000000) (hr0 : 1 ≤ t.hd.range) (hr1 : t.hd.range ≤ 100000)
    (ct : w.cell? ⟨Bt, 0, none⟩ = some (.int .i64 time)) (hrt : r ≠ some Bt) (cl : w.cell? ⟨Bl, 0, none⟩ = some (.slice ao n cap)) (cs : w.cell? ⟨Bs, 0, none⟩ = some (.func (.func 12) #[] #[.pointer (some ⟨C1, 0, none⟩)]))
    (hS : ∀ i s, S i = .ok s → -9223372036854775808 ≤ s.t ∧ s.t ≤ 9223372036854775807)
    (hsum : ∀ (i : Nat) (w' : World) (c' : Nat), i < n → I c' w' → Bel r w.heap.size w w' → Calls Tryz.prog 12 #[.int .i64 i, .int .i64 (max 0 (time - t.hd.range)), .int .i64 time, .pointer (some ⟨C1, 0, none⟩)] w' fun e w'' => SPost (S i) I r c' (K i) w' e w'') :
    Calls Tryz.prog 31 #[eval t, .pointer (some ⟨Bt, 0, none⟩), .pointer (some ⟨Bl, 0, none⟩), .pointer (some ⟨Bs, 0, none⟩)] w fun e w' => GPost (wopt (winT S t.hd l n)) I r cc (winKT K t.hd l n) w e w' := by
  have HSo := hide (hB.solo cc w hI)
  have hrs : r ≠ some Bs := fun e => HSo.out Bs e _ _ cs
  have lt1 : Bt < w.heap.size := World.block_lt_of_cell? w _ ct
  have ll1 : Bl < w.heap.size := World.block_lt_of_cell? w _ cl
  have ls1 : Bs < w.heap.size := World.block_lt_of_cell? w _ cs
  obtain ⟨RR, hRR⟩ : ∃ RR, RR = wopt (winT S t.hd l n) := ⟨_, rfl⟩
  obtain ⟨KK, hKK⟩ : ∃ KK, KK = winKT K t.hd l n := ⟨_, rfl⟩
  have PW : Hid (∀ (V : World) (Bf : Nat), Below w.heap.size w V → V.heap[Bf]? = some (.cells #[.int .i64 (max 0 (time - t.hd.range))] 3 (0, 0)) → w.heap.size ≤ Bf → Calls Tryz.prog 32 #[.slice ao n cap, eval t, .func (.func 33) #[] #[.pointer (some ⟨Bs, 0, none⟩), .pointer (some ⟨Bf, 0, none⟩), .pointer (some ⟨Bt, 0, none⟩)]] V fun e w' => GPost RR I r cc KK V e w') := by
    intro V Bf bV hf hfl
    rw [hRR, hKK]
    have lf : Bf < V.heap.size := lt_of_block hf
    refine gwin_any l t S K I r Nb Bs Bf Bt hB ao n cap V cc (hB.kept _ _ _ hI (bV.mono hNw)) (Nat.le_trans hNw bV.size) (hs.bel HSo.out (Bel.of bV r)) (ET.In.below bV t hin) hn hn8 hS ?_
    intro i w' c' hi hI' hb
    have hb1 : Bel r w.heap.size w w' := bel_step hb (Bel.of bV r)
    refine msum_any C1 (S i) (K i) I r Nb Bs Bf Bt hB i (max 0 (time - t.hd.range)) time w' c' hI' (Nat.le_trans hNw hb1.size) ((hb1.cell ls1 hrs).trans cs) ?_ ((hb1.cell lt1 hrt).trans ct) ?_
    · rw [hb.cell lf (fun e => by have := hB.row Bf e; omega)]
      simp [World.cell?, hf]
    · intro w'' h1 h2
      exact hsum i w'' c' hi h1 (bel_below h2 hb1)
  rw [← hRR, ← hKK]
  have HKp := hide (fun c' w1 w2 (h1 : I c' w1) (h2 : Below w.heap.size w1 w2) => hB.kept c' w1 w2 h1 (h2.mono hNw))
  have HB := hide hB
  have HNw := hide hNw
  clear hsum hS hs hin hn hB hI hNw hrs hrt hRR hKK
  unfold eval at PW ⊢
  generalize t.hd.ms.length = ml at PW ⊢
  generalize t.hd.bs.length = bl at PW ⊢
  generalize t.kids.length = kl at PW ⊢
  obtain ⟨rg, hrg⟩ : ∃ rg, rg = t.hd.range := ⟨_, rfl⟩
  rw [← hrg] at hr0 hr1 PW ⊢
  have tw : IntKind.i64.wrap (time - rg) = time - rg := by rw [IntKind.wrap_i64]; omega
  obtain ⟨W, hW⟩ : ∃ W, W = (((w.alloc (.cells #[.int .i64 t.hd.kind, .int .i64 t.hd.n, .int .i64 rg, .string t.hd.word, .slice t.sp.ma ml t.sp.mc, .slice t.sp.ba bl t.sp.bc, .slice t.sp.ka kl t.sp.kc] 27)).alloc (.cells #[.bool false, .slice none 0 0] 67)).alloc (.cells #[.int .i64 (max 0 (time - rg))] 3)) := ⟨_, rfl⟩
  have bel0 : Below w.heap.size w W := by rw [hW]; exact (((Below.refl _ _).alloc (Nat.le_refl _) _).alloc (by simp) _).alloc (by simp; omega) _
  have G0 : W.heap[w.heap.size + 1]? = some (.cells #[.bool false, .slice none 0 0] 67 (0, 0)) := by
    rw [hW, Below.heap_alloc _ _ _ (by simp)]
    have := heap_alloc_new (w.alloc (.cells #[.int .i64 t.hd.kind, .int .i64 t.hd.n, .int .i64 rg, .string t.hd.word, .slice t.sp.ma ml t.sp.mc, .slice t.sp.ba bl t.sp.bc, .slice t.sp.ka kl t.sp.kc] 27)) (.cells #[.bool false, .slice none 0 0] 67)
    simpa using this
  have T0 : W.heap[w.heap.size + 1 + 1]? = some (.cells #[.int .i64 (max 0 (time - rg))] 3 (0, 0)) := by
    have := heap_alloc_new ((w.alloc (.cells #[.int .i64 t.hd.kind, .int .i64 t.hd.n, .int .i64 rg, .string t.hd.word, .slice t.sp.ma ml t.sp.mc, .slice t.sp.ba bl t.sp.bc, .slice t.sp.ka kl t.sp.kc] 27)).alloc (.cells #[.bool false, .slice none 0 0] 67)) (.cells #[.int .i64 (max 0 (time - rg))] 3)
    rw [hW]; simpa using this
  have kl1 : (((w.alloc (.cells #[.int .i64 t.hd.kind, .int .i64 t.hd.n, .int .i64 rg, .string t.hd.word, .slice t.sp.ma ml t.sp.mc, .slice t.sp.ba bl t.sp.bc, .slice t.sp.ka kl t.sp.kc] 27)).alloc (.cells #[.bool false, .slice none 0 0] 67)).alloc (.cells #[.int .i64 (max 0 (time - rg))] 3)).cell? ⟨Bl, 0, none⟩ = some (.slice ao n cap) := by
    rw [← hW]; exact (bel0.cell (p := ⟨Bl, 0, none⟩) ll1).trans cl
  have PW1 := hide (PW.out W (w.heap.size + 1 + 1) bel0 T0 (by omega))
  have HW := hide hW
  have HB0 := hide bel0
  clear hrg hW PW T0 bel0
  go_enter Tryz.func31, Tryz.ntmps31
  go_wp2_with fail
  rw [← HW.out]
  refine PW1.out.mono ?_
  rintro e w1 ⟨hp, b1⟩
  have G1 := bel_block b1 HB.out.row (Nat.le_trans HNw.out (Nat.le_succ _)) G0
  obtain ⟨t0, t1, t2, t3⟩ := two_cells G1
  have bw : Bel r w.heap.size w w1 := (Bel.of HB0.out r).trans (b1.mono HB0.out.size)
  have HP := hide hp
  clear hp PW1 kl1 G0
  rcases HP.out with ⟨x, hx, ho, he⟩ | ⟨nb2, cts2, co2, N2, d2, he, ho, hN, hC, hI2⟩
  · rw [he]
    have HE3 := hide ho
    have HX := hide hx
    clear HP ho he hx
    go_wp2
    exact bodyPost_ret (v := .tuple #[.agg #[.bool false, .slice none 0 0], .int .i64 x]) (by simp [results, Tryz.results31, go_sem, t0, t1]) rfl ⟨.inl ⟨x, HX.out, HE3.out, rfl⟩, (bw.setCell (by show w.heap.size ≤ w.heap.size + 1; omega) _).setCell (by show w.heap.size ≤ w.heap.size + 1; omega) _⟩
  · rw [he]
    have HE3 := hide ho
    have HN2 := hide hN
    have HI2 := hide hI2
    clear HP ho he hN hI2
    go_wp2
    exact bodyPost_ret (v := .tuple #[.agg #[.bool nb2, .slice co2 N2 d2], .int .i64 0]) (by simp [results, Tryz.results31, go_sem, t0, t1]) rfl ⟨.inr ⟨nb2, cts2, co2, N2, d2, rfl, HE3.out, HN2.out, hC.stored G1 nb2 _, HKp.out _ _ _ HI2.out (((Below.refl _ _).setCell (by show w.heap.size ≤ w.heap.size + 1; omega) _).setCell (by show w.heap.size ≤ w.heap.size + 1; omega) _)⟩, (bw.setCell (by show w.heap.size ≤ w.heap.size + 1; omega) _).setCell (by show w.heap.size ≤ w.heap.size + 1; omega) _⟩

set_option maxRecDepth 100000 in
set_option maxHeartbeats 4000000 in
theorem mover_any (C1 : Nat) (l : List ST) (t : ET) (S : Nat → Int → Int → Except Int Grain.Sm) (K : Nat → Int → Int → Nat) (I : Nat → World → Prop) (r : Option Nat) (Nb : Nat) (hB : Beside r Nb I) (ao : Option Addr) (n cap : Nat) (time : Int) (w : World) (cc : Nat) (hI : I cc w) (hNw : Nb ≤ w.heap.size) (hs : SsIn w ao l) (hin : t.In w) (hn : n = l.length) (hn8 : n ≤ 8)
    (hS : ∀ i a s, S i a time = .ok s → -9223372036854775808 ≤ s.t ∧ s.t ≤ 9223372036854775807)
    (hG : ∀ h, winBad h = 0 → ∀ c, overW S l n time h = .ok c → Gd ⟨false, c⟩)
    (hsum : 0 ≤ time → time ≤ 1000000 → ∀ (i : Nat) (a : Int) (w' : World) (c' : Nat), i < n → 0 ≤ a → a ≤ time → I c' w' → Bel r w.heap.size w w' → Calls Tryz.prog 12 #[.int .i64 i, .int .i64 a, .int .i64 time, .pointer (some ⟨C1, 0, none⟩)] w' fun e w'' => SPost (S i a time) I r c' (K i a time) w' e w'') :
    Calls Tryz.prog 11 #[.slice ao n cap, eval t, .int .i64 time, .func (.func 12) #[] #[.pointer (some ⟨C1, 0, none⟩)]] w fun e w' => OPost (overE S l n time t.ex) I r cc (overK K l n time t.ex) w e w' := by
  obtain ⟨C, hC⟩ : ∃ C, C = chk t.ex time := ⟨_, rfl⟩
  have PC := hide (fun w' (hb : Below w.heap.size w w') => mcheck_any t time w' (ET.In.below hb t hin))
  rw [← hC] at PC
  have PM : Hid (C = 0 → ∀ (Bt Bl Bs : Nat) (V : World), Below w.heap.size w V → w.heap.size ≤ Bt → V.cell? ⟨Bt, 0, none⟩ = some (.int .i64 time) → V.cell? ⟨Bl, 0, none⟩ = some (.slice ao n cap) → V.cell? ⟨Bs, 0, none⟩ = some (.func (.func 12) #[] #[.pointer (some ⟨C1, 0, none⟩)]) → Calls Tryz.prog 30 #[eval t, .func (.func 31) #[] #[.pointer (some ⟨Bt, 0, none⟩), .pointer (some ⟨Bl, 0, none⟩), .pointer (some ⟨Bs, 0, none⟩)]] V fun e w' => GPost (evG (overW S l n time) t.ex) I r cc (costG (overC K l n time) t.ex) V e w') := by
    intro h0 Bt Bl Bs V bV hBt ct cl cs
    obtain ⟨hrt, ht0, ht1⟩ := chk_zero (hC.symm.trans h0)
    have hrow2 : ∀ C, r = some C → C < V.heap.size := fun C hC => by have := hB.row C hC; have := bV.size; omega
    have hB2 : Beside r V.heap.size (fun c w' => I c w' ∧ Bel r V.heap.size V w') := ⟨hrow2, fun c w1 w2 h1 h2 => ⟨hB.kept c w1 w2 h1.1 (h2.mono (Nat.le_trans hNw bV.size)), h1.2.trans (Bel.of h2 r)⟩, fun c w1 h1 => hB.solo c w1 h1.1⟩
    have hI2 : I cc V := hB.kept _ _ _ hI (bV.mono hNw)
    have hSoV := hB.solo cc V hI2
    have hrBt : r ≠ some Bt := fun e => by have := hB.row Bt e; omega
    have lBt : Bt < V.heap.size := World.block_lt_of_cell? V _ ct
    have lBl : Bl < V.heap.size := World.block_lt_of_cell? V _ cl
    have lBs : Bs < V.heap.size := World.block_lt_of_cell? V _ cs
    have hrBl : r ≠ some Bl := fun e => hSoV Bl e _ _ cl
    have hrBs : r ≠ some Bs := fun e => hSoV Bs e _ _ cs
    refine (gcomes_any (overW S l n time) (overC K l n time) (fun c w' => I c w' ∧ Bel r V.heap.size V w') r V.heap.size Bt Bl Bs hB2 hG ?_ t V cc ⟨hI2, Bel.refl _ _ _⟩ (Nat.le_refl _) (ET.In.below bV t hin) hrt).mono ?_
    · intro t' w' c' hI' hN' hin' hwb
      obtain ⟨_, _, _, hr0, hr1⟩ := winBad_ok hwb
      exact mover1_any C1 l t' (fun i => S i (max 0 (time - t'.hd.range)) time) (fun i => K i (max 0 (time - t'.hd.range)) time) (fun c w' => I c w' ∧ Bel r V.heap.size V w') r V.heap.size Bt Bl Bs hB2 ao n cap time w' c' hI' hN' ((hs.bel (hB.solo cc w hI) (Bel.of bV r)).bel hSoV hI'.2) hin' hn hn8 ht0 ht1 hr0 hr1 ((hI'.2.cell lBt hrBt).trans ct) hrBt ((hI'.2.cell lBl hrBl).trans cl) ((hI'.2.cell lBs hrBs).trans cs) (fun i s => hS i _ s) (fun i w'' c'' hi hI'' hb => by
        refine (hsum ht0 ht1 i (max 0 (time - t'.hd.range)) w'' c'' hi (by omega) (by omega) hI''.1 (bel_step hI''.2 (Bel.of bV r))).mono ?_
        intro e w3 hp
        exact spost_with hp hI''.2)
    · intro e w' hp
      exact gpost_of hp
  obtain ⟨EE, hEE⟩ : ∃ EE, EE = evG (overW S l n time) t.ex := ⟨_, rfl⟩
  obtain ⟨KK, hKK⟩ : ∃ KK, KK = costG (overC K l n time) t.ex := ⟨_, rfl⟩
  have HR : Hid (overE S l n time t.ex = if C = 0 then EE else .error C) := by show _ = _; rw [hC, hEE]; rfl
  have HK : Hid (overK K l n time t.ex = KK) := by show _ = _; rw [hKK]; rfl
  rw [HK.out]
  rw [← hEE, ← hKK] at PM
  generalize overE S l n time t.ex = RES at HR ⊢
  have HKp := hide (fun c' w1 w2 (h1 : I c' w1) (h2 : Below w.heap.size w1 w2) => hB.kept c' w1 w2 h1 (h2.mono hNw))
  have HB := hide hB
  have HNw := hide hNw
  clear hsum hS hs hin hn hB hI hNw hG hC HK hEE hKK
  unfold eval at PC PM ⊢
  generalize t.hd.ms.length = ml at PC PM ⊢
  generalize t.hd.bs.length = bl at PC PM ⊢
  generalize t.kids.length = kl at PC PM ⊢
  obtain ⟨W, hW⟩ : ∃ W, W = (((w.alloc (.cells #[.slice ao n cap] 38)).alloc (.cells #[.int .i64 t.hd.kind, .int .i64 t.hd.n, .int .i64 t.hd.range, .string t.hd.word, .slice t.sp.ma ml t.sp.mc, .slice t.sp.ba bl t.sp.bc, .slice t.sp.ka kl t.sp.kc] 27)).alloc (.cells #[.int .i64 time] 3)).alloc (.cells #[.func (.func 12) #[] #[.pointer (some ⟨C1, 0, none⟩)]] 49) := ⟨_, rfl⟩
  have bel0 : Below w.heap.size w W := by rw [hW]; exact ((((Below.refl _ _).alloc (Nat.le_refl _) _).alloc (by simp) _).alloc (by simp; omega) _).alloc (by simp; omega) _
  have heq : ∀ w' : World, Sem.run Tryz.prog (binOp BinOp.eql 49 (.func (.func 12) #[] #[.pointer (some ⟨C1, 0, none⟩)]) .nilFunc) w' = .ok (.bool false) w' := fun w' => by kernel_rfl
  have A0 : W.heap[w.heap.size]? = some (.cells #[.slice ao n cap] 38 (0, 0)) := by rw [hW, Below.heap_alloc _ _ _ (by simp; omega), Below.heap_alloc _ _ _ (by simp; omega), Below.heap_alloc _ _ _ (by simp)]; exact heap_alloc_new w _
  have F0 : W.heap[w.heap.size + 1]? = some (.cells #[.int .i64 t.hd.kind, .int .i64 t.hd.n, .int .i64 t.hd.range, .string t.hd.word, .slice t.sp.ma ml t.sp.mc, .slice t.sp.ba bl t.sp.bc, .slice t.sp.ka kl t.sp.kc] 27 (0, 0)) := by
    rw [hW, Below.heap_alloc _ _ _ (by simp), Below.heap_alloc _ _ _ (by simp)]
    have := heap_alloc_new (w.alloc (.cells #[.slice ao n cap] 38)) (.cells #[.int .i64 t.hd.kind, .int .i64 t.hd.n, .int .i64 t.hd.range, .string t.hd.word, .slice t.sp.ma ml t.sp.mc, .slice t.sp.ba bl t.sp.bc, .slice t.sp.ka kl t.sp.kc] 27)
    simpa using this
  have T0 : W.heap[w.heap.size + 1 + 1]? = some (.cells #[.int .i64 time] 3 (0, 0)) := by
    rw [hW, Below.heap_alloc _ _ _ (by simp)]
    have := heap_alloc_new ((w.alloc (.cells #[.slice ao n cap] 38)).alloc (.cells #[.int .i64 t.hd.kind, .int .i64 t.hd.n, .int .i64 t.hd.range, .string t.hd.word, .slice t.sp.ma ml t.sp.mc, .slice t.sp.ba bl t.sp.bc, .slice t.sp.ka kl t.sp.kc] 27)) (.cells #[.int .i64 time] 3)
    simpa using this
  have S0 : W.heap[w.heap.size + 1 + 1 + 1]? = some (.cells #[.func (.func 12) #[] #[.pointer (some ⟨C1, 0, none⟩)]] 49 (0, 0)) := by
    have := heap_alloc_new (((w.alloc (.cells #[.slice ao n cap] 38)).alloc (.cells #[.int .i64 t.hd.kind, .int .i64 t.hd.n, .int .i64 t.hd.range, .string t.hd.word, .slice t.sp.ma ml t.sp.mc, .slice t.sp.ba bl t.sp.bc, .slice t.sp.ka kl t.sp.kc] 27)).alloc (.cells #[.int .i64 time] 3)) (.cells #[.func (.func 12) #[] #[.pointer (some ⟨C1, 0, none⟩)]] 49)
    rw [hW]; simpa using this
  have HW := hide hW
  clear hW
  go_enter Tryz.func11, Tryz.ntmps11
  go_wp2_with fail
  rw [← HW.out]
  refine (PC.out W bel0).mono ?_
  rintro e w2 ⟨rfl, b2⟩
  have A2 := below_block b2 A0
  have F2 := below_block b2 F0
  have T2 := below_block b2 T0
  have S2 := below_block b2 S0
  have bX : Below w.heap.size w w2 := bel0.trans (b2.mono bel0.size)
  clear PC A0 F0 T0 S0
  by_cases h1 : C = 0
  · subst h1
    have k1 : w2.cell? ⟨w.heap.size, 0, none⟩ = some (.slice ao n cap) := by simp [World.cell?, A2]
    have k2 : w2.cell? ⟨w.heap.size + 1 + 1, 0, none⟩ = some (.int .i64 time) := by simp [World.cell?, T2]
    have k3 : w2.cell? ⟨w.heap.size + 1 + 1 + 1, 0, none⟩ = some (.func (.func 12) #[] #[.pointer (some ⟨C1, 0, none⟩)]) := by simp [World.cell?, S2]
    have HR2 : Hid (RES = EE) := by show _ = _; rw [HR.out, if_pos rfl]
    have PM2 := hide (PM.out rfl (w.heap.size + 1 + 1) w.heap.size (w.heap.size + 1 + 1 + 1) w2 bX (by omega) k2 k1 k3)
    obtain ⟨p0, p1, p2, p3, p4, p5, p6⟩ := seven_cells F2
    clear HR PM
    go_wp2_with fail
    refine PM2.out.mono ?_
    rintro e w3 ⟨hp, b3⟩
    have bY : Bel r w.heap.size w w3 := (Bel.of bX r).trans (b3.mono bX.size)
    have HP := hide hp
    clear hp PM2 p0 p1 p2 p3 p4 p5 p6 k1 k2 k3 A2 F2 T2 S2
    rcases HP.out with ⟨x, hx, ho, he⟩ | ⟨nb, cts, co, N, d, he, ho, hN, hC, hI2⟩
    · rw [he]
      have HE2 : Hid (RES = .error x) := by show _ = _; rw [HR2.out, ho]
      have HX := hide hx
      have hxb : (x != 0) = true := by simpa using hx
      clear HP ho he HR2 hx
      go_wp2
      go_ret2
      exact ⟨.inl ⟨x, HX.out, HE2.out, rfl⟩, bY.alloc bY.size _⟩
    · rw [he]
      have HE2 : Hid (RES = .ok ⟨nb, cls cts⟩) := by show _ = _; rw [HR2.out, ho]
      have HN := hide hN
      have bz : Below w3.heap.size w3 (w3.alloc (.cells #[.bool nb, .slice co N d] 67)) := (Below.refl _ _).alloc (Nat.le_refl _) _
      have hC2 := hC.below bz
      have HI2 := hide (HKp.out _ _ _ hI2 (bz.mono bY.size))
      clear HP ho he HR2 hN hI2
      go_wp2
      go_ret2
      exact ⟨.inr ⟨nb, cts, co, N, d, rfl, HE2.out, HN.out, hC2, HI2.out⟩, bY.alloc bY.size _⟩
  · have HR2 : Hid (RES = .error C) := by show _ = _; rw [HR.out, if_neg h1]
    have hd : (C != 0) = true := by simpa using h1
    have HX := hide h1
    clear h1 HR PM
    go_wp2
    go_ret2
    exact ⟨.inl ⟨C, HX.out, HR2.out, rfl⟩, Bel.of bX r⟩
end Go.Proofs.YthohkokhimdamaaGreat
