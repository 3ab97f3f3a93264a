import Derived.Deep.CutRange
import Derived.Deep.RegionWith
import Derived.Test.YtoldmigappbjcaaGreatDoorL12
import Derived.Test.YtoldmigappbjcaaGreatDoorL14
import Derived.Test.YtoldmigappbjcaaGreatDoorL42
import Derived.Test.YtoldmigappbjcaaGreatDoorL43
namespace Go.GrainU
open Go.RowKit
def Nz {α : Type} (x : Except Flt α) : Prop := ∀ f, x = .error f → f.1 ≠ 0
theorem nz_ok {α : Type} (a : α) : Nz (Except.ok a : Except Flt α) := fun f h => by cases h
theorem nz_err {α : Type} (f : Flt) (h : f.1 ≠ 0) : Nz (Except.error f : Except Flt α) := fun g e => by injection e with e; rw [← e]; exact h
theorem nz_ite {α : Type} {c : Prop} [Decidable c] {x y : Except Flt α} (h1 : Nz x) (h2 : Nz y) : Nz (if c then x else y) := by
 split
 ·exact h1
 ·exact h2
theorem nz_expe (sg r : List UInt8) : Nz (expe sg r) := by
 unfold expe
 split
 ·exact nz_ok _
 ·exact nz_err _ (by simp)
theorem nz_wrd (r : List UInt8) : Nz (wrd r) := nz_ite (nz_err _ (by simp)) (nz_ite (nz_err _ (by simp)) (nz_ok _))
theorem nz_wrdOf (m : List ByteArray) (r : List UInt8) : Nz (wrdOf m r) := by
 unfold wrdOf
 have h := nz_wrd r
 split
 ·rename_i e he; exact nz_err _ (h e he)
 ·exact nz_ite (nz_ok _) (nz_err _ (by simp))
theorem nz_numb (a b : Int) (r : List UInt8) : Nz (numb a b r) := by
 unfold numb
 refine nz_ite (nz_err _ (by simp)) ?_
 split
 ·exact nz_ite (nz_ok _) (nz_err _ (by simp))
 ·exact nz_err _ (by simp)
theorem nz_byW (r : List UInt8) : Nz (byW r) := nz_ite (nz_ok _) (nz_err _ (by simp))
theorem nz_lstF {α : Type} {part : List UInt8 → Except Flt (α × List UInt8)} (hp : ∀ r, Nz (part r)) (most : Nat) : ∀ k l r, Nz (lstF part most k l r) := by
 intro k
 induction k with
 | zero => intro l r; exact nz_ok _
 | succ k ih =>
  intro l r
  unfold lstF
  split
  ·exact nz_ok _
  ·rename_i r1 _
   refine nz_ite (nz_err _ (by simp)) ?_
   have h := hp r1
   split
   ·rename_i e he; exact nz_err _ (h e he)
   ·exact ih _ _
theorem nz_lst {α : Type} {part : List UInt8 → Except Flt (α × List UInt8)} (hp : ∀ r, Nz (part r)) (most : Nat) (r : List UInt8) : Nz (lst part most r) := by
 unfold lst
 have h := hp r
 split
 ·rename_i e he; exact nz_err _ (h e he)
 ·exact nz_lstF hp _ _ _ _
theorem nz_mtc (r : List UInt8) : Nz (mtc r) := by
 unfold mtc
 split
 ·rename_i r1 _
  have h := nz_wrd r1
  split
  ·rename_i e he; exact nz_err _ (h e he)
  ·exact nz_ok _
 ·have h := nz_wrd r
  split
  ·rename_i e he; exact nz_err _ (h e he)
  ·split
   ·rename_i r3 _
    have h := nz_wrd r3
    split
    ·rename_i e he; exact nz_err _ (h e he)
    ·exact nz_ok _
   ·split
    ·rename_i r3 _
     have h := nz_wrd r3
     split
     ·rename_i e he; exact nz_err _ (h e he)
     ·exact nz_ok _
    ·exact nz_ok _
theorem nz_words1 (r : List UInt8) : Nz (words1 r) := by
 unfold words1
 have h := nz_wrd r
 split
 ·rename_i e he; exact nz_err _ (h e he)
 ·exact nz_ok _
theorem nz_fin (e : Ex) (st : St) : Nz (fin e st) := nz_ite (nz_err _ (by simp)) (nz_ok _)
theorem nz_wnM (r : List UInt8) : Nz (wnM r) := by
 unfold wnM
 split
 ·exact nz_ok _
 ·have h := nz_lst nz_mtc 5 r
  split
  ·rename_i e he; exact nz_err _ (h e he)
  ·rename_i l r1 _
   have h := nz_expe [125] r1
   split
   ·rename_i e he; exact nz_err _ (h e he)
   ·exact nz_ok _
theorem nz_wnd (w : ByteArray) (st : St) : Nz (wnd w st) := by
 unfold wnd
 have h := nz_expe [40] st.r
 split
 ·rename_i e he; exact nz_err _ (h e he)
 ·rename_i r1 _
  have h := nz_expe [123] r1
  split
  ·rename_i e he; exact nz_err _ (h e he)
  ·rename_i r2 _
   have h := nz_wnM r2
   split
   ·rename_i e he; exact nz_err _ (h e he)
   ·rename_i l r3 _
    have h := nz_expe [91] r3
    split
    ·rename_i e he; exact nz_err _ (h e he)
    ·rename_i r4 _
     have h := nz_numb 1 100000 r4
     split
     ·rename_i e he; exact nz_err _ (h e he)
     ·rename_i n r5 _
      have h := nz_expe [93] r5
      split
      ·rename_i e he; exact nz_err _ (h e he)
      ·rename_i r6 _
       have h := nz_expe [41] r6
       split
       ·rename_i e he; exact nz_err _ (h e he)
       ·exact nz_fin _ _
theorem nz_alB (r : List UInt8) : Nz (alB r) := by
 unfold alB
 split
 ·exact nz_ok _
 ·have h := nz_byW r
  split
  ·rename_i e he; exact nz_err _ (h e he)
  ·rename_i r1 _
   have h := nz_lst nz_words1 4 r1
   split
   ·rename_i e he; exact nz_err _ (h e he)
   ·rename_i l r2 _
    have h := nz_expe [40] r2
    split
    ·rename_i e he; exact nz_err _ (h e he)
    ·exact nz_ok _
theorem nz_al {sub : St → Except Flt (Ex × St)} (hs : ∀ st, Nz (sub st)) (st : St) : Nz (al sub st) := by
 unfold al
 have h := nz_wrdOf totals4 st.r
 split
 ·rename_i e he; exact nz_err _ (h e he)
 ·rename_i w r1 _
  have h := nz_alB r1
  split
  ·rename_i e he; exact nz_err _ (h e he)
  ·rename_i bs r2 _
   have h := hs ⟨r2, st.n⟩
   split
   ·rename_i e he; exact nz_err _ (h e he)
   ·rename_i e s1 _
    have h := nz_expe [41] s1.r
    split
    ·rename_i e he; exact nz_err _ (h e he)
    ·exact nz_fin _ _
theorem nz_chnF {p : St → Except Flt (Ex × St)} (hp : ∀ st, Nz (p st)) (sg : List (List UInt8)) : ∀ k e st, Nz (chnF p sg k e st) := by
 intro k
 induction k with
 | zero => intro e st; exact nz_ok _
 | succ k ih =>
  intro e st
  unfold chnF
  split
  ·exact nz_ok _
  ·rename_i x r1 _
   have h := hp ⟨r1, st.n⟩
   split
   ·rename_i e he; exact nz_err _ (h e he)
   ·rename_i f s1 _
    have h := nz_fin (.mk ⟨4, 0, 0, lit x, [], []⟩ [e, f]) s1
    split
    ·rename_i e he; exact nz_err _ (h e he)
    ·exact ih _ _
theorem nz_chn {p : St → Except Flt (Ex × St)} (hp : ∀ st, Nz (p st)) (sg : List (List UInt8)) (st : St) : Nz (chn p sg st) := by
 unfold chn
 have h := hp st
 split
 ·rename_i e he; exact nz_err _ (h e he)
 ·exact nz_chnF hp _ _ _ _
theorem nz_fct : ∀ k st, Nz (fct k st) := by
 intro k
 induction k with
 | zero => intro st; rw [fct]; exact nz_err _ (by simp)
 | succ k ih =>
  intro st
  have hsm : ∀ st, Nz (smm (fct k) st) := nz_chn (nz_chn ih _) _
  rw [fct]
  split
  ·rename_i r1 _
   have h := hsm ⟨r1, st.n⟩
   split
   ·rename_i e he; exact nz_err _ (h e he)
   ·rename_i e s1 _
    have h := nz_expe [41] s1.r
    split
    ·rename_i e he; exact nz_err _ (h e he)
    ·exact nz_ok _
  ·refine nz_ite ?_ ?_
   ·have h := nz_numb 0 1000000 st.r
    split
    ·rename_i e he; exact nz_err _ (h e he)
    ·exact nz_fin _ _
   ·have h := nz_wrdOf (words8 ++ [lit wordAll]) st.r
    split
    ·rename_i e he; exact nz_err _ (h e he)
    ·exact nz_ite (nz_al hsm _) (nz_wnd _ _)
theorem nz_prs (s : List UInt8) : Nz (prs s) := by
 unfold prs
 refine nz_ite (nz_err _ (by simp)) ?_
 have h := nz_chn (nz_chn (nz_fct 20) [[42]]) [[43], [45]] ⟨s, 0⟩
 split
 ·rename_i e he; exact nz_err _ (h e he)
 ·exact nz_ite (nz_err _ (by simp)) (nz_ite (nz_err _ (by simp)) (nz_ok _))
open Go.RowKit
theorem winT_ser {S S' : Nat → Except Int Grain.Sm} {h : Hd} {l l' : List ST} (hl : ∀ k, (st l k).ser = (st l' k).ser) : ∀ n, (∀ k, k < n → S k = S' k) → winT S h l n = winT S' h l' n
 | 0, _ => rfl
 | n + 1, hS => by rw [winT, winT, winT_ser hl n (fun k hk => hS k (by omega)), hl n, hS n (by omega)]
theorem winKT_ser {K K' : Nat → Nat} {h : Hd} {l l' : List ST} (hl : ∀ k, (st l k).ser = (st l' k).ser) : ∀ n, (∀ k, k < n → K k = K' k) → winKT K h l n = winKT K' h l' n
 | 0, _ => rfl
 | n + 1, hS => by rw [winKT, winKT, winKT_ser hl n (fun k hk => hS k (by omega)), hl n, hS n (by omega)]
theorem st_sersT {l : List ShT} {b : List Kp} (hL : l.map (fun x => x.s) = b.map (fun k => k.s)) (k : Nat) : (st (sersT l) k).ser = (st (sersB b) k).ser := by
 have e : (sersT l).map (fun x => x.ser) = (sersB b).map (fun x => x.ser) := by
  have := congrArg (List.map fun (s : Grain.Shf) => s.se) hL
  simpa [sersT, sersB, Function.comp_def] using this
 have h1 := congrArg (fun L => L[k]?) e
 simp only [List.getElem?_map] at h1
 unfold st
 simp only [List.getD]
 cases h2 : (sersT l)[k]? with
 | none => rw [h2] at h1; cases h3 : (sersB b)[k]? with
  | none => rfl
  | some y => rw [h3] at h1; simp at h1
 | some x => rw [h2] at h1; cases h3 : (sersB b)[k]? with
  | none => rw [h3] at h1; simp at h1
  | some y => rw [h3] at h1; simpa using h1
end Go.GrainU
namespace Go.Proofs.YtoldmigappbjcaaGreatDoor
open Go.RowKit Go.GrainU
structure AT where
 a : An
 cts : List CT
 co : Option Addr
 cap : Nat
def AT.v (x : AT) : Value := .agg #[.int .i64 x.a.err, .int .i64 x.a.pos, .slice x.co x.cts.length x.cap, .int .i64 x.a.cost]
structure AnIn (w : World) (x : AT) : Prop where
 cs : cls x.cts = x.a.cs
 inn : CsIn w x.co x.cts
def APost (a : An) (w : World) (e : Ending) (w' : World) : Prop := ∃ x : AT, e = .returned x.v ∧ x.a = a ∧ AnIn w' x ∧ Below w.heap.size w w'
theorem BIn.bel {V w' : World} {lo B n cap C : Nat} {ao : Option Addr} {hz c : Int} {l : List ShT} (h : BIn V lo B ao n cap hz l) (hC : V.heap[C]? = some (.cells #[.int .i64 c] 3 (0, 0))) (hb : Bel (some C) V.heap.size V w') : BIn w' lo B ao n cap hz l := by
 have hg : V.grownBy w' (some C) := ⟨hb.os, hb.tape, hb.output, hb.size, fun k hk hne => hb.block k hk (fun e => hne e.symm)⟩
 refine ⟨?_, h.row.keep hC ⟨by decide, by decide, by decide, by decide⟩ hg, h.loB⟩
 rw [hb.block B (lt_of_block h.b) (fun e => by
  injection e with e
  subst e
  have h1 := h.b
  rw [hC] at h1
  injection h1 with h1
  injection h1 with _ h2 _
  exact absurd h2 (by decide))]
 exact h.b
theorem bover_base (b : Bs) (hb : BInv b) (h5 : FewB 500 b) (t : ET) (time : Int) (l : List ShT) (lo B n cap C1 C2 Q : Nat) (ao : Option Addr) (V : World) (hB : BIn V lo B ao n cap b.hz l) (hL : Lies l b.l) (k1 : V.heap[C1]? = some (.cells #[.pointer (some ⟨B, 0, none⟩)] 115 (0, 0))) (k2 : V.heap[C2]? = some (.cells #[.int .i64 0] 3 (0, 0))) (hs : Seg V (some ⟨Q, 0, none⟩) (hcells (sersT l))) (hin : t.In V) :
  Calls Tryz.prog 40 #[.slice (some ⟨Q, 0, none⟩) n n, eval t, .int .i64 time, .func (.func 102) #[] #[.pointer (some ⟨C1, 0, none⟩), .pointer (some ⟨C2, 0, none⟩)]] V fun e w' => ((∃ x : Int, x ≠ 0 ∧ askE b time t.ex = .error x ∧ e = .returned (.tuple #[.slice none 0 0, .int .i64 x])) ∨
   ∃ nb cts co M d, e = .returned (.tuple #[.slice co M d, .int .i64 0]) ∧ askE b time t.ex = .ok ⟨nb, cls cts⟩ ∧ M = cts.length ∧ CsIn w' co cts ∧ w'.heap[C2]? = some (.cells #[.int .i64 (wrap64 (askK b time t.ex))] 3 (0, 0))) ∧ Bel (some C2) V.heap.size V w' := by
 have hn := hB.row.len
 have hl := hL.len
 have h8 := hb.len
 have hC12 : C1 ≠ C2 := fun e => by
  subst e
  rw [k1] at k2
  injection k2 with k2
  injection k2 with _ h2 _
  exact absurd h2 (by decide)
 have hC2 : C2 < V.heap.size := lt_of_block k2
 have hser := st_sersT hL
 have hSl : ∀ i, i < n → (sht l i).s = (kp b.l i).s := fun i hi => hL.at (by omega)
 have hBs : Beside (some C2) V.heap.size (fun c w' => w'.heap[C2]? = some (.cells #[.int .i64 (wrap64 c)] 3 (0, 0)) ∧ Bel (some C2) V.heap.size V w') :=
  ⟨fun C h => by injection h with h; omega, fun c w1 w2 h1 h2 => ⟨by rw [h2.block C2 hC2]; exact h1.1, h1.2.trans (Bel.of h2 _)⟩, fun c w1 h1 => Solo.of h1.1⟩
 have hSs : SsIn V (some ⟨Q, 0, none⟩) (sersT l) := by
  refine ⟨hs, fun x hx => ?_, fun x hx => ?_, fun x hx => ?_⟩
  ·obtain ⟨y, hy, rfl⟩ := List.mem_map.1 hx; exact (hB.row.shs y hy).shIn.g0
  ·obtain ⟨y, hy, rfl⟩ := List.mem_map.1 hx; exact (hB.row.shs y hy).shIn.z0
  ·obtain ⟨y, hy, rfl⟩ := List.mem_map.1 hx
   obtain ⟨j, hj, rfl⟩ := List.mem_iff_getElem.1 hy
   have e := hL.at hj
   rw [sht_get hj] at e
   show l[j].s.se.length ≤ 4
   rw [e]
   exact wrongS_len (hb.kee _ (kp_mem (by omega))).sr.se
 have eW : overW (fun i f t => lookS (kp b.l i).s f t) (sersT l) n time = overW (fun i f t => lookS (kp b.l i).s f t) (sersB b.l) b.l.length time := by
  funext h
  unfold overW
  rw [show n = b.l.length from by omega]
  exact winT_ser hser _ (fun k _ => rfl)
 have eC : overC (fun i f t => lookK (kp b.l i).s f t) (sersT l) n time = overC (fun i f t => lookK (kp b.l i).s f t) (sersB b.l) b.l.length time := by
  funext h
  unfold overC
  rw [show n = b.l.length from by omega]
  exact winKT_ser hser _ (fun k _ => rfl)
 have eE : overE (fun i f t => lookS (kp b.l i).s f t) (sersT l) n time t.ex = askE b time t.ex := by unfold askE overE; rw [eW]
 have eK : overK (fun i f t => lookK (kp b.l i).s f t) (sersT l) n time t.ex = askK b time t.ex := by unfold askK overK; rw [eC]
 have key := bover_any C1 C2 (sersT l) t (fun i f t => lookS (kp b.l i).s f t) (fun i f t => lookK (kp b.l i).s f t) (fun c w' => w'.heap[C2]? = some (.cells #[.int .i64 (wrap64 c)] 3 (0, 0)) ∧ Bel (some C2) V.heap.size V w') (some C2) V.heap.size hBs (some ⟨Q, 0, none⟩) n n time V 0 ⟨by rw [show wrap64 ((0 : Nat) : Int) = 0 from by unfold wrap64; simp]; exact k2, Bel.refl _ _ _⟩ (Nat.le_refl _) hSs hin (by rw [sersT_len]; exact hn) (by omega) (base_bd hb h5 time) (by rw [eW]; exact base_gd hb h5 time) ?_
 ·rw [eE, eK] at key
  refine key.mono ?_
  rintro e w' ⟨hp, hbel⟩
  refine ⟨?_, hbel⟩
  rcases hp with ⟨x, hx, ho, he⟩ | ⟨nb, cts, co, M, d, he, ho, hM, hC, hI⟩
  ·exact .inl ⟨x, hx, ho, he⟩
  ·refine .inr ⟨nb, cts, co, M, d, he, ho, hM, hC, ?_⟩
   have := hI.1
   simpa using this
 ·intro ht0 ht1 i a w' c' hi ha hat hI' hbel'
  have hB' := hB.bel k2 hbel'
  have hc1 : w'.cell? ⟨C1, 0, none⟩ = some (.pointer (some ⟨B, 0, none⟩)) := by
   have : w'.heap[C1]? = _ := (hbel'.block C1 (lt_of_block k1) (fun e => hC12 (by injection e with e; exact e.symm))).trans k1
   simp [World.cell?, this]
  refine (bask1_any C1 C2 B lo n cap i ao b.hz a time c' l w' hc1 hI'.1 hB' hi).mono ?_
  rintro e w'' ⟨J, N, E, rfl, hJ, hc2, hbel2⟩
  rw [hSl i hi] at hJ
  refine ⟨?_, hbel2⟩
  rcases hJ with ⟨h0, h1⟩ | ⟨h0, h1, h2⟩
  ·exact .inl ⟨E, J, h0, h1, rfl⟩
  ·refine .inr ⟨J, h1, by rw [h0], ?_, bel_step hbel2 hI'.2⟩
   rw [hc2]
   have hN : N = ((lookK (kp b.l i).s a time : Nat) : Int) := by
    rw [h2]
    unfold lookK
    have : 0 ≤ (Grain.read (kp b.l i).s (Grain.choose (kp b.l i).s a time).1).2.1 := by
     unfold Grain.read
     split
     ·simp
     ·split
      ·simp
      ·simp
    omega
   rw [hN]
   simp
open Go.RowKit Go.GrainU
theorem four_cells {w : World} {B : Nat} {a b c d : Value} {t : TypeId} (h : w.heap[B]? = some (.cells #[a, b, c, d] t (0, 0))) :
  w.cell? ⟨B, 0, none⟩ = some a ∧ w.cell? ⟨B, 1, none⟩ = some b ∧ w.cell? ⟨B, 2, none⟩ = some c ∧ w.cell? ⟨B, 3, none⟩ = some d ∧ w.frozen? ⟨B, 0, none⟩ = false ∧ w.frozen? ⟨B, 1, none⟩ = false ∧ w.frozen? ⟨B, 2, none⟩ = false ∧ w.frozen? ⟨B, 3, none⟩ = false := by
 simp [World.cell?, World.frozen?, h]
def Set4 (w : World) (B : Nat) (a b c d : Value) : World := (((w.setCell ⟨B, 0, none⟩ a).setCell ⟨B, 1, none⟩ b).setCell ⟨B, 2, none⟩ c).setCell ⟨B, 3, none⟩ d
theorem below_set4 {w w' : World} {base B : Nat} (h : Below base w w') (hb : base ≤ B) (a b c d : Value) : Below base w (Set4 w' B a b c d) := (((h.setCell hb _).setCell hb _).setCell hb _).setCell hb _
theorem set4_grown (w : World) (B : Nat) (a b c d : Value) : w.grownBy (Set4 w B a b c d) (some B) := by
 unfold Set4
 have tr : ∀ {a b : World} {i : Nat} {u : Value}, a.grownBy b (some B) → a.grownBy (b.setCell ⟨B, i, none⟩ u) (some B) := fun h => grown_trans h grown_set (fun k hk => .inl hk)
 exact tr (tr (tr (tr ⟨rfl, rfl, rfl, Nat.le_refl _, fun _ _ _ => rfl⟩)))
theorem csin_keep {w w' : World} {co : Option Addr} {l : List CT} {k : Nat} {c : Array Value} {t : TypeId} {fr : Nat × Nat} (h : CsIn w co l) (hk : w.heap[k]? = some (.cells c t fr)) (t1 : t ≠ 79) (t2 : t ≠ 88) (hg : w.grownBy w' (some k)) : CsIn w' co l := by
 have same : ∀ {T : Nat} {b : Nat} {arr : Array Value} {f : Nat × Nat}, t ≠ T → w.heap[b]? = some (.cells arr T f) → w'.heap[b]? = w.heap[b]? := fun {T b arr f} hT hb => by
  refine hg.block b (lt_of_block hb) (fun e => ?_)
  injection e with e
  subst e
  rw [hk] at hb
  injection hb with hb
  injection hb with _ h2 _
  exact hT h2
 have sg : ∀ {T : Nat} {ao : Option Addr} {xs : List Value}, t ≠ T → Seg w ao xs → (xs = [] ∨ Typ w T ao) → Seg w' ao xs ∧ (xs = [] ∨ Typ w' T ao) := fun {T ao xs} hT hs hty => by
  rcases hty with h0 | ⟨b, off, arr, f, e, hb⟩
  ·exact ⟨.inl h0, .inl h0⟩
  ·have hs2 := same hT hb
   refine ⟨?_, .inr ⟨b, off, arr, f, e, hs2.trans hb⟩⟩
   rcases hs with h0 | ⟨b', off', e', hc⟩
   ·exact .inl h0
   ·rw [e] at e'
    injection e' with e'
    injection e' with e1 e2 _
    subst e1
    exact .inr ⟨b, off', by rw [e, e2], fun j hj => by rw [cell_of_block hs2]; exact hc j hj⟩
 exact ⟨(sg t1 h.seg h.ty).1, fun x hx => (sg t2 (h.ser x hx) (h.tl x hx)).1, (sg t1 h.seg h.ty).2, fun x hx => (sg t2 (h.ser x hx) (h.tl x hx)).2⟩
set_option maxRecDepth 100000 in
set_option maxHeartbeats 4000000 in
theorem bask_any (b : Bs) (hb : BInv b) (h5 : FewB 500 b) (tx : ByteArray) (time : Int) (l : List ShT) (lo B n cap : Nat) (ao : Option Addr) (w : World) (hB : BIn w lo B ao n cap b.hz l) (hL : Lies l b.l) (hs63 : tx.size ≤ 9223372036854775807) (hv : ErrV w) :
  Calls Tryz.prog 60 #[.pointer (some ⟨B, 0, none⟩), .string tx, .int .i64 time] w (APost (askB b tx time) w) := by
 obtain ⟨X, hX⟩ : ∃ X, X = w.heap.size := ⟨_, rfl⟩
 obtain ⟨V, hV⟩ : ∃ V, V = (w.alloc (.cells #[.pointer (some ⟨B, 0, none⟩)] 115)).alloc (.cells #[.int .i64 0, .int .i64 0, .slice none 0 0, .int .i64 0] 48) := ⟨_, rfl⟩
 have bel : Below w.heap.size w V := by rw [hV]; exact ((Below.refl _ _).alloc (Nat.le_refl _) _).alloc (by simp) _
 have C0 : V.heap[X]? = some (.cells #[.pointer (some ⟨B, 0, none⟩)] 115 (0, 0)) := by rw [hV, hX, Below.heap_alloc _ _ _ (by simp)]; exact heap_alloc_new w _
 have R0 : V.heap[X + 1]? = some (.cells #[.int .i64 0, .int .i64 0, .slice none 0 0, .int .i64 0] 48 (0, 0)) := by
  have := heap_alloc_new (w.alloc (.cells #[.pointer (some ⟨B, 0, none⟩)] 115)) (.cells #[.int .i64 0, .int .i64 0, .slice none 0 0, .int .i64 0] 48)
  rw [hV, hX]; simpa using this
 have P := hide (parse_any tx V hs63 (hv.below bel))
 have HBV := hide (hB.below bel)
 have HL := hide hL
 have hn8 : n ≤ 8 := by have := hB.row.len; have := hL.len; have := hb.len; omega
 have HV := hide hV
 have hXw : w.heap.size ≤ X := by omega
 have HX := hide hX
 have HASK : Hid (askB b tx time = match prs tx.data.toList with | .error f => ⟨f.1, ((tx.size - f.2 : Nat) : Int), [], 0⟩ | .ok e => anE b time e) := rfl
 clear hV hB hL
 rw [hX] at C0 R0
 go_enter Tryz.func60, Tryz.ntmps60
 go_wp2_with fail
 rw [← HV.out]
 refine P.out.mono ?_
 intro e w1 hh
 obtain ⟨hp, b1⟩ := hh
 have bel1 : Below w.heap.size w w1 := bel.trans (b1.mono bel.size)
 have C1 := below_block b1 C0
 have R1 := below_block b1 R0
 have HP := hide hp
 clear P hp C0 R0
 rcases HP.out with ⟨t, hx, rfl, hin⟩ | ⟨f, hf, rfl⟩
 ·have HA : Hid (askB b tx time = anE b time t.ex) := by show _ = _; rw [HASK.out, hx]
  obtain ⟨W3, hW3⟩ : ∃ W3, W3 = ((w1.alloc (.cells #[.int .i64 t.hd.kind, .int .i64 t.hd.n, .int .i64 t.hd.range, .string t.hd.word, .slice t.sp.ma t.hd.ms.length t.sp.mc, .slice t.sp.ba t.hd.bs.length t.sp.bc, .slice t.sp.ka t.kids.length t.sp.kc] 41)).alloc (.cells #[.int .i64 0, .int .i64 0] 43)).alloc (.cells #[.int .i64 0] 3) := ⟨_, rfl⟩
  have b3 : Below w1.heap.size w1 W3 := by rw [hW3]; exact (((Below.refl _ _).alloc (Nat.le_refl _) _).alloc (by simp) _).alloc (by simp; omega) _
  have bel3 : Below w.heap.size w W3 := bel1.trans (b3.mono bel1.size)
  have bV3 : Below V.heap.size V W3 := b1.trans (b3.mono b1.size)
  have E3 : W3.heap[w1.heap.size]? = some (.cells #[.int .i64 t.hd.kind, .int .i64 t.hd.n, .int .i64 t.hd.range, .string t.hd.word, .slice t.sp.ma t.hd.ms.length t.sp.mc, .slice t.sp.ba t.hd.bs.length t.sp.bc, .slice t.sp.ka t.kids.length t.sp.kc] 41 (0, 0)) := by
   rw [hW3, Below.heap_alloc _ _ _ (by simp; omega), Below.heap_alloc _ _ _ (by simp)]; exact heap_alloc_new w1 _
  have K3 : W3.heap[w1.heap.size + 1 + 1]? = some (.cells #[.int .i64 0] 3 (0, 0)) := by
   have := heap_alloc_new ((w1.alloc (.cells #[.int .i64 t.hd.kind, .int .i64 t.hd.n, .int .i64 t.hd.range, .string t.hd.word, .slice t.sp.ma t.hd.ms.length t.sp.mc, .slice t.sp.ba t.hd.bs.length t.sp.bc, .slice t.sp.ka t.kids.length t.sp.kc] 41)).alloc (.cells #[.int .i64 0, .int .i64 0] 43)) (.cells #[.int .i64 0] 3)
   rw [hW3]; simpa using this
  have C3 := below_block b3 C1
  have R3 := below_block b3 R1
  have hB3 := HBV.out.below bV3
  have hin3 : t.In W3 := ET.In.below b3 t hin.whole
  have HS : Hid (∀ W : World, Below W3.heap.size W3 W → Calls Tryz.prog 101 #[.pointer (some ⟨B, 0, none⟩)] W fun e w4 => ∃ Q : Nat, e = .returned (.slice (some ⟨Q, 0, none⟩) n n) ∧ Hid (∀ W5 : World, Below w4.heap.size w4 W5 → Calls Tryz.prog 40 #[.slice (some ⟨Q, 0, none⟩) n n, eval t, .int .i64 time, .func (.func 102) #[] #[.pointer (some ⟨w.heap.size, 0, none⟩), .pointer (some ⟨w1.heap.size + 1 + 1, 0, none⟩)]] W5 fun e w6 => ∃ (x : Int) (co : Option Addr) (M d : Nat), e = .returned (.tuple #[.slice co M d, .int .i64 x]) ∧
    ((x ≠ 0 ∧ askE b time t.ex = .error x) ∨ (x = 0 ∧ ∃ nb cts, askE b time t.ex = .ok ⟨nb, cls cts⟩ ∧ M = cts.length ∧ CsIn w6 co cts ∧ w6.heap[w1.heap.size + 1 + 1]? = some (.cells #[.int .i64 (wrap64 (askK b time t.ex))] 3 (0, 0)))) ∧ w6.heap[w.heap.size + 1]? = some (.cells #[.int .i64 0, .int .i64 0, .slice none 0 0, .int .i64 0] 48 (0, 0)) ∧ Below w.heap.size w w6 ∧ ((w6.cell? ⟨w1.heap.size, 0, none⟩ = some (.int .i64 t.hd.kind) ∧ w6.cell? ⟨w1.heap.size, 1, none⟩ = some (.int .i64 t.hd.n) ∧ w6.cell? ⟨w1.heap.size, 2, none⟩ = some (.int .i64 t.hd.range) ∧ w6.cell? ⟨w1.heap.size, 3, none⟩ = some (.string t.hd.word) ∧ w6.cell? ⟨w1.heap.size, 4, none⟩ = some (.slice t.sp.ma t.hd.ms.length t.sp.mc) ∧ w6.cell? ⟨w1.heap.size, 5, none⟩ = some (.slice t.sp.ba t.hd.bs.length t.sp.bc) ∧ w6.cell? ⟨w1.heap.size, 6, none⟩ = some (.slice t.sp.ka t.kids.length t.sp.kc)) ∧ w6.cell? ⟨w.heap.size, 0, none⟩ = some (.pointer (some ⟨B, 0, none⟩)))) ∧
    Below W3.heap.size W3 w4) := by
   intro W hW
   refine (bseries_any l lo B n cap ao b.hz W (hB3.below hW) hn8).mono ?_
   rintro e w4 ⟨Q, rfl, hsg, b4⟩
   have b34 := below_step b4 hW
   refine ⟨Q, rfl, ?_, b34⟩
   intro W5 hW5
   have b35 := below_step hW5 b34
   refine (bover_base b hb h5 t time l lo B n cap w.heap.size (w1.heap.size + 1 + 1) Q ao W5 (hB3.below b35) HL.out (below_block b35 C3) (below_block b35 K3) (hsg.below hW5) (ET.In.below b35 t hin3)).mono ?_
   rintro e w6 ⟨ho, hbel⟩
   have hw1s := bel1.size
   have hR6 : w6.heap[w.heap.size + 1]? = some (.cells #[.int .i64 0, .int .i64 0, .slice none 0 0, .int .i64 0] 48 (0, 0)) := by
    have h1 := lt_of_block R1
    rw [hbel.block _ (lt_of_block (below_block b35 R3)) (fun e => by injection e with e; omega)]
    exact below_block b35 R3
   have hb6 : Below w.heap.size w w6 := by
    have hb5 := below_step b35 bel3
    exact ⟨hbel.os.trans hb5.os, hbel.tape.trans hb5.tape, hbel.output.trans hb5.output, Nat.le_trans hb5.size hbel.size, fun k hk => (hbel.block k (Nat.lt_of_lt_of_le hk hb5.size) (fun e => by injection e with e; omega)).trans (hb5.block k hk)⟩
   have hS6 : (w6.cell? ⟨w1.heap.size, 0, none⟩ = some (.int .i64 t.hd.kind) ∧ w6.cell? ⟨w1.heap.size, 1, none⟩ = some (.int .i64 t.hd.n) ∧ w6.cell? ⟨w1.heap.size, 2, none⟩ = some (.int .i64 t.hd.range) ∧ w6.cell? ⟨w1.heap.size, 3, none⟩ = some (.string t.hd.word) ∧ w6.cell? ⟨w1.heap.size, 4, none⟩ = some (.slice t.sp.ma t.hd.ms.length t.sp.mc) ∧ w6.cell? ⟨w1.heap.size, 5, none⟩ = some (.slice t.sp.ba t.hd.bs.length t.sp.bc) ∧ w6.cell? ⟨w1.heap.size, 6, none⟩ = some (.slice t.sp.ka t.kids.length t.sp.kc)) ∧ w6.cell? ⟨w.heap.size, 0, none⟩ = some (.pointer (some ⟨B, 0, none⟩)) := by
    have g1 : w6.heap[w1.heap.size]? = _ := (hbel.block _ (lt_of_block (below_block b35 E3)) (fun e => by injection e with e; omega)).trans (below_block b35 E3)
    have g2 : w6.heap[w.heap.size]? = _ := (hbel.block _ (lt_of_block (below_block b35 C3)) (fun e => by injection e with e; omega)).trans (below_block b35 C3)
    exact ⟨seven_cells g1, by simp [World.cell?, g2]⟩
   rcases ho with ⟨x, hx, ho, rfl⟩ | ⟨nb, cts, co, M, d, rfl, ho, hM, hC, hc2⟩
   ·exact ⟨x, none, 0, 0, rfl, .inl ⟨hx, ho⟩, hR6, hb6, hS6⟩
   ·exact ⟨0, co, M, d, rfl, .inr ⟨rfl, nb, cts, ho, hM, hC, hc2⟩, hR6, hb6, hS6⟩
  obtain ⟨e0, e1, e2, e3, e4, e5, e6⟩ := seven_cells E3
  have c3 : W3.cell? ⟨w.heap.size, 0, none⟩ = some (.pointer (some ⟨B, 0, none⟩)) := by simp [World.cell?, C3]
  have BD : Below W3.heap.size W3 W3.drew := below_drewN (Below.refl _ _) 1
  have HE : Hid (∀ W : World, Below W3.heap.size W3 W → (W.cell? ⟨w1.heap.size, 0, none⟩ = some (.int .i64 t.hd.kind) ∧ W.cell? ⟨w1.heap.size, 1, none⟩ = some (.int .i64 t.hd.n) ∧ W.cell? ⟨w1.heap.size, 2, none⟩ = some (.int .i64 t.hd.range) ∧ W.cell? ⟨w1.heap.size, 3, none⟩ = some (.string t.hd.word) ∧ W.cell? ⟨w1.heap.size, 4, none⟩ = some (.slice t.sp.ma t.hd.ms.length t.sp.mc) ∧ W.cell? ⟨w1.heap.size, 5, none⟩ = some (.slice t.sp.ba t.hd.bs.length t.sp.bc) ∧ W.cell? ⟨w1.heap.size, 6, none⟩ = some (.slice t.sp.ka t.kids.length t.sp.kc)) ∧ W.cell? ⟨w.heap.size, 0, none⟩ = some (.pointer (some ⟨B, 0, none⟩))) := fun W hW => ⟨seven_cells (below_block hW E3), by have := below_block hW C3; simp [World.cell?, this]⟩
  have HW3 := hide hW3
  unfold eval at HS ⊢
  clear HP hx hin hin3 hB3 E3 K3 C3 R3 C1 R1 bV3 b3 bel3 HBV hW3 hb h5
  go_upto_region 5 with fail
  rw [← HW3.out]
  go_cut [10, 11] from 25 to 34 (fun v10 v11 wx => ∃ (x : Int) (co : Option Addr) (M d : Nat), v10 = .slice co M d ∧ v11 = .int .i64 x ∧
    ((x ≠ 0 ∧ askE b time t.ex = .error x) ∨ (x = 0 ∧ ∃ nb cts, askE b time t.ex = .ok ⟨nb, cls cts⟩ ∧ M = cts.length ∧ CsIn wx co cts ∧ wx.heap[w1.heap.size + 1 + 1]? = some (.cells #[.int .i64 (wrap64 (askK b time t.ex))] 3 (0, 0)))) ∧ wx.heap[w.heap.size + 1]? = some (.cells #[.int .i64 0, .int .i64 0, .slice none 0 0, .int .i64 0] 48 (0, 0)) ∧ Below w.heap.size w wx)
  case first =>
   go_region_held3 (fun w' => (w'.cell? ⟨w1.heap.size, 0, none⟩ = some (.int .i64 t.hd.kind) ∧ w'.cell? ⟨w1.heap.size, 1, none⟩ = some (.int .i64 t.hd.n) ∧ w'.cell? ⟨w1.heap.size, 2, none⟩ = some (.int .i64 t.hd.range) ∧ w'.cell? ⟨w1.heap.size, 3, none⟩ = some (.string t.hd.word) ∧ w'.cell? ⟨w1.heap.size, 4, none⟩ = some (.slice t.sp.ma t.hd.ms.length t.sp.mc) ∧ w'.cell? ⟨w1.heap.size, 5, none⟩ = some (.slice t.sp.ba t.hd.bs.length t.sp.bc) ∧ w'.cell? ⟨w1.heap.size, 6, none⟩ = some (.slice t.sp.ka t.kids.length t.sp.kc)) ∧ w'.cell? ⟨w.heap.size, 0, none⟩ = some (.pointer (some ⟨B, 0, none⟩))) (first | exact HE.out _ (by with_reducible assumption) | assumption | go_keep)
    (first
     | (go_at_call 101; refine (HS.out _ BD).mono ?_; rintro e w4 ⟨Q, rfl, PO, b4⟩)
     | (go_at_call 40; refine (PO.out _ (Below.refl _ _)).mono ?_; rintro e w6 ⟨x, co, M, d, rfl, ho, hR, hbw, hS6⟩; have HO := hide ho; clear ho))
   all_goals go_wp2
   all_goals go_meet
   all_goals exact ⟨x, co, M, d, rfl, rfl, HO.out, hR, hbw⟩
  case rest =>
   obtain ⟨x, co, M, d, rfl, rfl, ho, hR, hbw⟩ := hcut
   have HO := hide ho
   have HR := hide hR
   obtain ⟨r0, r1, r2, r3, f0, f1, f2, f3⟩ := four_cells hR
   clear HS HE e0 e1 e2 e3 e4 e5 e6 c3 BD HW3 ho
   by_cases h0 : x = 0
   ·subst h0
    have hok : ∃ nb cts, askE b time t.ex = .ok ⟨nb, cls cts⟩ ∧ M = cts.length ∧ CsIn wc co cts ∧ wc.heap[w1.heap.size + 1 + 1]? = some (.cells #[.int .i64 (wrap64 (askK b time t.ex))] 3 (0, 0)) := by
     rcases HO.out with ⟨h1, _⟩ | ⟨_, h1⟩
     ·exact absurd rfl h1
     ·exact h1
    obtain ⟨nb, cts, hE, hM, hC, hc2⟩ := hok
    have c2 : wc.cell? ⟨w1.heap.size + 1 + 1, 0, none⟩ = some (.int .i64 (wrap64 (askK b time t.ex))) := by simp [World.cell?, hc2]
    obtain ⟨K, hK⟩ : ∃ K, K = wrap64 (askK b time t.ex) := ⟨_, rfl⟩
    rw [← hK] at c2
    have FIN : Hid (APost (askB b tx time) w (.returned (.agg #[.int .i64 0, .int .i64 0, .slice co M d, .int .i64 K])) (Set4 wc (w.heap.size + 1) (.int .i64 0) (.int .i64 0) (.slice co M d) (.int .i64 K))) := by
     refine ⟨⟨⟨0, 0, cls cts, K⟩, cts, co, d⟩, by rw [hM]; rfl, ?_, ⟨rfl, csin_keep hC HR.out (by decide) (by decide) (set4_grown _ _ _ _ _ _)⟩, below_set4 hbw (by omega) _ _ _ _⟩
     rw [HA.out, anE, hE, ← hK]
    clear HO HR hE hM hC hc2 hK hbw
    go_wp2
    exact bodyPost_ret (v := .agg #[.int .i64 0, .int .i64 0, .slice co M d, .int .i64 K]) (by simp [results, Tryz.results60, go_sem, r0, r1, r2, r3]) rfl FIN.out
   ·have hno : askE b time t.ex = .error x := by
     rcases HO.out with ⟨_, h1⟩ | ⟨h1, _⟩
     ·exact h1
     ·exact absurd h1 h0
    have hne : (x != 0) = true := by simpa using h0
    have FIN : Hid (APost (askB b tx time) w (.returned (.agg #[.int .i64 x, .int .i64 0, .slice none 0 0, .int .i64 0])) (Set4 wc (w.heap.size + 1) (.int .i64 x) (.int .i64 0) (.slice none 0 0) (.int .i64 0))) := by
     refine ⟨⟨⟨x, 0, [], 0⟩, [], none, 0⟩, rfl, ?_, ⟨rfl, .inl rfl, fun c hc => (by cases hc), .inl rfl, fun c hc => (by cases hc)⟩, below_set4 hbw (by omega) _ _ _ _⟩
     rw [HA.out, anE, hno]
    clear HO HR hno hbw h0
    go_wp2
    exact bodyPost_ret (v := .agg #[.int .i64 x, .int .i64 0, .slice none 0 0, .int .i64 0]) (by simp [results, Tryz.results60, go_sem, r0, r1, r2, r3]) rfl FIN.out
 ·have hf0 : f.1 ≠ 0 := nz_prs _ f hf
  have HA : Hid (askB b tx time = ⟨f.1, ((tx.size - f.2 : Nat) : Int), [], 0⟩) := by show _ = _; rw [HASK.out, hf]
  obtain ⟨F, hF⟩ : ∃ F, F = f.1 := ⟨_, rfl⟩
  obtain ⟨Pn, hPn⟩ : ∃ Pn : Int, Pn = ((tx.size - f.2 : Nat) : Int) := ⟨_, rfl⟩
  rw [← hF] at hf0 HA ⊢
  rw [← hPn] at HA ⊢
  obtain ⟨W3, hW3⟩ : ∃ W3, W3 = (w1.alloc (.cells #[.int .i64 0, .int .i64 0, .int .i64 0, .string ⟨#[]⟩, .slice none 0 0, .slice none 0 0, .slice none 0 0] 41)).alloc (.cells #[.int .i64 F, .int .i64 Pn] 43) := ⟨_, rfl⟩
  have b3 : Below w1.heap.size w1 W3 := by rw [hW3]; exact ((Below.refl _ _).alloc (Nat.le_refl _) _).alloc (by simp) _
  have F3 : W3.heap[w1.heap.size + 1]? = some (.cells #[.int .i64 F, .int .i64 Pn] 43 (0, 0)) := by
   have := heap_alloc_new (w1.alloc (.cells #[.int .i64 0, .int .i64 0, .int .i64 0, .string ⟨#[]⟩, .slice none 0 0, .slice none 0 0, .slice none 0 0] 41)) (.cells #[.int .i64 F, .int .i64 Pn] 43)
   rw [hW3]; simpa using this
  have R3 := below_block b3 R1
  have bel3 : Below w.heap.size w W3 := bel1.trans (b3.mono bel1.size)
  obtain ⟨r0, r1, r2, r3, f0, f1, f2, f3⟩ := four_cells R3
  obtain ⟨q0, q1, -, -⟩ := two_cells F3
  have FIN : Hid (APost (askB b tx time) w (.returned (.agg #[.int .i64 F, .int .i64 Pn, .slice none 0 0, .int .i64 0])) (Set4 W3 (w.heap.size + 1) (.int .i64 F) (.int .i64 Pn) (.slice none 0 0) (.int .i64 0))) := by
   refine ⟨⟨⟨F, Pn, [], 0⟩, [], none, 0⟩, rfl, HA.out.symm, ⟨rfl, .inl rfl, fun c hc => (by cases hc), .inl rfl, fun c hc => (by cases hc)⟩, below_set4 bel3 (by omega) _ _ _ _⟩
  have hne : (F != 0) = true := by simpa using hf0
  have HW3 := hide hW3
  clear HP hf HA HASK hF hPn hf0 hW3 b3 F3 R3 bel3 R1 C1 HBV HL hb h5
  go_upto_region 2 with fail
  rw [← HW3.out]
  go_wp2
  exact bodyPost_ret (v := .agg #[.int .i64 F, .int .i64 Pn, .slice none 0 0, .int .i64 0]) (by simp [results, Tryz.results60, go_sem, r0, r1, r2, r3]) rfl FIN.out
end Go.Proofs.YtoldmigappbjcaaGreatDoor
