/-
  Expressions that were written are read. No program is named here.
-/
import Derived.Test.YtfgablhgjbjbkadGreatDoorPTb
namespace Go.GrainU
open Go.RowKit

theorem bl_itoa (n : Int) : bl (itoaB n) = Go.Lib.itoa n := by simp [itoaB, bl]

theorem accAny_lt {l : List (List UInt8)} {r x r1 : List UInt8} (h : accAny l r = some (x, r1)) (hl : ∀ y ∈ l, 0 < y.length) : r1.length < r.length := by
  induction l with
  | nil => simp [accAny] at h
  | cons s l ih =>
    unfold accAny at h
    cases ha : acc s r with
    | none => rw [ha] at h; exact ih h fun y hy => hl y (by simp [hy])
    | some r2 =>
      rw [ha] at h
      simp only [Option.some.injEq, Prod.mk.injEq] at h
      rw [← h.2]
      have h0 := hl s (by simp)
      unfold acc at ha
      split at ha
      · rename_i hp
        injection ha with ha
        have h1 := skip_le r
        have h2 := (List.isPrefixOf_iff_prefix.1 hp).length_le
        rw [← ha, List.length_drop]
        omega
      · cases ha

theorem chnF_more {p : St → Except Flt (Ex × St)} (hp : ∀ st x q, p st = .ok (x, q) → q.r.length ≤ st.r.length) {sg : List (List UInt8)} (hsg : ∀ y ∈ sg, 0 < y.length) :
    ∀ (k m : Nat) (e : Ex) (st : St), st.r.length < k → st.r.length < m → chnF p sg k e st = chnF p sg m e st := by
  intro k
  induction k with
  | zero => intro m e st h; omega
  | succ k ih =>
    intro m e st h1 h2
    cases m with
    | zero => omega
    | succ m =>
      unfold chnF
      cases ha : accAny sg st.r with
      | none => rfl
      | some a =>
        obtain ⟨x, r1⟩ := a
        have hl := accAny_lt ha hsg
        simp only
        cases hq : p ⟨r1, st.n⟩ with
        | error f => rfl
        | ok b =>
          obtain ⟨f, s1⟩ := b
          have hl2 := hp _ _ _ hq
          simp only at hl2 ⊢
          cases hf : fin (.mk ⟨4, 0, 0, lit x, [], []⟩ [e, f]) s1 with
          | error f => rfl
          | ok c =>
            obtain ⟨g, s2⟩ := c
            have hl3 := fin_le hf
            simp only
            exact ih m g s2 (by omega) (by omega)

/-- the rest of a chain -/
def chnW (p : St → Except Flt (Ex × St)) (sg : List (List UInt8)) (e : Ex) (st : St) : Except Flt (Ex × St) := chnF p sg (st.r.length + 1) e st

theorem chn_ok {p : St → Except Flt (Ex × St)} {sg : List (List UInt8)} {st q : St} {e : Ex} (h : p st = .ok (e, q)) : chn p sg st = chnW p sg e q := by
  unfold chn; rw [h]; rfl

theorem chnW_end {p : St → Except Flt (Ex × St)} {sg : List (List UInt8)} {st : St} {e : Ex} (h : accAny sg st.r = none) : chnW p sg e st = .ok (e, st) := by
  unfold chnW chnF; rw [h]

theorem chnW_go {p : St → Except Flt (Ex × St)} (hp : ∀ st x q, p st = .ok (x, q) → q.r.length ≤ st.r.length) {sg : List (List UInt8)} (hsg : ∀ y ∈ sg, 0 < y.length) {st q : St} {e f : Ex} {x r1 : List UInt8}
    (h : accAny sg st.r = some (x, r1)) (hq : p ⟨r1, st.n⟩ = .ok (f, q)) (hn : q.n + 1 ≤ 100) : chnW p sg e st = chnW p sg (.mk ⟨4, 0, 0, lit x, [], []⟩ [e, f]) ⟨q.r, q.n + 1⟩ := by
  have h1 := accAny_lt h hsg
  have h2 := hp _ _ _ hq
  simp only at h2
  unfold chnW
  rw [chnF]
  simp only [h, hq, fin]
  rw [if_neg (by omega)]
  simp only
  exact chnF_more hp hsg _ _ _ _ (by simp only; omega) (by simp only; omega)

theorem sg1 : ∀ y ∈ ([[42]] : List (List UInt8)), 0 < y.length := by simp
theorem sg2 : ∀ y ∈ ([[43], [45]] : List (List UInt8)), 0 < y.length := by simp

/-- what may stand behind an expression -/
def Fol (r : List UInt8) : Prop := ∀ c t, r = c :: t → c = 32 ∨ c = 41

theorem fol_digit {r : List UInt8} (h : Fol r) : ∀ c t, r = c :: t → digit c = false := by
  intro c t e
  rcases h c t e with h | h <;> (rw [h]; decide)
theorem fol_32 (t : List UInt8) : Fol (32 :: t) := fun c u e => by injection e with e _; exact .inl e.symm
theorem fol_41 (t : List UInt8) : Fol (41 :: t) := fun c u e => by injection e with e _; exact .inr e.symm

theorem fct_32 (k n : Nat) (r : List UInt8) : fct (k + 1) ⟨32 :: r, n⟩ = fct (k + 1) ⟨r, n⟩ := by
  rw [fct, fct]
  simp only [acc_32, numb_32, wrdOf_32]
  have : nxt (32 :: r) = nxt r := by unfold nxt; rw [skip_32]
  rw [this]

theorem trm_32 (k n : Nat) (r : List UInt8) : trm (fct (k + 1)) ⟨32 :: r, n⟩ = trm (fct (k + 1)) ⟨r, n⟩ := by
  unfold trm chn
  rw [fct_32]

theorem trm_le (k : Nat) : ∀ st x q, trm (fct k) st = .ok (x, q) → q.r.length ≤ st.r.length := chn_le (fct_le k)

theorem dpr_kids {h : Hd} {kids : List Ex} {k : Nat} (e : dpr (.mk h kids) k = false) : ∃ j, k = j + 1 ∧ ∀ x ∈ kids, dpr x j = false := by
  cases k with
  | zero => simp [dpr] at e
  | succ j =>
    refine ⟨j, rfl, ?_⟩
    simp only [dpr] at e
    induction kids with
    | nil => intro x hx; cases hx
    | cons a l ih =>
      simp only [dprL, Bool.or_eq_false_iff] at e
      intro x hx
      rcases List.mem_cons.1 hx with e1 | e1
      · rw [e1]; exact e.1
      · exact ih e.2 x e1

theorem dpr_more : ∀ (x : Ex) (k : Nat), dpr x k = false → dpr x (k + 1) = false := by
  refine Ex.ind ?_
  intro h kids ih k e
  obtain ⟨j, rfl, hj⟩ := dpr_kids e
  simp only [dpr]
  have : ∀ l : List Ex, (∀ x ∈ l, x ∈ kids) → dprL l (j + 1) = false := by
    intro l
    induction l with
    | nil => intro _; rfl
    | cons a l ihl =>
      intro hl
      simp only [dprL, Bool.or_eq_false_iff]
      exact ⟨ih a (hl a (by simp)) j (hj a (hl a (by simp))), ihl fun x hx => hl x (by simp [hx])⟩
  exact this kids fun x hx => hx

/-- it is read, whatever stands behind it -/
structure Rds (e : Ex) : Prop where
  fl : ∀ k n r, rk e.hd = 2 → dpr e k = false → n + cnt e ≤ 100 → Fol r → fct k ⟨bl (tx e) ++ r, n⟩ = .ok (bare e, ⟨r, n + cnt e⟩)
  p1 : ∀ k n r, 1 ≤ rk e.hd → dpr e k = false → n + cnt e ≤ 100 → Fol r → trm (fct k) ⟨bl (tx e) ++ r, n⟩ = chnW (fct k) [[42]] (bare e) ⟨r, n + cnt e⟩
  p0 : ∀ k n r, dpr e k = false → n + cnt e ≤ 100 → Fol r → acc [42] r = none → smm (fct k) ⟨bl (tx e) ++ r, n⟩ = chnW (trm (fct k)) [[43], [45]] (bare e) ⟨r, n + cnt e⟩

theorem acc41 (c : UInt8) (r : List UInt8) (h : (c == 41) = false) : acc [c] (41 :: r) = none := acc_miss (skip_of _ (by decide)) h

/-- within brackets -/
theorem Rds.br {e : Ex} (h : Rds e) {k n : Nat} {r : List UInt8} (hd : dpr e k = false) (hn : n + cnt e ≤ 100) : fct (k + 1) ⟨40 :: (bl (tx e) ++ 41 :: r), n⟩ = .ok (bare e, ⟨r, n + cnt e⟩) := by
  have h1 := h.p0 k n (41 :: r) hd hn (fol_41 r) (acc41 42 r (by decide))
  rw [chnW_end (by simp only [accAny, acc41 43 r (by decide), acc41 45 r (by decide)])] at h1
  rw [fct]
  simp only
  rw [acc_hit (c := 40) (skip_of _ (by decide))]
  simp only
  rw [h1]
  simp only
  rw [expe_hit (c := 41) (skip_of _ (by decide))]

/-- with brackets, where it doesn't hold so close: a factor -/
theorem Rds.wi2 {e : Ex} (h : Rds e) {k n : Nat} {r : List UInt8} (hd : dpr e k = false) (hn : n + cnt e ≤ 100) (hr : Fol r) : fct (k + 1) ⟨bl (wi 2 (rk e.hd, tx e)) ++ r, n⟩ = .ok (bare e, ⟨r, n + cnt e⟩) := by
  unfold wi
  simp only
  split
  · have e1 : bl (lit [40] ++ tx e ++ lit [41]) ++ r = 40 :: (bl (tx e) ++ 41 :: r) := by simp [bl_app, bl_lit]
    rw [e1]
    exact h.br hd hn
  · rename_i h2
    have : rk e.hd = 2 := by unfold rk at h2 ⊢; (repeat' split at h2) <;> simp_all
    exact h.fl (k + 1) n r this (dpr_more e k hd) hn hr

/-- with brackets, where it doesn't hold so close: a term -/
theorem Rds.wi1 {e : Ex} (h : Rds e) {k n : Nat} {r : List UInt8} (hd : dpr e k = false) (hn : n + cnt e ≤ 100) (hr : Fol r) : trm (fct (k + 1)) ⟨bl (wi 1 (rk e.hd, tx e)) ++ r, n⟩ = chnW (fct (k + 1)) [[42]] (bare e) ⟨r, n + cnt e⟩ := by
  unfold wi
  simp only
  split
  · have e1 : bl (lit [40] ++ tx e ++ lit [41]) ++ r = 40 :: (bl (tx e) ++ 41 :: r) := by simp [bl_app, bl_lit]
    rw [e1]
    exact chn_ok (h.br hd hn)
  · rename_i h2
    exact h.p1 (k + 1) n r (by omega) (dpr_more e k hd) hn hr

theorem wi_0 (p : Int × ByteArray) (h : 0 ≤ p.1) : wi 0 p = p.2 := by unfold wi; rw [if_neg (by omega)]
theorem rk_nn (h : Hd) : 0 ≤ rk h := by unfold rk; (repeat' split) <;> omega

theorem words_wordy {x : ByteArray} (h : has words8 x = true) : wordy (bl x) ∧ bl x ≠ wordAll := by
  have := has_mem h
  simp only [words8, List.mem_cons, List.not_mem_nil, or_false] at this
  rcases this with e | e | e | e | e | e | e | e <;> (rw [e, bl_lit]; exact ⟨⟨_, _, rfl, by decide, by decide, by decide⟩, by decide⟩)

theorem totals_wordy {x : ByteArray} (h : has totals4 x = true) : wordy (bl x) := by
  have := has_mem h
  simp only [totals4, List.mem_cons, List.not_mem_nil, or_false] at this
  rcases this with e | e | e | e <;> (rw [e, bl_lit]; exact ⟨_, _, rfl, by decide, by decide, by decide⟩)

theorem has_app {l m : List ByteArray} {x : ByteArray} : has (l ++ m) x = (has l x || has m x) := by unfold has; rw [List.any_append]

theorem byt_head {bs : List ByteArray} (r : List UInt8) : ∃ t, bl (byt bs) ++ 32 :: r = 32 :: t := by
  unfold byt
  split
  · exact ⟨r, by simp [bl_lit]⟩
  · exact ⟨98 :: 121 :: 32 :: (bl (jn bs) ++ 32 :: r), by simp [bl_app, bl_lit]⟩

/-- WHAT IS PRINTED IS READ -/
theorem reads_all : ∀ e : Ex, Rt e → Rds e := by
  refine Ex.ind ?_
  intro h kids ih hr
  obtain ⟨ha, hk⟩ := hr.parts
  -- a factor is a term and a sum
  have up : (∀ k n r, rk h = 2 → dpr (.mk h kids) k = false → n + cnt (.mk h kids) ≤ 100 → Fol r → fct k ⟨bl (tx (.mk h kids)) ++ r, n⟩ = .ok (bare (.mk h kids), ⟨r, n + cnt (.mk h kids)⟩)) → rk h = 2 → Rds (.mk h kids) := by
    intro hfl h2
    have hp1 : ∀ k n r, 1 ≤ rk (Ex.mk h kids).hd → dpr (.mk h kids) k = false → n + cnt (.mk h kids) ≤ 100 → Fol r → trm (fct k) ⟨bl (tx (.mk h kids)) ++ r, n⟩ = chnW (fct k) [[42]] (bare (.mk h kids)) ⟨r, n + cnt (.mk h kids)⟩ := fun k n r _ hd hn hf => chn_ok (hfl k n r h2 hd hn hf)
    exact ⟨hfl, hp1, fun k n r hd hn hf h42 => chn_ok ((hp1 k n r (by show 1 ≤ rk h; omega) hd hn hf).trans (chnW_end (by simp only [accAny, h42])))⟩
  rcases alone_cases ha with ⟨e, k0, n0, n1⟩ | ⟨e, k0, wb⟩ | ⟨e, k0, ab⟩ | ⟨e, k0, sg⟩
  · -- a number
    have h2 : rk h = 2 := by unfold rk; rw [if_neg (by omega)]
    refine up ?_ h2
    intro k n r _ hd hn hf
    obtain ⟨j, rfl, _⟩ := dpr_kids hd
    have hkids : kids = [] := List.eq_nil_of_length_eq_zero k0
    subst hkids
    have et : bl (tx (.mk h [])) ++ r = Go.Lib.itoa h.n ++ r := by
      simp only [tx, bodyT, e, if_true]
      simp [itoaB, bl]
    rw [et, fct]
    obtain ⟨c, t, ec, hc⟩ := itoa_cons n0
    have hbd := digit_bd hc
    have hs : skip (Go.Lib.itoa h.n ++ r) = c :: (t ++ r) := by rw [ec, List.cons_append]; exact skip_of _ (ne_of_toNat (by show c.toNat ≠ 32; omega))
    simp only
    rw [acc_miss hs (ne_of_toNat (by show (40 : Nat) ≠ c.toNat; omega))]
    simp only
    have hx : nxt (Go.Lib.itoa h.n ++ r) = c := by unfold nxt; rw [hs]; rfl
    rw [hx, if_pos hc, numb_read n0 n1 n0 n1 (fol_digit hf)]
    simp only [fin, cnt, cntL] at hn ⊢
    rw [if_neg (by omega)]
    simp [bare, bareL, bareH, e]
  · -- a window
    have h2 : rk h = 2 := by unfold rk; rw [if_neg (by omega)]
    refine up ?_ h2
    intro k n r _ hd hn hf
    obtain ⟨j, rfl, _⟩ := dpr_kids hd
    have hkids : kids = [] := List.eq_nil_of_length_eq_zero k0
    subst hkids
    obtain ⟨a1, a2, a3, a4, a5⟩ := winBad_ok wb
    obtain ⟨hw, hnall⟩ := words_wordy a1
    have et : bl (tx (.mk h [])) ++ r = bl h.word ++ (40 :: 123 :: (bl (jn (h.ms.map mtx)) ++ 125 :: 91 :: (Go.Lib.itoa h.range ++ 93 :: 41 :: r))) := by
      simp only [tx, bodyT, e, show ((2 : Int) = 1) = False from by simp, if_false, if_true]
      simp [bl_app, bl_lit, bl_itoa]
    rw [et, fct]
    obtain ⟨c, t, ec, hc, hs⟩ := wordy_skip hw (40 :: 123 :: (bl (jn (h.ms.map mtx)) ++ 125 :: 91 :: (Go.Lib.itoa h.range ++ 93 :: 41 :: r)))
    simp only
    rw [acc_miss hs (letter_ne' hc (by decide))]
    simp only
    have hx : nxt (bl h.word ++ (40 :: 123 :: (bl (jn (h.ms.map mtx)) ++ 125 :: 91 :: (Go.Lib.itoa h.range ++ 93 :: 41 :: r)))) = c := by unfold nxt; rw [hs]; rfl
    have hwo : wrdOf (words8 ++ [lit wordAll]) (bl h.word ++ (40 :: 123 :: (bl (jn (h.ms.map mtx)) ++ 125 :: 91 :: (Go.Lib.itoa h.range ++ 93 :: 41 :: r)))) = .ok (bl h.word, 40 :: 123 :: (bl (jn (h.ms.map mtx)) ++ 125 :: 91 :: (Go.Lib.itoa h.range ++ 93 :: 41 :: r))) := by
      unfold wrdOf
      rw [wrd_read hw (ends_of (by decide))]
      simp only
      rw [lit_bl, has_app, a1]
      simp
    rw [hx, letter_no_digit hc, if_neg (by simp), hwo]
    simp only
    rw [if_neg hnall, lit_bl]
    simp only [cnt, cntL] at hn ⊢
    rw [wnd_read wb n (by omega) r]
    simp [bare, bareL, bareH, e]
  · -- an all
    have h2 : rk h = 2 := by unfold rk; rw [if_neg (by omega)]
    refine up ?_ h2
    intro k n r _ hd hn hf
    obtain ⟨j, rfl, hj⟩ := dpr_kids hd
    match kids, k0 with
    | [x], _ =>
      have hx := ih x (by simp) (hk x (by simp))
      have hdx := hj x (by simp)
      obtain ⟨a1, a2, a3⟩ := allBad_ok ab
      have hw := totals_wordy a1
      have et : bl (tx (.mk h [x])) ++ r = wordAll ++ (32 :: (bl h.word ++ (bl (byt h.bs) ++ 32 :: 40 :: (bl (tx x) ++ 41 :: r)))) := by
        simp only [tx, bodyT, e, show ((3 : Int) = 1) = False from by simp, show ((3 : Int) = 2) = False from by simp, if_false, if_true, txL]
        simp [bl_app, bl_lit, at2, wordAll]
      have hall : wordy wordAll := ⟨97, [108, 108], rfl, by decide, by decide, by decide⟩
      obtain ⟨u, eu⟩ := byt_head (bs := h.bs) (40 :: (bl (tx x) ++ 41 :: r))
      rw [et, fct]
      obtain ⟨c, t, ec, hc, hs⟩ := wordy_skip hall (32 :: (bl h.word ++ (bl (byt h.bs) ++ 32 :: 40 :: (bl (tx x) ++ 41 :: r))))
      simp only
      rw [acc_miss hs (letter_ne' hc (by decide))]
      simp only
      have hnx : nxt (wordAll ++ (32 :: (bl h.word ++ (bl (byt h.bs) ++ 32 :: 40 :: (bl (tx x) ++ 41 :: r))))) = c := by unfold nxt; rw [hs]; rfl
      have hwo : wrdOf (words8 ++ [lit wordAll]) (wordAll ++ (32 :: (bl h.word ++ (bl (byt h.bs) ++ 32 :: 40 :: (bl (tx x) ++ 41 :: r))))) = .ok (wordAll, 32 :: (bl h.word ++ (bl (byt h.bs) ++ 32 :: 40 :: (bl (tx x) ++ 41 :: r)))) := by
        unfold wrdOf
        rw [wrd_read hall (ends_of (by decide))]
        simp only
        rw [has_app, show has [lit wordAll] (lit wordAll) = true from by simp [has]]
        simp
      have hwt : wrdOf totals4 (bl h.word ++ (bl (byt h.bs) ++ 32 :: 40 :: (bl (tx x) ++ 41 :: r))) = .ok (bl h.word, bl (byt h.bs) ++ 32 :: 40 :: (bl (tx x) ++ 41 :: r)) := by
        unfold wrdOf
        rw [wrd_read hw (by rw [eu]; exact ends_of (by decide))]
        simp only
        rw [lit_bl, a1]
        simp
      have hn' : n + cnt x + 1 ≤ 100 := by simp only [cnt, cntL] at hn; omega
      have hp := hx.p0 j n (41 :: r) hdx (by omega) (fol_41 r) (acc41 42 r (by decide))
      rw [chnW_end (by simp only [accAny, acc41 43 r (by decide), acc41 45 r (by decide)])] at hp
      rw [hnx, letter_no_digit hc, if_neg (by simp), hwo]
      simp only
      rw [if_pos trivial]
      unfold al
      simp only
      rw [wrdOf_32, hwt]
      simp only
      rw [alB_read a3 a2]
      simp only
      rw [hp]
      simp only
      rw [expe_hit (c := 41) (skip_of _ (by decide))]
      simp only [fin]
      rw [if_neg (by omega), lit_bl]
      simp [bare, bareL, bareH, e, cnt, cntL]
      omega
  · -- two, and a sign
    match kids, k0 with
    | [a, b], _ =>
      have hA := ih a (by simp) (hk a (by simp))
      have hB := ih b (by simp) (hk b (by simp))
      have ecnt : cnt (.mk h [a, b]) = cnt a + cnt b + 1 := by simp only [cnt, cntL]; omega
      have ebare : bare (.mk h [a, b]) = .mk ⟨4, 0, 0, h.word, [], []⟩ [bare a, bare b] := by simp [bare, bareL, bareH, e]
      have etx : ∀ r, bl (tx (.mk h [a, b])) ++ r = bl (wi (rk h) (rk a.hd, tx a)) ++ (32 :: (bl h.word ++ (32 :: (bl (wi (rk h + 1) (rk b.hd, tx b)) ++ r)))) := by
        intro r
        simp only [tx, bodyT, e, show ((4 : Int) = 1) = False from by simp, show ((4 : Int) = 2) = False from by simp, show ((4 : Int) = 3) = False from by simp, if_false, txL]
        simp [bl_app, bl_lit, at2]
      have hs := has_mem sg
      simp only [signs3, List.mem_cons, List.not_mem_nil, or_false] at hs
      by_cases hstar : h.word = lit [42]
      · have h1 : rk h = 1 := by unfold rk; rw [if_pos e, if_pos hstar]
        have hp1 : ∀ k n r, 1 ≤ rk (Ex.mk h [a, b]).hd → dpr (.mk h [a, b]) k = false → n + cnt (.mk h [a, b]) ≤ 100 → Fol r → trm (fct k) ⟨bl (tx (.mk h [a, b])) ++ r, n⟩ = chnW (fct k) [[42]] (bare (.mk h [a, b])) ⟨r, n + cnt (.mk h [a, b])⟩ := by
          intro k n r _ hd hn hf
          obtain ⟨j, rfl, hj⟩ := dpr_kids hd
          rw [ecnt] at hn ⊢
          rw [etx, h1, hstar, bl_lit, ebare, hstar]
          rw [hA.wi1 (hj a (by simp)) (by omega) (fol_32 _)]
          rw [chnW_go (fct_le _) sg1 (x := [42]) (r1 := 32 :: (bl (wi (1 + 1) (rk b.hd, tx b)) ++ r)) (q := ⟨r, n + cnt a + cnt b⟩) (f := bare b) (by simp only [accAny]; rw [acc_32, List.cons_append, List.nil_append, acc_hit (skip_of _ (by decide))]) (by rw [fct_32]; exact hB.wi2 (hj b (by simp)) (by simp only; omega) hf) (by simp only; omega)]
          simp only [Nat.add_assoc]
        refine ⟨fun k n r h2 => ?_, hp1, fun k n r hd hn hf h42 => ?_⟩
        · have h2' : rk h = 2 := h2
          omega
        · exact chn_ok ((hp1 k n r (by show 1 ≤ rk h; omega) hd hn hf).trans (chnW_end (by simp only [accAny, h42])))
      · have h1 : rk h = 0 := by unfold rk; rw [if_pos e, if_neg hstar]
        refine ⟨fun k n r h2 => ?_, fun k n r h2 => ?_, ?_⟩
        · have h2' : rk h = 2 := h2
          omega
        · have h2' : 1 ≤ rk h := h2
          omega
        · intro k n r hd hn hf h42
          obtain ⟨j, rfl, hj⟩ := dpr_kids hd
          rw [ecnt] at hn ⊢
          obtain ⟨sb, hsb, hsb2⟩ : ∃ sb : UInt8, h.word = lit [sb] ∧ (sb = 43 ∨ sb = 45) := by
            rcases hs with e | e | e
            · exact ⟨43, e, .inl rfl⟩
            · exact ⟨45, e, .inr rfl⟩
            · exact absurd e hstar
          have h42' : ∀ t, acc [42] (32 :: ([sb] ++ t)) = none := fun t => by
            rw [acc_32, List.cons_append, List.nil_append]
            rcases hsb2 with e | e <;> (subst e; exact acc_miss (skip_of _ (by decide)) (by decide))
          have hany : ∀ t, accAny [[43], [45]] (32 :: ([sb] ++ t)) = some ([sb], t) := fun t => by
            simp only [accAny, acc_32, List.cons_append, List.nil_append]
            rcases hsb2 with e | e
            · subst e; rw [acc_hit (c := 43) (skip_of _ (by decide))]
            · subst e; rw [acc_miss (c := 43) (d := 45) (skip_of _ (by decide)) (by decide), acc_hit (c := 45) (skip_of _ (by decide))]
          rw [etx, h1, hsb, bl_lit, ebare, hsb, wi_0 _ (rk_nn _)]
          rw [hA.p0 (j + 1) n _ (dpr_more a j (hj a (by simp))) (by omega) (fol_32 _) (h42' _)]
          rw [chnW_go (trm_le _) sg2 (x := [sb]) (r1 := 32 :: (bl (wi (0 + 1) (rk b.hd, tx b)) ++ r)) (q := ⟨r, n + cnt a + cnt b⟩) (f := bare b) (hany _) (by rw [trm_32]; exact (hB.wi1 (hj b (by simp)) (by simp only; omega) hf).trans (chnW_end (by simp only [accAny, h42]))) (by simp only; omega)]
          simp only [Nat.add_assoc]

mutual
theorem dpr_bare : ∀ (x : Ex) (k : Nat), dpr (bare x) k = dpr x k
  | .mk h kids, 0 => by simp [bare, dpr]
  | .mk h kids, k + 1 => by simp only [bare, dpr]; exact dprL_bare kids k
theorem dprL_bare : ∀ (l : List Ex) (k : Nat), dprL (bareL l) k = dprL l k
  | [], k => by simp [bareL]
  | x :: l, k => by simp only [bareL, dprL]; rw [dpr_bare x k, dprL_bare l k]
end

/-- of what nothing is wrong with there is not too much within each other -/
theorem wr_deep : ∀ (x : Ex) (d n : Int) (k : Nat), (wr x d n).1 = 0 → d + k = 21 → dpr x k = false := by
  refine Ex.ind ?_
  intro h kids ih d n k e hk
  have hL : ∀ l : List Ex, (∀ x ∈ l, x ∈ kids) → ∀ m j, (wrL l (d + 1) m).1 = 0 → d + 1 + (j : Nat) = 21 → dprL l j = false := by
    intro l
    induction l with
    | nil => intro _ m j _ _; rfl
    | cons a r ihr =>
      intro hin m j e1 hj
      simp only [wrL] at e1
      by_cases e2 : (wr a (d + 1) m).1 = 0
      · rw [if_pos e2] at e1
        simp only [dprL, Bool.or_eq_false_iff]
        exact ⟨ih a (hin a (by simp)) (d + 1) m j e2 hj, ihr (fun x hx => hin x (by simp [hx])) _ j e1 hj⟩
      · rw [if_neg e2] at e1; exact absurd e1 e2
  simp only [wr] at e
  by_cases h1 : 100 < n + 1 ∨ 20 < d
  · rw [if_pos h1] at e; simp at e
  · rw [if_neg h1] at e
    by_cases h2 : alone h kids.length = 0
    · rw [if_pos h2] at e
      cases k with
      | zero => omega
      | succ k => simp only [dpr]; exact hL kids (fun x hx => hx) _ k e (by omega)
    · rw [if_neg h2] at e; exact absurd e h2

/-- A RIGHT EXPRESSION COMES BACK FROM ITS TEXT -/
theorem prs_tx {x : Ex} (h : (wr x 1 0).1 = 0) (hs : (tx x).size ≤ 2000) : prs (bl (tx x)) = .ok (bare x) := by
  obtain ⟨h1, h2, h3, _⟩ := wr_ok x 1 0 (by omega) h
  have hd := wr_deep x 1 0 20 h (by omega)
  have hp := (reads_all x h1).p0 20 0 [] hd (by omega) (fun c t e => by cases e) (acc_nil rfl)
  rw [chnW_end (by simp only [accAny, acc_nil (c := 43) (r := []) rfl, acc_nil (c := 45) (r := []) rfl]), List.append_nil] at hp
  unfold prs
  rw [if_neg (by rw [bl_len]; omega), hp]
  simp only
  rw [if_neg (by simp [skip]), dpr_bare, hd, if_neg (by simp)]

end Go.GrainU
