/-
  What is read is right, and comes back as it is. No program is named here.
-/
import Derived.Test.YtfgablhgjbjbkadGreatDoorPTc
namespace Go.GrainU
open Go.RowKit

theorem lstF_most {α : Type} {part : List UInt8 → Except Flt (α × List UInt8)} {Q : α → Prop} (hp : ∀ r a r', part r = .ok (a, r') → Q a) {most : Nat} : ∀ (k : Nat) (l : List α) (r : List UInt8) (l' : List α) (r' : List UInt8), (∀ a ∈ l, Q a) → l.length ≤ most → lstF part most k l r = .ok (l', r') → (∀ a ∈ l', Q a) ∧ l'.length ≤ most := by
  intro k
  induction k with
  | zero => intro l r l' r' hl hm h; simp only [lstF] at h; injection h with h; simp at h; rw [← h.1]; exact ⟨hl, hm⟩
  | succ k ih =>
    intro l r l' r' hl hm h
    unfold lstF at h
    cases ha : acc [44] r with
    | none => rw [ha] at h; simp at h; rw [← h.1]; exact ⟨hl, hm⟩
    | some r1 =>
      rw [ha] at h
      simp only at h
      split at h
      · cases h
      · rename_i hne
        cases hq : part r1 with
        | error f => rw [hq] at h; cases h
        | ok x =>
          obtain ⟨a, r2⟩ := x
          rw [hq] at h
          simp only at h
          exact ih (l ++ [a]) r2 l' r' (fun b hb => by
            rcases List.mem_append.1 hb with e | e
            · exact hl b e
            · rw [List.mem_singleton.1 e]; exact hp r1 a r2 hq) (by simp; omega) h

theorem lst_most {α : Type} {part : List UInt8 → Except Flt (α × List UInt8)} {Q : α → Prop} (hp : ∀ r a r', part r = .ok (a, r') → Q a) {most : Nat} (h1 : 1 ≤ most) {r : List UInt8} {l : List α} {r' : List UInt8} (h : lst part most r = .ok (l, r')) : (∀ a ∈ l, Q a) ∧ l.length ≤ most := by
  unfold lst at h
  cases hq : part r with
  | error f => rw [hq] at h; cases h
  | ok x =>
    obtain ⟨a, r2⟩ := x
    rw [hq] at h
    exact lstF_most hp most [a] r2 l r' (fun b hb => by rw [List.mem_singleton.1 hb]; exact hp r a r2 hq) (by simpa using h1) h

/-- a right match, as it comes back -/
def OkM (m : Mt) : Prop := mBad m = 0 ∧ bareM m = m

theorem okM_of {k : Int} {x y : List UInt8} (hx : wordy x) (hk : (k = 1 ∨ k = 2) ∧ wordy y ∨ (k = 3 ∨ k = 4) ∧ y = []) : OkM ⟨k, lit x, lit y⟩ := by
  have h1 := wordy_named hx
  rcases hk with ⟨hk, hy⟩ | ⟨hk, hy⟩
  · have h2 := wordy_named hy
    unfold OkM mBad bareM
    simp only [h1, h2]
    rcases hk with e | e <;> (rw [e]; simp)
  · unfold OkM mBad bareM
    simp only [h1]
    rcases hk with e | e <;> (rw [e, hy]; simp)

theorem mtc_ok {r r' : List UInt8} {m : Mt} (h : mtc r = .ok (m, r')) : OkM m := by
  unfold mtc at h
  cases ha : acc [33] r with
  | some r1 =>
    rw [ha] at h
    simp only at h
    cases hw : wrd r1 with
    | error f => rw [hw] at h; cases h
    | ok x =>
      obtain ⟨x, r2⟩ := x
      rw [hw] at h
      simp only [Except.ok.injEq, Prod.mk.injEq] at h
      rw [← h.1]
      exact okM_of (wrd_wordy hw) (.inr ⟨.inr rfl, rfl⟩)
  | none =>
    rw [ha] at h
    simp only at h
    cases hw : wrd r with
    | error f => rw [hw] at h; cases h
    | ok x =>
      obtain ⟨x, r2⟩ := x
      rw [hw] at h
      simp only at h
      cases hb : acc [61] r2 with
      | some r3 =>
        rw [hb] at h
        simp only at h
        cases hy : wrd r3 with
        | error f => rw [hy] at h; cases h
        | ok y =>
          obtain ⟨y, r4⟩ := y
          rw [hy] at h
          simp only [Except.ok.injEq, Prod.mk.injEq] at h
          rw [← h.1]
          exact okM_of (wrd_wordy hw) (.inl ⟨.inl rfl, wrd_wordy hy⟩)
      | none =>
        rw [hb] at h
        simp only at h
        cases hc : acc [33, 61] r2 with
        | some r3 =>
          rw [hc] at h
          simp only at h
          cases hy : wrd r3 with
          | error f => rw [hy] at h; cases h
          | ok y =>
            obtain ⟨y, r4⟩ := y
            rw [hy] at h
            simp only [Except.ok.injEq, Prod.mk.injEq] at h
            rw [← h.1]
            exact okM_of (wrd_wordy hw) (.inl ⟨.inr rfl, wrd_wordy hy⟩)
        | none =>
          rw [hc] at h
          simp only [Except.ok.injEq, Prod.mk.injEq] at h
          rw [← h.1]
          exact okM_of (wrd_wordy hw) (.inr ⟨.inl rfl, rfl⟩)

theorem okMs {l : List Mt} (h : ∀ m ∈ l, OkM m) : msBad l = 0 ∧ l.map bareM = l := by
  induction l with
  | nil => exact ⟨rfl, rfl⟩
  | cons a r ih =>
    obtain ⟨i1, i2⟩ := ih fun m hm => h m (by simp [hm])
    obtain ⟨a1, a2⟩ := h a (by simp)
    refine ⟨?_, by rw [List.map_cons, a2, i2]⟩
    unfold msBad
    rw [if_pos a1]; exact i1

theorem wnM_ok {r r' : List UInt8} {l : List Mt} (h : wnM r = .ok (l, r')) : (msBad l = 0 ∧ l.map bareM = l) ∧ l.length ≤ 5 := by
  unfold wnM at h
  split at h
  · simp only [Except.ok.injEq, Prod.mk.injEq] at h; rw [← h.1]; exact ⟨⟨rfl, rfl⟩, by simp⟩
  · split at h
    · cases h
    · rename_i l1 r1 hl
      split at h
      · cases h
      · simp only [Except.ok.injEq, Prod.mk.injEq] at h
        obtain ⟨h1, h2⟩ := lst_most (fun _ _ _ hh => mtc_ok hh) (by omega) hl
        rw [← h.1]
        exact ⟨okMs h1, h2⟩

theorem numb_ok {a b n : Int} {r r' : List UInt8} (h : numb a b r = .ok (n, r')) : a ≤ n ∧ n ≤ b := by
  unfold numb at h
  split at h
  · cases h
  · split at h
    · rename_i v hv
      split at h
      · rename_i hok
        simp only [Except.ok.injEq, Prod.mk.injEq] at h
        unfold numOk at hok
        simp only [Bool.and_eq_true, decide_eq_true_eq] at hok
        rw [← h.1]; exact hok.2
      · cases h
    · cases h

/-- right, as it comes back, and counted -/
structure Got (st : St) (e : Ex) (q : St) : Prop where
  rt : Rt e
  br : bare e = e
  cn : q.n = st.n + cnt e
  mx : q.n ≤ 100

theorem fin_got {e g : Ex} {st q : St} (h : fin e st = .ok (g, q)) : g = e ∧ q.n = st.n + 1 ∧ q.n ≤ 100 := by
  unfold fin at h
  split at h
  · cases h
  · simp only [Except.ok.injEq, Prod.mk.injEq] at h
    rw [← h.1, ← h.2]
    exact ⟨rfl, rfl, by simp only; omega⟩

theorem wnd_got {w : ByteArray} (hw : has words8 w = true) {st q : St} {e : Ex} (h : wnd w st = .ok (e, q)) : Got st e q := by
  unfold wnd at h
  split at h
  · cases h
  · split at h
    · cases h
    · split at h
      · cases h
      · rename_i l r3 hm
        split at h
        · cases h
        · split at h
          · cases h
          · rename_i n r5 hn
            split at h
            · cases h
            · split at h
              · cases h
              · obtain ⟨rfl, h2, h3⟩ := fin_got h
                obtain ⟨⟨m1, m2⟩, m3⟩ := wnM_ok hm
                obtain ⟨n1, n2⟩ := numb_ok hn
                refine ⟨.mk _ _ ?_ (fun k hk => by cases hk), ?_, h2, h3⟩
                · unfold alone winBad
                  simp only [List.length_nil]
                  rw [if_neg (by omega), if_pos trivial, if_pos trivial, if_neg (by rw [hw]; simp), if_neg (by omega), if_pos m1, if_neg (by omega)]
                · simp [bare, bareL, bareH, m2]

theorem alB_ok {r r' : List UInt8} {l : List ByteArray} (h : alB r = .ok (l, r')) : l.all Grain.named = true ∧ l.length ≤ 4 := by
  unfold alB at h
  split at h
  · simp only [Except.ok.injEq, Prod.mk.injEq] at h; rw [← h.1]; exact ⟨rfl, by simp⟩
  · split at h
    · cases h
    · split at h
      · cases h
      · rename_i l1 r2 hl
        split at h
        · cases h
        · simp only [Except.ok.injEq, Prod.mk.injEq] at h
          obtain ⟨h1, h2⟩ := lst_most (part := words1) (Q := fun x => Grain.named x = true) (fun r a r' hh => by
            unfold words1 at hh
            split at hh
            · cases hh
            · rename_i w r1 hw
              simp only [Except.ok.injEq, Prod.mk.injEq] at hh
              rw [← hh.1]
              exact wordy_named (wrd_wordy hw)) (by omega) hl
          rw [← h.1]
          exact ⟨by rw [List.all_eq_true]; exact h1, h2⟩

theorem wrdOf_has {m : List ByteArray} {r x r' : List UInt8} (h : wrdOf m r = .ok (x, r')) : has m (lit x) = true := by
  unfold wrdOf at h
  split at h
  · cases h
  · rename_i p hp
    split at h
    · rename_i hh
      simp only [Except.ok.injEq] at h
      rw [h] at hh; exact hh
    · cases h

theorem al_got {sub : St → Except Flt (Ex × St)} (hsub : ∀ st e q, sub st = .ok (e, q) → Got st e q) {st q : St} {e : Ex} (h : al sub st = .ok (e, q)) : Got st e q := by
  unfold al at h
  split at h
  · cases h
  · rename_i w r1 hw
    split at h
    · cases h
    · rename_i bs r2 hb
      split at h
      · cases h
      · rename_i x s1 hs
        split at h
        · cases h
        · obtain ⟨rfl, h2, h3⟩ := fin_got h
          have hx := hsub _ _ _ hs
          obtain ⟨b1, b2⟩ := alB_ok hb
          have hw' := wrdOf_has hw
          refine ⟨.mk _ _ ?_ (fun k hk => by rw [List.mem_singleton.1 hk]; exact hx.rt), ?_, ?_, h3⟩
          · unfold alone allBad
            simp only [List.length_cons, List.length_nil]
            rw [if_neg (by omega), if_neg (by omega), if_pos trivial, if_pos trivial, if_neg (by rw [hw']; simp), if_neg (by omega), if_pos b1]
          · simp [bare, bareL, bareH, hx.br]
          · rw [h2]; simp only [cnt, cntL]; have := hx.cn; simp only at this; omega

theorem accAny_mem {l : List (List UInt8)} {r x r1 : List UInt8} (h : accAny l r = some (x, r1)) : x ∈ l := by
  induction l with
  | nil => simp [accAny] at h
  | cons s l ih =>
    unfold accAny at h
    cases ha : acc s r with
    | none => rw [ha] at h; simp [ih h]
    | some r2 =>
      rw [ha] at h
      simp only [Option.some.injEq, Prod.mk.injEq] at h
      rw [← h.1]; simp

theorem chnF_got {p : St → Except Flt (Ex × St)} (hp : ∀ st e q, p st = .ok (e, q) → Got st e q) {sg : List (List UInt8)} (hsg : ∀ x ∈ sg, has signs3 (lit x) = true) :
    ∀ (k : Nat) (s0 st : St) (e : Ex) (g : Ex) (q : St), Got s0 e st → chnF p sg k e st = .ok (g, q) → Got s0 g q := by
  intro k
  induction k with
  | zero => intro s0 st e g q h0 h; simp only [chnF, Except.ok.injEq, Prod.mk.injEq] at h; rw [← h.1, ← h.2]; exact h0
  | succ k ih =>
    intro s0 st e g q h0 h
    unfold chnF at h
    split at h
    · simp only [Except.ok.injEq, Prod.mk.injEq] at h; rw [← h.1, ← h.2]; exact h0
    · rename_i x r1 ha
      split at h
      · cases h
      · rename_i f s1 hf
        have hF := hp _ _ _ hf
        split at h
        · cases h
        · rename_i g1 s2 hfin
          obtain ⟨rfl, h2, h3⟩ := fin_got hfin
          refine ih s0 s2 _ g q ⟨.mk _ _ ?_ ?_, ?_, ?_, h3⟩ h
          · unfold alone
            simp only [List.length_cons, List.length_nil]
            rw [if_neg (by omega), if_neg (by omega), if_neg (by omega), if_pos trivial, if_pos trivial, if_pos (hsg x (accAny_mem ha))]
          · intro y hy
            simp only [List.mem_cons, List.not_mem_nil, or_false] at hy
            rcases hy with e | e
            · rw [e]; exact h0.rt
            · rw [e]; exact hF.rt
          · simp [bare, bareL, bareH, h0.br, hF.br]
          · have e1 := h0.cn
            have e2 := hF.cn
            simp only [cnt, cntL] at e2 ⊢
            omega

theorem chn_got {p : St → Except Flt (Ex × St)} (hp : ∀ st e q, p st = .ok (e, q) → Got st e q) {sg : List (List UInt8)} (hsg : ∀ x ∈ sg, has signs3 (lit x) = true) :
    ∀ (st : St) (e : Ex) (q : St), chn p sg st = .ok (e, q) → Got st e q := by
  intro st e q h
  unfold chn at h
  split at h
  · cases h
  · rename_i e1 s1 he
    exact chnF_got hp hsg _ st s1 e1 e q (hp _ _ _ he) h

theorem smm_got {p : St → Except Flt (Ex × St)} (hp : ∀ st e q, p st = .ok (e, q) → Got st e q) : ∀ (st : St) (e : Ex) (q : St), smm p st = .ok (e, q) → Got st e q :=
  chn_got (chn_got hp (by intro x hx; rw [List.mem_singleton.1 hx]; decide)) (by intro x hx; simp only [List.mem_cons, List.not_mem_nil, or_false] at hx; rcases hx with e | e <;> (rw [e]; decide))

theorem fct_got : ∀ (k : Nat) (st : St) (e : Ex) (q : St), fct k st = .ok (e, q) → Got st e q := by
  intro k
  induction k with
  | zero => intro st e q h; simp [fct] at h
  | succ k ih =>
    intro st e q h
    rw [fct] at h
    split at h
    · rename_i r1 ha
      split at h
      · cases h
      · rename_i x s1 hs
        have hx := smm_got ih _ _ _ hs
        split at h
        · cases h
        · simp only [Except.ok.injEq, Prod.mk.injEq] at h
          rw [← h.1, ← h.2]
          exact ⟨hx.rt, hx.br, hx.cn, hx.mx⟩
    · split at h
      · split at h
        · cases h
        · rename_i n r1 hn
          obtain ⟨rfl, h2, h3⟩ := fin_got h
          obtain ⟨n1, n2⟩ := numb_ok hn
          refine ⟨.mk _ _ ?_ (fun y hy => by cases hy), ?_, h2, h3⟩
          · unfold alone
            simp only [List.length_nil]
            rw [if_pos trivial, if_pos trivial, if_neg (by omega)]
          · simp [bare, bareL, bareH]
      · split at h
        · cases h
        · rename_i w r1 hw
          have hh := wrdOf_has hw
          split at h
          · have := al_got (smm_got ih) h
            exact ⟨this.rt, this.br, this.cn, this.mx⟩
          · rename_i hne
            have h8 : has words8 (lit w) = true := by
              rw [has_app, Bool.or_eq_true] at hh
              rcases hh with e | e
              · exact e
              · have e1 := has_mem e
                rw [List.mem_singleton] at e1
                have := congrArg bl e1
                rw [bl_lit, bl_lit] at this
                exact absurd this hne
            have := wnd_got h8 h
            exact ⟨this.rt, this.br, this.cn, this.mx⟩

/-- a right one that is not too much is not wrong -/
theorem wr_right : ∀ (x : Ex) (d n : Int) (k : Nat), Rt x → 0 ≤ n → n + cnt x ≤ 100 → d + k = 21 → dpr x k = false → wr x d n = (0, n + cnt x) := by
  refine Ex.ind ?_
  intro h kids ih d n k hr hn hc hk hd
  obtain ⟨ha, hkr⟩ := hr.parts
  obtain ⟨j, rfl, hj⟩ := dpr_kids hd
  have hL : ∀ l : List Ex, (∀ x ∈ l, x ∈ kids) → ∀ m : Int, 0 ≤ m → m + cntL l ≤ 100 → wrL l (d + 1) m = (0, m + cntL l) := by
    intro l
    induction l with
    | nil => intro _ m _ _; simp [wrL, cntL]
    | cons a r ihr =>
      intro hin m hm hc
      simp only [cntL] at hc
      have e1 := ih a (hin a (by simp)) (d + 1) m j (hkr a (hin a (by simp))) hm (by omega) (by omega) (hj a (hin a (by simp)))
      have e2 := ihr (fun x hx => hin x (by simp [hx])) (m + cnt a) (by omega) (by omega)
      simp only [wrL, e1]
      rw [if_pos trivial, e2]
      simp only [cntL, Prod.mk.injEq, true_and]
      omega
  simp only [cnt] at hc
  simp only [wr, cnt]
  rw [if_neg (by omega), if_pos ha, hL kids (fun x hx => hx) (n + 1) (by omega) (by omega)]
  simp only [Prod.mk.injEq, true_and]
  omega

/-- WHAT IS READ IS RIGHT, and comes back as it is -/
theorem prs_right {s : List UInt8} {e : Ex} (h : prs s = .ok e) : (wr e 1 0).1 = 0 ∧ bare e = e := by
  unfold prs at h
  split at h
  · cases h
  · split at h
    · cases h
    · rename_i e1 st hs
      split at h
      · cases h
      · split at h
        · cases h
        · rename_i hd
          simp only [Except.ok.injEq] at h
          subst h
          have g := smm_got (fct_got 20) _ _ _ hs
          have := g.cn
          have := g.mx
          simp only at *
          rw [wr_right e1 1 0 20 g.rt (by omega) (by omega) (by omega) (by simpa using hd)]
          exact ⟨rfl, g.br⟩

mutual
/-- the same expression -/
def eqx : Ex → Ex → Bool
  | .mk h k, .mk g l => (decide (h.kind = g.kind) && decide (h.n = g.n) && decide (h.range = g.range) && decide (h.word = g.word)) && (decide (h.ms.length = g.ms.length) && decide (h.bs.length = g.bs.length) && decide (k.length = l.length)) && eqMs h.ms g.ms && eqBs h.bs g.bs && eqL k l
def eqL : List Ex → List Ex → Bool
  | [], _ => true
  | _, [] => true
  | x :: k, y :: l => eqx x y && eqL k l
def eqMs : List Mt → List Mt → Bool
  | [], _ => true
  | _, [] => true
  | x :: k, y :: l => (decide (x.kind = y.kind) && decide (x.key = y.key) && decide (x.val = y.val)) && eqMs k l
def eqBs : List ByteArray → List ByteArray → Bool
  | [], _ => true
  | _, [] => true
  | x :: k, y :: l => decide (x = y) && eqBs k l
end

theorem eqMs_self (l : List Mt) : eqMs l l = true := by
  induction l with
  | nil => simp [eqMs]
  | cons a r ih => simp [eqMs, ih]
theorem eqBs_self (l : List ByteArray) : eqBs l l = true := by
  induction l with
  | nil => simp [eqBs]
  | cons a r ih => simp [eqBs, ih]
theorem eqx_self : ∀ x : Ex, eqx x x = true := by
  refine Ex.ind ?_
  intro h kids ih
  have : ∀ l : List Ex, (∀ x ∈ l, x ∈ kids) → eqL l l = true := by
    intro l
    induction l with
    | nil => intro _; simp [eqL]
    | cons a r ihr => intro hl; simp [eqL, ih a (hl a (by simp)), ihr fun x hx => hl x (by simp [hx])]
  simp [eqx, eqMs_self, eqBs_self, this kids fun x hx => hx]

end Go.GrainU
