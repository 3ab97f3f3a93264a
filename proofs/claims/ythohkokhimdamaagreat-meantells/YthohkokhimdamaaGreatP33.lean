/-
  What a window has, the document's way; meanings are good. No program is named here.
-/
import Derived.Test.YthohkokhimdamaaGreatP32
import Derived.Test.YthohkokhimdamaaGreatP28
/-
  Signs are numbers': what comes of an expression and itself. No program is named here.
-/
namespace Go.GrainU
open Go.RowKit

/-- a number, and two things with a sign -/
def numE (k : Int) : Ex := .mk ⟨1, k, 0, ⟨#[]⟩, [], []⟩ []
def twoE (w : ByteArray) (a b : Ex) : Ex := .mk ⟨4, 0, 0, w, [], []⟩ [a, b]

/-! what is wrong with them -/

theorem wr_err : ∀ x : Ex, Rt x → ∀ d n, (wr x d n).1 = 0 ∨ (wr x d n).1 = 4 := by
  refine Ex.ind ?_
  intro h kids ih hr d n
  obtain ⟨ha, hk⟩ := hr.parts
  have hL : ∀ l : List Ex, (∀ k ∈ l, k ∈ kids) → ∀ m, (wrL l (d + 1) m).1 = 0 ∨ (wrL l (d + 1) m).1 = 4 := by
    intro l
    induction l with
    | nil => intro _ m; left; rfl
    | cons a r ihr =>
      intro hm m
      rw [wrL]
      split
      · exact ihr (fun k hk' => hm k (by simp [hk'])) _
      · exact ih a (hm a (by simp)) (hk a (hm a (by simp))) _ _
  rw [wr]
  split
  · right; rfl
  · exact hL kids (fun k hk' => hk') _

theorem cnt_pos (x : Ex) : 1 ≤ cnt x := by cases x; rw [cnt]; omega

theorem wr_move : ∀ x : Ex, ∀ d n n' : Int, 0 ≤ n → 0 ≤ n' → (wr x d n).1 = 0 → n' + cnt x ≤ 100 → (wr x d n').1 = 0 := by
  refine Ex.ind ?_
  intro h kids ih d n n' hn hn' h0 hc
  rw [wr] at h0 ⊢
  split at h0
  · simp at h0
  · rename_i hg
    rw [cnt] at hc
    have hg' : ¬ (100 < n' + 1 ∨ 20 < d) := by omega
    rw [if_neg hg']
    split at h0
    · rename_i ha
      rw [if_pos ha]
      have hL : ∀ l : List Ex, (∀ k ∈ l, k ∈ kids) → ∀ m m' : Int, 0 ≤ m → 0 ≤ m' → (wrL l (d + 1) m).1 = 0 → m' + cntL l ≤ 100 → (wrL l (d + 1) m').1 = 0 := by
        intro l
        induction l with
        | nil => intro _ m m' _ _ _ _; rfl
        | cons a r ihr =>
          intro hm m m' h1 h2 h3 h4
          rw [wrL] at h3
          rw [cntL] at h4
          split at h3
          · rename_i hz
            have e1 := ih a (hm a (by simp)) (d + 1) m m' h1 h2 hz (by omega)
            have e2 := (wr_ok a (d + 1) m' h2 e1).2.1
            have e3 := (wr_ok a (d + 1) m h1 hz).2.1
            rw [wrL, if_pos e1, e2]
            rw [e3] at h3
            exact ihr (fun k hk => hm k (by simp [hk])) _ _ (by omega) (by omega) h3 (by omega)
          · rename_i hz; exact absurd h3 hz
      exact hL kids (fun k hk => hk) (n + 1) (n' + 1) (by omega) (by omega) h0 (by omega)
    · rename_i ha; exact absurd h0 ha

theorem wr_num {k : Int} (h0 : 0 ≤ k) (h1 : k ≤ 1000000) {d n : Int} (hd : d ≤ 20) (hn : n + 1 ≤ 100) : wr (numE k) d n = (0, n + 1) := by
  unfold numE
  rw [wr, if_neg (by omega)]
  have : alone ⟨1, k, 0, ⟨#[]⟩, [], []⟩ ([] : List Ex).length = 0 := by
    simp [alone]
    omega
  rw [if_pos this]
  rfl

/-- what is wrong with two things and a sign -/
theorem chk_two {w : ByteArray} (hw : has signs3 w = true) {a b : Ex} (ta : typ a = 0) (tb : typ b = 0) {time : Int} (h0 : 0 ≤ time) (h1 : time ≤ 1000000) : chk (twoE w a b) time = (wrL [a, b] 2 1).1 := by
  have e : wr (twoE w a b) 1 0 = wrL [a, b] 2 1 := by
    unfold twoE
    rw [wr, if_neg (by omega)]
    have : alone ⟨4, 0, 0, w, [], []⟩ [a, b].length = 0 := by
      simp [alone, hw]
    rw [if_pos this]
    rfl
  have et : typ (twoE w a b) = 0 := by
    unfold twoE
    rw [typ, if_neg (by simp), typL, if_pos ta, typL, if_pos tb, typL]
  unfold chk
  rw [e, et]
  by_cases hz : (wrL [a, b] 2 1).1 = 0
  · rw [if_pos hz, if_pos rfl, if_neg (by omega), hz]
  · rw [if_neg hz]

theorem two_err {a b : Ex} (ra : Rt a) (rb : Rt b) : (wrL [a, b] 2 1).1 = 0 ∨ (wrL [a, b] 2 1).1 = 4 := by
  rw [wrL]
  split
  · rw [wrL]
    split
    · left; rw [wrL]
    · exact wr_err b rb _ _
  · exact wr_err a ra _ _

theorem two_self {e : Ex} (h : (wrL [e, e] 2 1).1 = 0) (k : Int) (h0 : 0 ≤ k) (h1 : k ≤ 1000000) : (wrL [e, numE k] 2 1).1 = 0 ∧ (wrL [numE k, e] 2 1).1 = 0 := by
  rw [wrL] at h
  split at h
  · rename_i hz
    have e1 := (wr_ok e 2 1 (by omega) hz).2.1
    rw [e1, wrL] at h
    split at h
    · rename_i hy
      have e2 := (wr_ok e 2 (1 + cnt e) (by omega) hy).2.2.1
      have hp := cnt_pos e
      constructor
      · rw [wrL, if_pos hz, e1, wrL, wr_num h0 h1 (by omega) (by omega), if_pos rfl, wrL]
      · have hm := wr_move e 2 1 2 (by omega) (by omega) hz (by omega)
        rw [wrL, wr_num h0 h1 (by omega) (by omega), if_pos rfl, wrL]
        rw [if_pos (by simpa using hm), wrL]
    · rename_i hy; exact absurd h hy
  · rename_i hz; exact absurd h hz

theorem typ_num (k : Int) : typ (numE k) = 0 := by
  unfold numE
  rw [typ, if_neg (by simp), typL]

/-! cells rise -/

def LS (l : List Ln) : Prop := l.Pairwise fun a b => cmpS a.1 b.1 = -1

theorem ls_of {l : List Ln} (h : (wrLn l).1 = 0) : LS l := by
  unfold wrLn at h
  by_cases h8 : 8 < l.length
  · rw [if_pos h8] at h; exact absurd h (by decide)
  · rw [if_neg h8] at h
    have hall : ∀ n k, (wrLF l n k).1 = 0 → ∀ j, k ≤ j → j < k + n → lnBad l j = 0 := by
      intro n
      induction n with
      | zero => intro k _ j h1 h2; omega
      | succ n ih =>
        intro k hk j h1 h2
        by_cases hb : lnBad l k = 0
        · rw [wrLF_ok hb] at hk
          rcases (show j = k ∨ k + 1 ≤ j from by omega) with e | e
          · subst e; exact hb
          · exact ih (k + 1) hk j e (by omega)
        · rw [wrLF_no hb] at hk; exact absurd hk hb
    have hstep : ∀ k, k + 1 < l.length → cmpS (lser l k) (lser l (k + 1)) = -1 := by
      intro k hk
      have hb := hall l.length 0 h (k + 1) (by omega) (by omega)
      unfold lnBad at hb
      split at hb
      · split at hb
        · simp at hb
        · rename_i hc
          have : ¬ (0 ≤ cmpS (lser l k) (lser l (k + 1))) := fun hh => hc ⟨by omega, by simpa using hh⟩
          rcases cmpS_cases (lser l k) (lser l (k + 1)) with e | ⟨e, _⟩ | e <;> omega
      · rename_i ha; exact absurd hb ha
    have hfar : ∀ d i, i + d + 1 < l.length → cmpS (lser l i) (lser l (i + d + 1)) = -1 := by
      intro d
      induction d with
      | zero => intro i hi; exact hstep i hi
      | succ d ih =>
        intro i hi
        exact cmpS_trans (ih i (by omega)) (hstep (i + d + 1) (by omega))
    refine List.pairwise_iff_getElem.2 fun i j hi hj hij => ?_
    obtain ⟨d, rfl⟩ : ∃ d, j = i + d + 1 := ⟨j - i - 1, by omega⟩
    have := hfar d i hj
    simpa [lser, List.getD, List.getElem?_eq_getElem hi, List.getElem?_eq_getElem hj] using this

theorem winC_from (h : Hd) (time : Int) : ∀ (l : List Ln), ∀ c ∈ winC l h time, ∃ y ∈ l, c.1 = y.1
  | [], c, hc => by cases hc
  | x :: r, c, hc => by
    rw [winC] at hc
    rcases List.mem_append.1 hc with e | e
    · refine ⟨x, by simp, ?_⟩
      unfold winX at e
      split at e
      · split at e
        · simp at e; rw [e]
        · cases e
      · cases e
    · obtain ⟨y, hy, ey⟩ := winC_from h time r c e
      exact ⟨y, by simp [hy], ey⟩

theorem winC_srt (h : Hd) (time : Int) : ∀ l : List Ln, LS l → Srt (winC l h time)
  | [], _ => List.Pairwise.nil
  | x :: r, hl => by
    have hl' := List.pairwise_cons.1 hl
    rw [winC]
    refine List.pairwise_append.2 ⟨?_, winC_srt h time r hl'.2, fun a ha b hb => ?_⟩
    · unfold winX
      split
      · split <;> simp
      · simp
    · have ea : a.1 = x.1 := by
        unfold winX at ha
        split at ha
        · split at ha
          · simp at ha; rw [ha]
          · cases ha
        · cases ha
      obtain ⟨y, hy, ey⟩ := winC_from h time r b hb
      rw [ea, ey]
      exact hl'.1 y hy

theorem allA_srt {w : ByteArray} {ks : List ByteArray} : ∀ (l out : List Cl), Srt out → ∀ r, allA w ks out l = some r → Srt r
  | [], out, ho, r, h => by simp [allA] at h; subst h; exact ho
  | c :: q, out, ho, r, h => by
    rw [allA] at h
    cases hp : putA w (only c.1 ks) (one1 w c.2) out with
    | none => rw [hp] at h; cases h
    | some o => rw [hp] at h; exact allA_srt q o (put_srt _ _ _ _ ho _ hp).1 r h

theorem binA_srt {a b : Mn} {w : ByteArray} : ∀ (l acc : List Cl), ((acc ++ l).map Prod.fst).Pairwise (fun s t => cmpS s t = -1) → ∀ r, binA a b w acc l = some r → (r.map Prod.fst).Pairwise (fun s t => cmpS s t = -1)
  | [], acc, hp, r, h => by simp [binA] at h; subst h; simpa using hp
  | c :: q, acc, hp, r, h => by
    have hskip : ((acc ++ q).map Prod.fst).Pairwise (fun s t => cmpS s t = -1) := by
      refine List.Pairwise.sublist ?_ hp
      exact List.Sublist.map _ (List.Sublist.append (List.Sublist.refl _) (List.sublist_cons_self _ _))
    cases h1 : atM a c.1 with
    | none => rw [binA_no (.inl h1)] at h; exact binA_srt q acc hskip r h
    | some x =>
      cases h2 : atM b c.1 with
      | none => rw [binA_no (.inr h2)] at h; exact binA_srt q acc hskip r h
      | some y =>
        cases h3 : wkd w x y with
        | none => rw [binA_bad h1 h2 h3] at h; cases h
        | some v =>
          rw [binA_yes h1 h2 h3] at h
          exact binA_srt q (acc ++ [(c.1, v)]) (by simpa using hp) r h

theorem srt_map (l : List Cl) : Srt l ↔ (l.map Prod.fst).Pairwise (fun s t => cmpS s t = -1) := by
  unfold Srt
  rw [List.pairwise_map]

/-- a number is one cell of no label -/
def NumOk (m : Mn) : Prop := m.num = true → ∃ v, m.cs = [([], v)]

theorem ev_srt {l : List Ln} (hl : LS l) (time : Int) : ∀ x : Ex, Rt x → ∀ m, ev l time x = some m → Srt m.cs ∧ NumOk m := by
  refine Ex.ind ?_
  intro h kids ih hr m hm
  obtain ⟨ha, hk⟩ := hr.parts
  rcases alone_cases ha with ⟨e, k0, _⟩ | ⟨e, k0, wb⟩ | ⟨e, k0, ab⟩ | ⟨e, k0, sg⟩
  · rw [ev_num e] at hm
    simp at hm
    subst hm
    exact ⟨by simp [Srt], fun _ => ⟨_, rfl⟩⟩
  · rw [ev_win e] at hm
    simp at hm
    subst hm
    exact ⟨winC_srt h time l hl, fun hn => by cases hn⟩
  · match kids, k0 with
    | [k], _ =>
      rw [ev_all e] at hm
      cases hq : ev l time k with
      | none => rw [hq] at hm; simp at hm
      | some q =>
        rw [hq] at hm
        simp only [Option.bind_some] at hm
        cases hr' : allA h.word h.bs [] q.cs with
        | none => rw [hr'] at hm; cases hm
        | some r =>
          rw [hr'] at hm
          simp at hm
          subst hm
          exact ⟨allA_srt _ _ List.Pairwise.nil _ hr', fun hn => by cases hn⟩
  · match kids, k0 with
    | [a, b], _ =>
      rw [ev_bin e] at hm
      cases hq : ev l time a with
      | none => rw [hq] at hm; simp at hm
      | some q =>
        rw [hq] at hm
        cases hq' : ev l time b with
        | none => rw [hq'] at hm; simp at hm
        | some q' =>
          rw [hq'] at hm
          simp only [Option.bind_some] at hm
          have ga := ih a (by simp) (hk a (by simp)) q hq
          have gb := ih b (by simp) (hk b (by simp)) q' hq'
          unfold binM at hm
          cases hr' : binA q q' h.word [] (fromM q q').cs with
          | none => rw [hr'] at hm; cases hm
          | some r =>
            rw [hr'] at hm
            simp at hm
            subst hm
            have gf : Srt (fromM q q').cs := by unfold fromM; split; exact gb.1; exact ga.1
            refine ⟨(srt_map _).2 (binA_srt _ [] (by simpa using (srt_map _).1 gf) r hr'), fun hn => ?_⟩
            have hqa : q.num = true := by
              unfold fromM at hn
              split at hn
              · assumption
              · rename_i hc; exact absurd hn hc
            have hqb : q'.num = true := by unfold fromM at hn; rw [if_pos hqa] at hn; exact hn
            obtain ⟨v, ev'⟩ := gb.2 hqb
            have hf : fromM q q' = q' := by unfold fromM; rw [if_pos hqa]
            rw [hf, ev'] at hr'
            have a1 : atM q [] = some (cl0 q.cs) := by unfold atM; rw [if_pos hqa]
            have a2 : atM q' [] = some (cl0 q'.cs) := by unfold atM; rw [if_pos hqb]
            cases h3 : wkd h.word (cl0 q.cs) (cl0 q'.cs) with
            | none => rw [binA_bad a1 a2 h3] at hr'; cases hr'
            | some u =>
              rw [binA_yes a1 a2 h3] at hr'
              simp [binA] at hr'
              exact ⟨u, hr'.symm⟩

/-! values with signs -/

theorem cellOf_srt : ∀ {l : List Cl}, Srt l → ∀ c ∈ l, cellOf l c.1 = some c.2
  | [], _, c, hc => by cases hc
  | a :: r, hs, c, hc => by
    have hs' := List.pairwise_cons.1 hs
    rw [cellOf]
    rcases List.mem_cons.1 hc with e | e
    · rw [e, if_pos (cmpS_self _)]
    · rw [if_neg (by rw [hs'.1 c e]; decide)]; exact cellOf_srt hs'.2 c e

theorem wkd_twice {v : Int} : wkd (lit [42]) v 2 = wkd (lit [43]) v v := by
  unfold wkd
  rw [if_neg (by decide), if_neg (by decide), if_pos rfl]
  by_cases hv : v = 0
  · subst hv; decide
  · have hm : 0 < max v (-v) := by omega
    have key : (v ≠ 0 ∧ MC / max v (-v) < max 2 (-2)) ↔ big (v + v) = true := by
      unfold big
      rw [decide_eq_true_eq, Int.ediv_lt_iff_lt_mul hm, show max (2 : Int) (-2) = 2 from by decide]
      unfold MC
      omega
    by_cases hb : big (v + v) = true
    · rw [if_pos (key.2 hb), if_pos hb]
    · rw [if_neg (fun h => hb (key.1 h)), if_neg hb, show v * 2 = v + v from by omega]

theorem wkd_less (v : Int) : wkd (lit [45]) v v = some 0 := by
  unfold wkd
  rw [if_neg (by decide), if_pos rfl, show v - v = 0 from by omega, if_neg (by decide)]

theorem wkd_none {v : Int} (h1 : -MC ≤ v) (h2 : v ≤ MC) : wkd (lit [43]) 0 v = some v := by
  unfold wkd
  rw [if_pos rfl, show 0 + v = v from by omega, if_neg]
  unfold big
  rw [decide_eq_true_eq]
  omega

theorem binA_same {a b a' b' : Mn} {w w' : ByteArray} (f g f' g' : Cl → Int) : ∀ (l acc : List Cl), (∀ c ∈ l, atM a c.1 = some (f c) ∧ atM b c.1 = some (g c) ∧ atM a' c.1 = some (f' c) ∧ atM b' c.1 = some (g' c) ∧ wkd w (f c) (g c) = wkd w' (f' c) (g' c)) →
    binA a b w acc l = binA a' b' w' acc l
  | [], acc, _ => rfl
  | c :: r, acc, h => by
    obtain ⟨h1, h2, h3, h4, h5⟩ := h c (by simp)
    cases hk : wkd w (f c) (g c) with
    | none => rw [binA_bad h1 h2 hk, binA_bad h3 h4 (h5 ▸ hk)]
    | some v => rw [binA_yes h1 h2 hk, binA_yes h3 h4 (h5 ▸ hk), binA_same f g f' g' r _ (fun c hc => h c (by simp [hc]))]

theorem binA_val {a b : Mn} {w : ByteArray} (f g u : Cl → Int) : ∀ (l acc : List Cl), (∀ c ∈ l, atM a c.1 = some (f c) ∧ atM b c.1 = some (g c) ∧ wkd w (f c) (g c) = some (u c)) →
    binA a b w acc l = some (acc ++ l.map fun c => (c.1, u c))
  | [], acc, _ => by simp [binA]
  | c :: r, acc, h => by
    obtain ⟨h1, h2, h3⟩ := h c (by simp)
    rw [binA_yes h1 h2 h3, binA_val f g u r _ (fun c hc => h c (by simp [hc]))]
    simp

/-- what is at a cell's series, of a meaning of its own -/
theorem at_self {m : Mn} (hs : Srt m.cs) (hn : NumOk m) : ∀ c ∈ m.cs, atM m c.1 = some c.2 := by
  intro c hc
  unfold atM
  by_cases h : m.num = true
  · rw [if_pos h]
    obtain ⟨v, e⟩ := hn h
    rw [e] at hc ⊢
    simp at hc
    rw [hc]; rfl
  · rw [if_neg h]; exact cellOf_srt hs c hc

def numM (k : Int) : Mn := ⟨true, [([], k)]⟩

theorem bin_signs {m : Mn} (hs : Srt m.cs) (hn : NumOk m) (hf : ∀ c ∈ m.cs, Fine c) :
    (binM m (numM 2) (lit [42])).map (·.cs) = (binM m m (lit [43])).map (·.cs) ∧ (binM m m (lit [45])).map (·.cs) = some (m.cs.map fun c => (c.1, 0)) ∧ (binM (numM 0) m (lit [43])).map (·.cs) = some m.cs := by
  have hself := at_self hs hn
  have ff : fromM m m = m := by unfold fromM; split <;> rfl
  have f0 : fromM (numM 0) m = m := by unfold fromM numM; rw [if_pos rfl]
  have an : ∀ (k : Int) (s : Lb), atM (numM k) s = some k := fun k s => by unfold atM numM; rw [if_pos rfl]; rfl
  refine ⟨?_, ?_, ?_⟩
  · unfold binM
    rw [ff]
    by_cases h : m.num = true
    · have fm : fromM m (numM 2) = numM 2 := by unfold fromM; rw [if_pos h]
      obtain ⟨v, e⟩ := hn h
      rw [fm]
      have a1 : atM m [] = some v := by have := hself ([], v) (by rw [e]; simp); exact this
      have e2 : (numM 2).cs = [([], 2)] := rfl
      rw [e2, e]
      cases hk : wkd (lit [42]) v 2 with
      | none => rw [binA_bad a1 (an 2 []) hk, binA_bad a1 a1 (wkd_twice ▸ hk)]; rfl
      | some u => rw [binA_yes a1 (an 2 []) hk, binA_yes a1 a1 (wkd_twice ▸ hk)]; simp [binA]
    · have fm : fromM m (numM 2) = m := by unfold fromM; rw [if_neg h]
      rw [fm, binA_same (a := m) (b := numM 2) (a' := m) (b' := m) (w := lit [42]) (w' := lit [43]) (fun c => c.2) (fun _ => 2) (fun c => c.2) (fun c => c.2) m.cs [] (fun c hc => ⟨hself c hc, an 2 _, hself c hc, hself c hc, wkd_twice⟩)]
  · unfold binM
    rw [ff, binA_val (fun c => c.2) (fun c => c.2) (fun _ => 0) m.cs [] (fun c hc => ⟨hself c hc, hself c hc, wkd_less _⟩)]
    simp
  · unfold binM
    rw [f0, binA_val (fun _ => 0) (fun c => c.2) (fun c => c.2) m.cs [] (fun c hc => ⟨an 0 _, hself c hc, wkd_none (hf c hc).1 (hf c hc).2.1⟩)]
    simp

/-- SIGNS ARE NUMBERS' -/
theorem signs_ask {l : List LT} {e : Ex} {time : Int} (hok : (GrainU.ask (lns l) e time).2 = 0) :
    (GrainU.ask (lns l) (twoE (lit [43]) e e) time).2 = 4 ∨
    ((GrainU.ask (lns l) (twoE (lit [42]) e (numE 2)) time).2 = (GrainU.ask (lns l) (twoE (lit [43]) e e) time).2 ∧ (GrainU.ask (lns l) (twoE (lit [42]) e (numE 2)) time).1 = (GrainU.ask (lns l) (twoE (lit [43]) e e) time).1 ∧
     (GrainU.ask (lns l) (twoE (lit [45]) e e) time) = ((GrainU.ask (lns l) e time).1.map fun c => (c.1, 0), 0) ∧ (GrainU.ask (lns l) (twoE (lit [43]) (numE 0) e) time) = ((GrainU.ask (lns l) e time).1, 0)) := by
  have h1 : (wrLn (lns l)).1 = 0 := by
    by_cases h : (wrLn (lns l)).1 = 0
    · exact h
    · unfold GrainU.ask at hok; rw [if_neg h] at hok; exact absurd hok h
  have h2 : chk e time = 0 := by
    by_cases h : chk e time = 0
    · exact h
    · unfold GrainU.ask at hok; rw [if_pos h1, if_neg h] at hok; exact absurd hok h
  obtain ⟨m, hm⟩ : ∃ m, ev (lns l) time e = some m := by
    cases hev : ev (lns l) time e with
    | none => unfold GrainU.ask at hok; rw [if_pos h1, if_pos h2, hev] at hok; exact absurd hok (by decide)
    | some m => exact ⟨m, rfl⟩
  obtain ⟨rt, t0, t1⟩ := chk_zero h2
  have ty : typ e = 0 := by
    unfold chk at h2
    split at h2
    · split at h2
      · assumption
      · rename_i h; exact absurd h2 h
    · rename_i h; exact absurd h2 h
  have hA : GrainU.ask (lns l) e time = (m.cs, 0) := by unfold GrainU.ask; rw [if_pos h1, if_pos h2, hm]
  have r1 := right_lines h1
  have gd := ev_gd (l := lns l) (fun x hx => by
    obtain ⟨y, hy, rfl⟩ := List.mem_map.1 hx
    exact ⟨(r1.2 y hy).ser, (r1.2 y hy).smp⟩) (by rw [lns_len]; exact r1.1) time e rt m hm
  obtain ⟨sr, no⟩ := ev_srt (ls_of h1) time e rt m hm
  obtain ⟨b1, b2, b3⟩ := bin_signs sr no gd.fine
  have s1 : has signs3 (lit [43]) = true := by decide
  have s2 : has signs3 (lit [42]) = true := by decide
  have s3 : has signs3 (lit [45]) = true := by decide
  rcases two_err rt rt with hz | hz
  · right
    obtain ⟨w1, _⟩ := two_self hz 2 (by decide) (by decide)
    obtain ⟨_, w2⟩ := two_self hz 0 (by decide) (by decide)
    have en : ∀ k, ev (lns l) time (numE k) = some (numM k) := fun k => ev_num rfl
    have eb : ∀ w a b ma mb, ev (lns l) time a = some ma → ev (lns l) time b = some mb → ev (lns l) time (twoE w a b) = binM ma mb w := fun w a b ma mb ha hb => by
      unfold twoE
      rw [ev_bin rfl, ha, hb]; rfl
    have ask2 : ∀ w a b ma mb, has signs3 w = true → typ a = 0 → typ b = 0 → (wrL [a, b] 2 1).1 = 0 → ev (lns l) time a = some ma → ev (lns l) time b = some mb →
        GrainU.ask (lns l) (twoE w a b) time = (match (binM ma mb w).map (·.cs) with | none => ([], 3) | some c => (c, 0)) := fun w a b ma mb hw ta tb hwr ha hb => by
      unfold GrainU.ask
      rw [if_pos h1, if_pos ((chk_two hw ta tb t0 t1).trans hwr), eb w a b ma mb ha hb]
      cases binM ma mb w <;> rfl
    have p := ask2 (lit [42]) e (numE 2) m (numM 2) s2 ty (typ_num 2) w1 hm (en 2)
    have q := ask2 (lit [43]) e e m m s1 ty ty hz hm hm
    have r := ask2 (lit [45]) e e m m s3 ty ty hz hm hm
    have s := ask2 (lit [43]) (numE 0) e (numM 0) m s1 (typ_num 0) ty w2 (en 0) hm
    rw [b1] at p
    rw [b2] at r
    rw [b3] at s
    rw [p, ← q, r, s, hA]
    exact ⟨rfl, rfl, rfl, rfl⟩
  · left
    unfold GrainU.ask
    rw [if_pos h1, chk_two s1 ty ty t0 t1, if_neg (by rw [hz]; decide)]
    exact hz

end Go.GrainU

/-
  What a window has, the document's way; meanings are good. No program is named here.
-/
namespace Go.GrainU
open Go.RowKit

/-- the lines that a window has, and what they came to -/
def lookR (l : List Ln) (ms : List Mt) (a b : Int) : List (Lb × Grain.Sm) := (l.filter fun x => says x.1 ms).map fun x => (x.1, Grain.of (Grain.win x.2 a b))

/-- what a word says of each -/
def valsR (w : ByteArray) (q : List (Lb × Grain.Sm)) : List Cl := q.flatMap fun x => if (valP w x.2).2 = true then [(x.1, (valP w x.2).1)] else []

theorem vals_win (h : Hd) (time : Int) : ∀ l : List Ln, (∀ x ∈ l, Grain.Right x.2) → valsR h.word (lookR l h.ms (max 0 (time - h.range)) time) = winC l h time
  | [], _ => rfl
  | x :: r, hl => by
    have ih := vals_win h time r (fun y hy => hl y (List.mem_cons_of_mem _ hy))
    have hx := hl x (List.mem_cons_self ..)
    rw [winC, ← ih]
    unfold winX winV
    cases hs : says x.1 h.ms with
    | false => simp [lookR, valsR, hs]
    | true => simp [lookR, valsR, hs, win_max hx]

theorem ev_good {l : List Ln} (hl : ∀ x ∈ l, x.1.length ≤ 4 ∧ Grain.Right x.2) (h8 : l.length ≤ 8) (hs : LS l) (time : Int) {x : Ex} (hr : Rt x) {m : Mn} (h : ev l time x = some m) : Good m :=
  ⟨(ev_gd hl h8 time x hr m h).fine, (ev_srt hs time x hr m h).1, (ev_gd hl h8 time x hr m h).len, (ev_srt hs time x hr m h).2⟩

end Go.GrainU
