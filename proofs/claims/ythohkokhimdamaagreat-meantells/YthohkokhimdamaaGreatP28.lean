/-
  The document's own way to what is asked: its signs and its totals come to the same. No program is named here.
-/
import Derived.Test.YthohkokhimdamaaGreatP27
import Derived.Test.YthohkokhimdamaaGreatP26
/-
  A cell among cells that rise: where it goes.
-/
namespace Go.GrainU
open Go.RowKit

theorem ct_zero (a : CT) (r : List CT) : ct (a :: r) 0 = a := rfl
theorem ct_succ (a : CT) (r : List CT) (k : Nat) : ct (a :: r) (k + 1) = ct r k := rfl

/-- the cell p with another value -/
def ctw (c : CT) (v : Int) : CT := ⟨c.ser, v, c.sa, c.sc⟩

theorem put_idx (w : ByteArray) (s : Lb) (v : Int) : ∀ l : List CT, Srt (cls l) → ∃ p, p ≤ l.length ∧ (∀ k, k < l.length → (cmpS (ct l k).ser s < 0 ↔ k < p)) ∧
    ((p < l.length ∧ cmpS (ct l p).ser s = 0 ∧ putA w s v (cls l) = if big (tog w (ct l p).v v) = true then none else some (cls (l.set p (ctw (ct l p) (tog w (ct l p).v v))))) ∨
     (¬ (p < l.length ∧ cmpS (ct l p).ser s = 0) ∧ ∀ c : CT, c.cl = (s, v) → putA w s v (cls l) = some (cls (l.take p ++ c :: l.drop p)))) := by
  intro l
  induction l with
  | nil => intro _; exact ⟨0, Nat.le_refl _, fun k hk => by simp at hk, .inr ⟨fun h => by simp at h, fun c hc => by simp [cls, putA, hc]⟩⟩
  | cons a r ih =>
    intro hs
    have hs' : (∀ x ∈ cls r, cmpS a.cl.1 x.1 = -1) ∧ Srt (cls r) := List.pairwise_cons.1 hs
    by_cases ha : cmpS a.ser s < 0
    · obtain ⟨p, hp, hk, hc⟩ := ih hs'.2
      refine ⟨p + 1, by simp; omega, ?_, ?_⟩
      · intro k hk'
        match k with
        | 0 => exact ⟨fun _ => by omega, fun _ => ha⟩
        | k + 1 =>
          rw [ct_succ]
          have := hk k (by simpa using hk')
          omega
      · rw [ct_succ]
        have e : putA w s v (cls (a :: r)) = (putA w s v (cls r)).map (a.cl :: ·) := by
          show putA w s v (a.cl :: cls r) = _
          rw [putA, if_pos (show cmpS a.cl.1 s < 0 from ha)]
        rcases hc with ⟨h1, h2, h3⟩ | ⟨h1, h2⟩
        · refine .inl ⟨by simp; omega, h2, ?_⟩
          rw [e, h3]
          split
          · rfl
          · simp [cls]
        · refine .inr ⟨fun h => h1 ⟨by have := h.1; simp at this; omega, h.2⟩, fun c hc => ?_⟩
          rw [e, h2 c hc]
          simp [cls]
    · refine ⟨0, Nat.zero_le _, ?_, ?_⟩
      · intro k hk'
        refine ⟨fun h => ?_, fun h => by omega⟩
        match k with
        | 0 => exact absurd h ha
        | k + 1 =>
          rw [ct_succ] at h
          have hk2 : k < r.length := by simpa using hk'
          have h1 : cmpS a.ser (ct r k).ser = -1 := hs'.1 (ct r k).cl (List.mem_map_of_mem (ct_mem hk2))
          have h2 : cmpS (ct r k).ser s = -1 := by rcases cmpS_cases (ct r k).ser s with e | ⟨e, _⟩ | e <;> omega
          have := cmpS_trans h1 h2
          omega
      · rw [ct_zero]
        have e : putA w s v (cls (a :: r)) = if cmpS a.ser s = 0 then (if big (tog w a.v v) = true then none else some ((a.ser, tog w a.v v) :: cls r)) else some ((s, v) :: a.cl :: cls r) := by
          show putA w s v (a.cl :: cls r) = _
          rw [putA, if_neg (show ¬ cmpS a.cl.1 s < 0 from ha)]
          rfl
        by_cases h0 : cmpS a.ser s = 0
        · refine .inl ⟨by simp, h0, ?_⟩
          rw [e, if_pos h0]
          rfl
        · refine .inr ⟨fun h => h0 h.2, fun c hc => ?_⟩
          rw [e, if_neg h0]
          simp [cls, hc]

/-- .. and what comes of it rises still -/
theorem put_srt (w : ByteArray) (s : Lb) (v : Int) : ∀ l : List Cl, Srt l → ∀ l', putA w s v l = some l' → Srt l' ∧ (∀ c ∈ l', c.1 = s ∨ c ∈ l) := by
  intro l
  induction l with
  | nil =>
    intro _ l' h
    simp [putA] at h
    subst h
    exact ⟨by simp [Srt], fun c hc => by simp at hc; left; rw [hc]⟩
  | cons a r ih =>
    intro hs l' h
    have hs' : (∀ x ∈ r, cmpS a.1 x.1 = -1) ∧ Srt r := List.pairwise_cons.1 hs
    rw [putA] at h
    split at h
    · rename_i ha
      cases hq : putA w s v r with
      | none => rw [hq] at h; cases h
      | some q =>
        rw [hq] at h
        simp at h
        subst h
        obtain ⟨i1, i2⟩ := ih hs'.2 q hq
        refine ⟨List.pairwise_cons.2 ⟨fun x hx => ?_, i1⟩, fun c hc => ?_⟩
        · rcases i2 x hx with e | e
          · rw [e]; rcases cmpS_cases a.1 s with e' | ⟨e', _⟩ | e' <;> omega
          · exact hs'.1 x e
        · rcases List.mem_cons.1 hc with e | e
          · right; rw [e]; simp
          · rcases i2 c e with e | e
            · exact .inl e
            · right; simp [e]
    · rename_i ha
      split at h
      · rename_i h0
        split at h
        · cases h
        · simp at h
          subst h
          refine ⟨List.pairwise_cons.2 ⟨fun x hx => hs'.1 x hx, hs'.2⟩, fun c hc => ?_⟩
          rcases List.mem_cons.1 hc with e | e
          · left; rw [e]; exact (cmpS_zero _ _).1 h0
          · right; simp [e]
      · rename_i h0
        simp at h
        subst h
        have h1 : cmpS s a.1 = -1 := by
          have := cmpS_back a.1 s
          rcases cmpS_cases a.1 s with e' | ⟨e', _⟩ | e' <;> omega
        refine ⟨List.pairwise_cons.2 ⟨fun x hx => ?_, hs⟩, fun c hc => ?_⟩
        · rcases List.mem_cons.1 hx with e | e
          · rw [e]; exact h1
          · exact cmpS_trans h1 (hs'.1 x e)
        · rcases List.mem_cons.1 hc with e | e
          · left; rw [e]
          · right; exact e

theorem put_fine {w : ByteArray} {s : Lb} {v : Int} (hs : s.length ≤ 4) (hv : -MC ≤ v ∧ v ≤ MC) : ∀ {l : List Cl}, (∀ c ∈ l, Fine c) → ∀ {l'}, putA w s v l = some l' → (∀ c ∈ l', Fine c) ∧ l'.length ≤ l.length + 1 := by
  intro l
  induction l with
  | nil =>
    intro _ l' h
    simp [putA] at h
    subst h
    exact ⟨fun c hc => by simp at hc; rw [hc]; exact ⟨hv.1, hv.2, hs⟩, by simp⟩
  | cons a r ih =>
    intro hf l' h
    have fa := hf a (by simp)
    have fr : ∀ c ∈ r, Fine c := fun c hc => hf c (by simp [hc])
    rw [putA] at h
    split at h
    · cases hq : putA w s v r with
      | none => rw [hq] at h; cases h
      | some q =>
        rw [hq] at h
        simp at h
        subst h
        obtain ⟨i1, i2⟩ := ih fr hq
        refine ⟨fun c hc => ?_, by simp; omega⟩
        rcases List.mem_cons.1 hc with e | e
        · rw [e]; exact fa
        · exact i1 c e
    · split at h
      · split at h
        · cases h
        · rename_i hb
          simp at h
          subst h
          refine ⟨fun c hc => ?_, by simp⟩
          rcases List.mem_cons.1 hc with e | e
          · rw [e]
            have := big_false (by simpa using hb : big (tog w a.2 v) = false)
            exact ⟨this.1, this.2, fa.2.2⟩
          · exact fr c e
      · simp at h
        subst h
        refine ⟨fun c hc => ?_, by simp⟩
        rcases List.mem_cons.1 hc with e | e
        · rw [e]; exact ⟨hv.1, hv.2, hs⟩
        · rcases List.mem_cons.1 e with e | e
          · rw [e]; exact fa
          · exact fr c e

end Go.GrainU

/-
  The document's own way to what is asked: its signs and its totals come to the same. No program is named here.
-/
namespace Go.GrainU
open Go.RowKit

/-- two values with a sign, and whether that is not too great -/
def opR (w : ByteArray) (a b : Int) : Int × Bool :=
  if w = lit [43] then (a + b, !big (a + b)) else if w = lit [45] then (a - b, !big (a - b))
  else if 0 < max b (-b) ∧ MC / max b (-b) < max a (-a) then (0, false) else (a * b, true)

theorem times_alike {X Y : Int} (hX : 0 ≤ X) (hY : 0 ≤ Y) : (X ≠ 0 ∧ MC / X < Y) ↔ (0 < Y ∧ MC / Y < X) := by
  have hM : (0 : Int) ≤ MC := by unfold MC; decide
  constructor
  · rintro ⟨h1, h2⟩
    have h3 : 0 < X := by omega
    have h4 : 0 ≤ MC / X := Int.ediv_nonneg hM hX
    have h5 : 0 < Y := by omega
    rw [Int.ediv_lt_iff_lt_mul h3] at h2
    exact ⟨h5, by rw [Int.ediv_lt_iff_lt_mul h5, Int.mul_comm]; exact h2⟩
  · rintro ⟨h1, h2⟩
    have h4 : 0 ≤ MC / Y := Int.ediv_nonneg hM hY
    have h3 : 0 < X := by omega
    rw [Int.ediv_lt_iff_lt_mul h1] at h2
    exact ⟨by omega, by rw [Int.ediv_lt_iff_lt_mul h3, Int.mul_comm]; exact h2⟩

theorem opR_wkd (w : ByteArray) (a b : Int) : wkd w a b = if (opR w a b).2 = true then some (opR w a b).1 else none := by
  unfold wkd opR
  by_cases h1 : w = lit [43]
  · rw [if_pos h1, if_pos h1]
    cases big (a + b) <;> simp
  rw [if_neg h1, if_neg h1]
  by_cases h2 : w = lit [45]
  · rw [if_pos h2, if_pos h2]
    cases big (a - b) <;> simp
  rw [if_neg h2, if_neg h2]
  have h := times_alike (X := max a (-a)) (Y := max b (-b)) (by omega) (by omega)
  have h0 : (a ≠ 0) ↔ (max a (-a) ≠ 0) := by omega
  by_cases h3 : 0 < max b (-b) ∧ MC / max b (-b) < max a (-a)
  · rw [if_pos h3]
    have h4 := h.2 h3
    rw [if_pos ⟨h0.2 h4.1, h4.2⟩]
    rfl
  · rw [if_neg h3]
    rw [if_neg (fun h4 => h3 (h.1 ⟨h0.1 h4.1, h4.2⟩))]
    rfl

/-- a list, item by item -/
theorem binA_items {a b : Mn} {w : ByteArray} {I : Cl → List (Cl × Bool)} : ∀ (l acc : List Cl),
    (∀ c ∈ l, (I c = [] ∧ (atM a c.1 = none ∨ atM b c.1 = none)) ∨ ∃ x y, atM a c.1 = some x ∧ atM b c.1 = some y ∧ I c = [((c.1, (opR w x y).1), (opR w x y).2)]) →
    binA a b w acc l = if (l.flatMap I).all (fun i => i.2) = true then some (acc ++ (l.flatMap I).map (fun i => i.1)) else none
  | [], acc, _ => by simp [binA]
  | c :: r, acc, h => by
    have ih := fun acc' => binA_items (a := a) (b := b) (w := w) (I := I) r acc' (fun x hx => h x (List.mem_cons_of_mem _ hx))
    rcases h c (List.mem_cons_self ..) with ⟨h1, h2⟩ | ⟨x, y, h1, h2, h3⟩
    · rw [binA_no h2, ih, List.flatMap_cons, h1, List.nil_append]
    · have hw := opR_wkd w x y
      cases ho : (opR w x y).2 with
      | true =>
        rw [ho, if_pos rfl] at hw
        rw [binA_yes h1 h2 hw, ih, List.flatMap_cons, h3, List.singleton_append, List.all_cons, List.map_cons]
        simp only [ho, Bool.true_and, List.append_assoc, List.singleton_append]
      | false =>
        rw [ho, if_neg (by decide)] at hw
        rw [binA_bad h1 h2 hw, List.flatMap_cons, h3]
        simp [ho]

theorem cellOf_at {l : List Cl} (hs : Srt l) : ∀ c ∈ l, cellOf l c.1 = some c.2 := by
  induction l with
  | nil => intro c hc; cases hc
  | cons d r ih =>
    unfold Srt at hs
    rw [List.pairwise_cons] at hs
    intro c hc
    rcases List.mem_cons.1 hc with e | e
    · subst e
      rw [cellOf, if_pos (cmpS_self _)]
    · have h1 := hs.1 c e
      rw [cellOf, if_neg (by omega)]
      exact ih hs.2 c e

theorem items_one {b : List Cl} (hs : Srt b) (s : Lb) (f : Cl → Cl × Bool) : (cellOf b s = none ∧ b.flatMap (fun d => if s ≠ d.1 then [] else [f d]) = []) ∨ ∃ v, cellOf b s = some v ∧ b.flatMap (fun d => if s ≠ d.1 then [] else [f d]) = [f (s, v)] := by
  induction b with
  | nil => exact .inl ⟨rfl, rfl⟩
  | cons d r ih =>
    unfold Srt at hs
    rw [List.pairwise_cons] at hs
    by_cases h : s = d.1
    · right
      refine ⟨d.2, by rw [cellOf, if_pos (by rw [h]; exact cmpS_self _)], ?_⟩
      have hr : r.flatMap (fun d => if s ≠ d.1 then [] else [f d]) = [] := by
        rw [List.flatMap_eq_nil_iff]
        intro x hx
        have h1 := hs.1 x hx
        rw [if_pos]
        intro e
        rw [← h, e, cmpS_self] at h1
        omega
      rw [List.flatMap_cons, hr, if_neg (by simpa using h), List.append_nil, h]
    · have hc : cellOf (d :: r) s = cellOf r s := by
        rw [cellOf, if_neg]
        intro e
        exact h ((cmpS_zero _ _).1 e).symm
      rw [hc, List.flatMap_cons, if_pos h, List.nil_append]
      exact ih hs.2

/-- what two come to, pair by pair -/
def pairR (x y : Bool) (w : ByteArray) (c d : Cl) : List (Cl × Bool) :=
  if x = true ∧ y = true ∧ c.1 ≠ d.1 then [] else [((if y = true then d.1 else c.1, (opR w c.2 d.2).1), (opR w c.2 d.2).2)]
def binR (x y : Bool) (w : ByteArray) (a b : List Cl) : List (Cl × Bool) := a.flatMap fun c => b.flatMap fun d => pairR x y w c d

theorem binR_bin {a b : Mn} (ga : Good a) (gb : Good b) (w : ByteArray) : binM a b w = if (binR (!a.num) (!b.num) w a.cs b.cs).all (fun i => i.2) = true then some ⟨a.num && b.num, (binR (!a.num) (!b.num) w a.cs b.cs).map (fun i => i.1)⟩ else none := by
  have key : ∀ (I : Cl → List (Cl × Bool)), (∀ c ∈ (fromM a b).cs, (I c = [] ∧ (atM a c.1 = none ∨ atM b c.1 = none)) ∨ ∃ x y, atM a c.1 = some x ∧ atM b c.1 = some y ∧ I c = [((c.1, (opR w x y).1), (opR w x y).2)]) → binR (!a.num) (!b.num) w a.cs b.cs = (fromM a b).cs.flatMap I → (fromM a b).num = (a.num && b.num) → binM a b w = if (binR (!a.num) (!b.num) w a.cs b.cs).all (fun i => i.2) = true then some ⟨a.num && b.num, (binR (!a.num) (!b.num) w a.cs b.cs).map (fun i => i.1)⟩ else none := by
    intro I h1 h2 h3
    unfold binM
    rw [binA_items _ _ h1, h2, h3]
    split <;> simp
  cases ha : a.num with
  | true =>
    obtain ⟨va, hva⟩ := ga.num ha
    have hf : fromM a b = b := by unfold fromM; rw [if_pos ha]
    have hat : ∀ s, atM a s = some va := fun s => by unfold atM; rw [if_pos ha, hva]; rfl
    rw [ha] at key
    refine key (fun d => pairR false (!b.num) w ([], va) d) ?_ ?_ (by rw [hf]; simp)
    · intro d hd
      rw [hf] at hd
      right
      cases hb : b.num with
      | true =>
        obtain ⟨vb, hvb⟩ := gb.num hb
        rw [hvb] at hd
        simp at hd
        subst hd
        refine ⟨va, vb, hat _, by unfold atM; rw [if_pos hb, hvb]; rfl, ?_⟩
        simp [pairR]
      | false =>
        refine ⟨va, d.2, hat _, by unfold atM; rw [if_neg (by rw [hb]; decide)]; exact cellOf_at gb.srt d hd, ?_⟩
        simp [pairR]
    · rw [hf]
      unfold binR
      rw [hva]
      simp
  | false =>
    have hf : fromM a b = a := by unfold fromM; rw [if_neg (by rw [ha]; decide)]
    have hat : ∀ c ∈ a.cs, atM a c.1 = some c.2 := fun c hc => by unfold atM; rw [if_neg (by rw [ha]; decide)]; exact cellOf_at ga.srt c hc
    rw [ha] at key
    refine key (fun c => b.cs.flatMap fun d => pairR true (!b.num) w c d) ?_ ?_ (by rw [hf, ha]; simp)
    · intro c hc
      rw [hf] at hc
      cases hb : b.num with
      | true =>
        obtain ⟨vb, hvb⟩ := gb.num hb
        right
        refine ⟨c.2, vb, hat c hc, by unfold atM; rw [if_pos hb, hvb]; rfl, ?_⟩
        rw [hvb]
        simp [pairR]
      | false =>
        have e : (b.cs.flatMap fun d => pairR true (!false) w c d) = b.cs.flatMap (fun d => if c.1 ≠ d.1 then [] else [((d.1, (opR w c.2 d.2).1), (opR w c.2 d.2).2)]) := by
          congr 1
          funext d
          simp [pairR]
        rw [e]
        have hbt : atM b c.1 = cellOf b.cs c.1 := by unfold atM; rw [if_neg (by rw [hb]; decide)]
        rcases items_one gb.srt c.1 (fun d => ((d.1, (opR w c.2 d.2).1), (opR w c.2 d.2).2)) with ⟨h1, h2⟩ | ⟨v, h1, h2⟩
        · exact .inl ⟨h2, .inr (by rw [hbt]; exact h1)⟩
        · exact .inr ⟨c.2, v, hat c hc, by rw [hbt]; exact h1, h2⟩
    · rw [hf]
      rfl

/-- a cell among cells, the document's way: where its series is, or in its place -/
def upR (w : ByteArray) (o v : Int) : Int :=
  if (w = lit [109, 97, 120] ∧ o < v) ∨ (w = lit [109, 105, 110] ∧ v < o) then v else if w = lit [115, 117, 109] ∨ w = lit [99, 111, 117, 110, 116] then o + v else o

def placeR (s : Lb) (out : List Cl) : Nat := (out.takeWhile fun c => decide (cmpS c.1 s < 0)).length

def putR (w : ByteArray) (s : Lb) (v : Int) (out : List Cl) : Option (List Cl) :=
  match cellOf out s with
  | none => some (out.take (placeR s out) ++ [(s, v)] ++ out.drop (placeR s out))
  | some o => if (w = lit [115, 117, 109] ∨ w = lit [99, 111, 117, 110, 116]) ∧ big (o + v) = true then none else some (out.map fun c => if c.1 = s then (c.1, upR w c.2 v) else c)

theorem tog_up {w : ByteArray} (hw : has totals4 w = true) (o v : Int) : upR w o v = tog w o v := by
  have h4 : w = lit [99, 111, 117, 110, 116] ∨ w = lit [109, 97, 120] ∨ w = lit [109, 105, 110] ∨ w = lit [115, 117, 109] := by
    simp [has, totals4] at hw
    rcases hw with e | e | e | e
    · exact .inl e.symm
    · exact .inr (.inl e.symm)
    · exact .inr (.inr (.inl e.symm))
    · exact .inr (.inr (.inr e.symm))
  have n1 : lit [99, 111, 117, 110, 116] ≠ lit [109, 97, 120] := by decide
  have n2 : lit [99, 111, 117, 110, 116] ≠ lit [109, 105, 110] := by decide
  have n3 : lit [109, 97, 120] ≠ lit [109, 105, 110] := by decide
  have n4 : lit [109, 97, 120] ≠ lit [115, 117, 109] := by decide
  have n5 : lit [109, 97, 120] ≠ lit [99, 111, 117, 110, 116] := by decide
  have n6 : lit [109, 105, 110] ≠ lit [109, 97, 120] := by decide
  have n7 : lit [109, 105, 110] ≠ lit [115, 117, 109] := by decide
  have n8 : lit [109, 105, 110] ≠ lit [99, 111, 117, 110, 116] := by decide
  have n9 : lit [115, 117, 109] ≠ lit [109, 97, 120] := by decide
  have n10 : lit [115, 117, 109] ≠ lit [109, 105, 110] := by decide
  unfold upR tog
  rcases h4 with e | e | e | e
  · subst e; simp [n1, n2]
  · subst e
    simp [n3, n4, n5]
    split <;> omega
  · subst e
    simp [n6, n7, n8]
    split <;> omega
  · subst e; simp [n9, n10]

theorem map_none {s : Lb} {f : Cl → Cl} : ∀ {l : List Cl}, (∀ c ∈ l, c.1 ≠ s) → (l.map fun c => if c.1 = s then f c else c) = l
  | [], _ => rfl
  | c :: r, h => by
    rw [List.map_cons, if_neg (h c (List.mem_cons_self ..)), map_none (fun x hx => h x (List.mem_cons_of_mem _ hx))]

/-- the same cells come of it -/
theorem putR_put {w : ByteArray} (hw : has totals4 w = true) {s : Lb} {v : Int} (hv : -MC ≤ v ∧ v ≤ MC) : ∀ {out : List Cl}, Srt out → (∀ c ∈ out, Fine c) → putA w s v out = putR w s v out
  | [], _, _ => rfl
  | c :: r, hs, hf => by
    have hs' := hs
    unfold Srt at hs'
    rw [List.pairwise_cons] at hs'
    have hfc := hf c (List.mem_cons_self ..)
    rcases cmpS_cases c.1 s with h | ⟨h, he⟩ | h
    · have ih := putR_put hw hv (s := s) (out := r) hs'.2 (fun x hx => hf x (List.mem_cons_of_mem _ hx))
      have hc : cellOf (c :: r) s = cellOf r s := by rw [cellOf, if_neg (by omega)]
      have hne : c.1 ≠ s := fun e => by rw [e, cmpS_self] at h; omega
      have hp : placeR s (c :: r) = placeR s r + 1 := by simp [placeR, h]
      rw [putA, if_pos (by omega), ih]
      unfold putR
      rw [hc, hp]
      cases cellOf r s with
      | none => rfl
      | some o =>
        simp only
        split
        · rfl
        · simp [hne]
    · subst he
      have hc : cellOf (c :: r) c.1 = some c.2 := by rw [cellOf, if_pos h]
      have hr : ∀ x ∈ r, x.1 ≠ c.1 := fun x hx e => by
        have h1 := hs'.1 x hx
        rw [e, cmpS_self] at h1
        omega
      rw [putA, if_neg (by omega), if_pos h]
      unfold putR
      rw [hc]
      simp only [List.map_cons, if_true, map_none hr, tog_up hw]
      by_cases hb : big (tog w c.2 v) = true
      · have hsum : (w = lit [115, 117, 109] ∨ w = lit [99, 111, 117, 110, 116]) ∧ big (c.2 + v) = true := by
          by_cases h1 : w = lit [109, 97, 120]
          · exfalso
            have : tog w c.2 v = max c.2 v := by unfold tog; rw [if_pos h1]
            rw [this] at hb
            have h2 := hfc.1
            have h3 := hfc.2.1
            simp [big] at hb
            omega
          by_cases h2 : w = lit [109, 105, 110]
          · exfalso
            have : tog w c.2 v = min c.2 v := by unfold tog; rw [if_neg h1, if_pos h2]
            rw [this] at hb
            have h2 := hfc.1
            have h3 := hfc.2.1
            simp [big] at hb
            omega
          have ht : tog w c.2 v = c.2 + v := by unfold tog; rw [if_neg h1, if_neg h2]
          rw [ht] at hb
          refine ⟨?_, hb⟩
          simp [has, totals4] at hw
          rcases hw with e | e | e | e
          · exact .inr e.symm
          · exact absurd e.symm h1
          · exact absurd e.symm h2
          · exact .inl e.symm
        rw [if_pos hb, if_pos hsum]
      · rw [if_neg hb, if_neg]
        rintro ⟨h1, h2⟩
        apply hb
        have ht : tog w c.2 v = c.2 + v := by
          unfold tog
          rcases h1 with e | e
          · subst e
            rw [if_neg (by decide), if_neg (by decide)]
          · subst e
            rw [if_neg (by decide), if_neg (by decide)]
        rw [ht]; exact h2
    · have hc : ∀ x ∈ c :: r, cmpS x.1 s = 1 := fun x hx => by
        rcases List.mem_cons.1 hx with e | e
        · rw [e]; exact h
        · have h1 := hs'.1 x e
          have h2 : cmpS s c.1 = -1 := by rw [cmpS_back c.1 s, h]
          have h3 := cmpS_trans h2 h1
          rw [cmpS_back s x.1, h3]; rfl
      have hn : cellOf (c :: r) s = none := by
        have : ∀ l : List Cl, (∀ x ∈ l, cmpS x.1 s = 1) → cellOf l s = none := by
          intro l
          induction l with
          | nil => intro _; rfl
          | cons d q ih =>
            intro hq
            rw [cellOf, if_neg (by rw [hq d (List.mem_cons_self ..)]; decide)]
            exact ih (fun x hx => hq x (List.mem_cons_of_mem _ hx))
        exact this _ hc
      have hp : placeR s (c :: r) = 0 := by simp [placeR, h]
      rw [putA, if_neg (by omega), if_neg (by omega)]
      unfold putR
      rw [hn, hp]
      rfl

end Go.GrainU
