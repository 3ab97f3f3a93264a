/-
  The plain mathematics of buckets: what comes next is put into rising ones; greater ones; what those in a window come to. No program is named here.
-/
import Derived.Test.YtcgcefnfelmmkaaSum
namespace Grain

/-- a bucket: where it begins, what its samples come to -/
structure Bk where
  a : Int
  s : Sm

theorem snoc_ind {α : Type} {P : List α → Prop} (h0 : P []) (h1 : ∀ l x, P l → P (l ++ [x])) : ∀ l, P l := by
  intro l
  rw [← List.reverse_reverse l]
  induction l.reverse with
  | nil => exact h0
  | cons x r ih => rw [List.reverse_cons]; exact h1 _ _ ih

theorem snoc_or {α : Type} (l : List α) : l = [] ∨ ∃ r x, l = r ++ [x] := by
  revert l
  exact snoc_ind (.inl rfl) (fun l x _ => .inr ⟨l, x, rfl⟩)

/-- what comes next, put into rising buckets -/
def put (X : List Bk) (A : Int) (s : Sm) : List Bk :=
  match X.getLast? with
  | some b => if b.a = A then X.dropLast ++ [⟨A, join b.s s⟩] else X ++ [⟨A, s⟩]
  | none => X ++ [⟨A, s⟩]

theorem put_nil (A : Int) (s : Sm) : put [] A s = [⟨A, s⟩] := rfl
theorem put_same (X : List Bk) (A : Int) (q s : Sm) : put (X ++ [⟨A, q⟩]) A s = X ++ [⟨A, join q s⟩] := by simp [put]
theorem put_other (X : List Bk) (b : Bk) (A : Int) (s : Sm) (h : b.a ≠ A) : put (X ++ [b]) A s = X ++ [b] ++ [⟨A, s⟩] := by simp [put, h]

/-- the last bucket, if there is one, begins elsewhere -/
def Off (X : List Bk) (A : Int) : Prop := ∀ R b, X = R ++ [b] → b.a ≠ A

theorem put_off {X : List Bk} {A : Int} (h : Off X A) (s : Sm) : put X A s = X ++ [⟨A, s⟩] := by
  rcases snoc_or X with rfl | ⟨R, b, rfl⟩
  · rfl
  · exact put_other R b A s (h R b rfl)

theorem put_cases (X : List Bk) (A : Int) : Off X A ∨ ∃ R q, X = R ++ [⟨A, q⟩] := by
  rcases snoc_or X with rfl | ⟨R, b, rfl⟩
  · left; intro R b h; simp at h
  · by_cases e : b.a = A
    · right; exact ⟨R, b.s, by subst e; rfl⟩
    · left
      intro R' b' h
      have := (List.append_inj' h rfl).2
      simp at this
      subst this
      exact e

theorem put_len (X : List Bk) (A : Int) (s : Sm) : (put X A s).length ≤ X.length + 1 := by
  rcases put_cases X A with ho | ⟨R, q, rfl⟩
  · rw [put_off ho]; simp
  · rw [put_same]; simp

/-- where the bucket begins that a time is in -/
def beg (t st : Int) : Int := t - t % st

/-- the buckets of samples -/
def up (l : List (Int × Int)) (st : Int) : List Bk := l.foldl (fun X x => put X (beg x.1 st) (one x.2)) []
/-- the coarse buckets of fine ones -/
def great (B : List Bk) : List Bk := B.foldl (fun X b => put X (beg b.a 60) b.s) []
/-- what buckets come to, of those that begin in a window -/
def inB (B : List Bk) (f t : Int) : Sm := B.foldl (fun acc b => if f ≤ b.a ∧ b.a < t then join acc b.s else acc) zero

theorem up_snoc (l : List (Int × Int)) (x : Int × Int) (st : Int) : up (l ++ [x]) st = put (up l st) (beg x.1 st) (one x.2) := by simp [up]
theorem great_snoc (B : List Bk) (b : Bk) : great (B ++ [b]) = put (great B) (beg b.a 60) b.s := by simp [great]
theorem inB_snoc (B : List Bk) (b : Bk) (f t : Int) : inB (B ++ [b]) f t = if f ≤ b.a ∧ b.a < t then join (inB B f t) b.s else inB B f t := by simp [inB]

theorem great_len : ∀ B : List Bk, (great B).length ≤ B.length := by
  refine snoc_ind (Nat.le_refl _) ?_
  intro B b ih
  rw [great_snoc, List.length_append]
  have := put_len (great B) (beg b.a 60) b.s
  simp
  omega

theorem take_tm {l : List (Int × Int)} {k : Nat} (h : k < l.length) : l.take (k + 1) = l.take k ++ [(tm l k, vl l k)] := by
  rw [List.take_add_one, List.getElem?_eq_getElem h]
  simp only [tm, vl, List.getD, List.getElem?_eq_getElem h, Option.getD_some, Option.toList_some]

/-- bucket k -/
def bk (B : List Bk) (k : Nat) : Bk := B.getD k ⟨0, zero⟩

theorem take_bk {B : List Bk} {k : Nat} (h : k < B.length) : B.take (k + 1) = B.take k ++ [bk B k] := by
  rw [List.take_add_one, List.getElem?_eq_getElem h]
  simp [bk, List.getD, List.getElem?_eq_getElem h]

theorem up_take {l : List (Int × Int)} {k : Nat} (st : Int) (h : k < l.length) : up (l.take (k + 1)) st = put (up (l.take k) st) (beg (tm l k) st) (one (vl l k)) := by rw [take_tm h, up_snoc]
theorem great_take {B : List Bk} {k : Nat} (h : k < B.length) : great (B.take (k + 1)) = put (great (B.take k)) (beg (bk B k).a 60) (bk B k).s := by rw [take_bk h, great_snoc]
theorem inB_take {B : List Bk} {k : Nat} (f t : Int) (h : k < B.length) : inB (B.take (k + 1)) f t = if f ≤ (bk B k).a ∧ (bk B k).a < t then join (inB (B.take k) f t) (bk B k).s else inB (B.take k) f t := by rw [take_bk h, inB_snoc]

/-- how many samples buckets count -/
def cnt : List Bk → Int
  | [] => 0
  | b :: r => b.s.c + cnt r

theorem cnt_append (a b : List Bk) : cnt (a ++ b) = cnt a + cnt b := by
  induction a with
  | nil => simp [cnt]
  | cons x r ih => simp only [List.cons_append, cnt, ih]; omega

theorem cnt_snoc (a : List Bk) (b : Bk) : cnt (a ++ [b]) = cnt a + b.s.c := by rw [cnt_append]; simp [cnt]

/-- buckets of at least one sample each, n in all -/
structure Fit (X : List Bk) (n : Int) : Prop where
  pos : ∀ b ∈ X, 1 ≤ b.s.c
  tot : cnt X = n

theorem cnt_nonneg (X : List Bk) (h : ∀ b ∈ X, 1 ≤ b.s.c) : (X.length : Int) ≤ cnt X := by
  induction X with
  | nil => simp [cnt]
  | cons b r ih =>
    have h1 := h b (List.mem_cons_self ..)
    have h2 := ih (fun x hx => h x (List.mem_cons_of_mem _ hx))
    simp only [cnt, List.length_cons]
    omega

theorem Fit.len {X : List Bk} {n : Int} (h : Fit X n) : (X.length : Int) ≤ n := by rw [← h.tot]; exact cnt_nonneg X h.pos

theorem Fit.nil : Fit [] 0 := ⟨fun b hb => (by cases hb), rfl⟩

theorem Fit.head {X : List Bk} {b : Bk} {n : Int} (h : Fit (X ++ [b]) n) : Fit X (n - b.s.c) ∧ 1 ≤ b.s.c ∧ b.s.c ≤ n := by
  have h1 := h.pos b (by simp)
  have h2 : ∀ x ∈ X, 1 ≤ x.s.c := fun x hx => h.pos x (by simp [hx])
  have h3 := h.tot
  rw [cnt_snoc] at h3
  have h4 := cnt_nonneg X h2
  refine ⟨⟨h2, by omega⟩, h1, by omega⟩

theorem Fit.snoc {X : List Bk} {b : Bk} {n : Int} (h : Fit X n) (hb : 1 ≤ b.s.c) : Fit (X ++ [b]) (n + b.s.c) := by
  refine ⟨fun x hx => ?_, by rw [cnt_snoc, h.tot]⟩
  simp at hx
  rcases hx with hx | hx
  · exact h.pos x hx
  · subst hx; exact hb

theorem join_c {a b : Sm} (ha : 0 ≤ a.c) (hb : 0 ≤ b.c) (h : a.c + b.c ≤ 1000000000) : (join a b).c = a.c + b.c := by
  by_cases h1 : a.c = 0
  · rw [join_zero_left a b h1]; omega
  · by_cases h2 : b.c = 0
    · rw [join_zero_right a b h1 h2]; omega
    · rw [join_full a b h1 h2]
      show wr (a.c + b.c) = _
      rw [wr_in (by omega) (by omega)]

theorem assoc {a b c : Sm} (ha : 0 ≤ a.c) (hb : 0 ≤ b.c) (hc : 0 ≤ c.c) (h : a.c + b.c + c.c ≤ 1000000000) : join a (join b c) = join (join a b) c :=
  join_assoc a b c ⟨ha, by omega⟩ ⟨hb, by omega⟩ ⟨hc, by omega⟩

theorem Fit.put {X : List Bk} {n : Int} (h : Fit X n) (A : Int) {s : Sm} (hs : 1 ≤ s.c) (hn : n + s.c ≤ 1000000000) : Fit (put X A s) (n + s.c) := by
  rcases put_cases X A with ho | ⟨R, q, rfl⟩
  · rw [put_off ho]; exact h.snoc hs
  · obtain ⟨h1, h2, h3⟩ := h.head
    rw [put_same]
    have hj : (join q s).c = q.c + s.c := join_c (by simp at h2; omega) (by omega) (by simp at h3; omega)
    have := h1.snoc (b := ⟨A, join q s⟩) (by show 1 ≤ (join q s).c; simp at h2; omega)
    have e : n - q.c + (join q s).c = n + s.c := by rw [hj]; omega
    simp only at this
    rw [e] at this
    exact this

theorem put_put {X : List Bk} {n : Int} (h : Fit X n) (A : Int) {s r : Sm} (hs : 1 ≤ s.c) (hr : 0 ≤ r.c) (hn : n + s.c + r.c ≤ 1000000000) : put (put X A s) A r = put X A (join s r) := by
  rcases put_cases X A with ho | ⟨R, q, rfl⟩
  · rw [put_off ho, put_off ho, put_same]
  · obtain ⟨_, h2, h3⟩ := h.head
    simp at h2 h3
    rw [put_same, put_same, put_same, assoc (by omega) (by omega) (by omega) (by omega)]

theorem great_fit : ∀ (B : List Bk) (n : Int), Fit B n → n ≤ 1000000000 → Fit (great B) n := by
  refine snoc_ind ?_ ?_
  · intro n h _
    have := h.tot
    simp [cnt] at this
    subst this
    exact Fit.nil
  · intro B b ih n h hn
    obtain ⟨h1, h2, h3⟩ := h.head
    have hl := h1.len
    rw [great_snoc]
    have := (ih _ h1 (by omega)).put (beg b.a 60) h2 (by omega)
    rw [show n - b.s.c + b.s.c = n from by omega] at this
    exact this

theorem great_put {X : List Bk} {n : Int} (h : Fit X n) (A : Int) {s : Sm} (hs : 1 ≤ s.c) (hn : n + s.c ≤ 1000000000) : great (put X A s) = put (great X) (beg A 60) s := by
  rcases put_cases X A with ho | ⟨R, q, rfl⟩
  · rw [put_off ho, great_snoc]
  · obtain ⟨h1, h2, h3⟩ := h.head
    simp at h1 h2 h3
    have hl := h1.len
    rw [put_same, great_snoc, great_snoc]
    exact (put_put (great_fit R _ h1 (by omega)) (beg A 60) h2 (by omega) (by omega)).symm

theorem up_fit (st : Int) : ∀ l : List (Int × Int), l.length ≤ 1000000 → Fit (up l st) l.length := by
  refine snoc_ind (fun _ => Fit.nil) ?_
  intro l x ih h
  simp at h
  rw [up_snoc, List.length_append]
  have := (ih (by omega)).put (beg x.1 st) (s := one x.2) (by simp [one]) (by simp [one]; omega)
  simpa [one] using this

theorem beg_beg (t : Int) : beg (beg t 10) 60 = beg t 60 := by unfold beg; omega

/-- by way of fine ones, or at once -/
theorem great_up : ∀ l : List (Int × Int), l.length ≤ 1000000 → great (up l 10) = up l 60 := by
  refine snoc_ind (fun _ => rfl) ?_
  intro l x ih h
  simp at h
  rw [up_snoc, up_snoc, great_put (up_fit 10 l (by omega)) _ (by simp [one]) (by simp [one]; omega), ih (by omega), beg_beg]

theorem inB_c (f t : Int) : ∀ (B : List Bk) (n : Int), Fit B n → n ≤ 1000000000 → 0 ≤ (inB B f t).c ∧ (inB B f t).c ≤ n := by
  refine snoc_ind ?_ ?_
  · intro n h _
    have := h.tot
    simp [cnt] at this
    subst this
    simp [inB, zero]
  · intro B b ih n h hn
    obtain ⟨h1, h2, h3⟩ := h.head
    have hl := h1.len
    have ih := ih _ h1 (by omega)
    rw [inB_snoc]
    split
    · rw [join_c (by omega) (by omega) (by omega)]; omega
    · omega

theorem inB_put {X : List Bk} {n : Int} (h : Fit X n) (A : Int) {s : Sm} (hs : 1 ≤ s.c) (hn : n + s.c ≤ 1000000000) (f t : Int) :
    inB (put X A s) f t = if f ≤ A ∧ A < t then join (inB X f t) s else inB X f t := by
  rcases put_cases X A with ho | ⟨R, q, rfl⟩
  · rw [put_off ho, inB_snoc]
  · obtain ⟨h1, h2, h3⟩ := h.head
    simp at h1 h2 h3
    have hl := h1.len
    have hc := inB_c f t R _ h1 (by omega)
    rw [put_same, inB_snoc, inB_snoc]
    simp only
    split
    · exact assoc (by omega) (by omega) (by omega) (by omega)
    · rfl

theorem of_snoc (l : List (Int × Int)) (x : Int × Int) (h : l.length ≤ 1000000) : of (l ++ [x]) = join (of l) (one x.2) := by
  rw [of_append l [x] (by omega) (by simp)]
  congr 1

/-- the samples of a window -/
def win (l : List (Int × Int)) (f t : Int) : List (Int × Int) := l.filter fun x => decide (f ≤ x.1 ∧ x.1 < t)

theorem win_snoc (l : List (Int × Int)) (x : Int × Int) (f t : Int) : win (l ++ [x]) f t = if f ≤ x.1 ∧ x.1 < t then win l f t ++ [x] else win l f t := by
  unfold win
  rw [List.filter_append]
  split
  · rename_i h; simp [h]
  · rename_i h
    have : List.filter (fun x => decide (f ≤ x.1 ∧ x.1 < t)) [x] = [] := by
      simp only [List.filter_cons, List.filter_nil]
      rw [if_neg (by simpa using h)]
    rw [this, List.append_nil]

theorem win_len (l : List (Int × Int)) (f t : Int) : (win l f t).length ≤ l.length := List.length_filter_le _ _

/-- buckets tell all -/
theorem inB_up {st : Int} (hst : st = 10 ∨ st = 60) (a b : Int) : ∀ l : List (Int × Int), l.length ≤ 1000000 → inB (up l st) (a * st) (b * st) = of (win l (a * st) (b * st)) := by
  refine snoc_ind (fun _ => rfl) ?_
  intro l x ih h
  simp at h
  have hw := win_len l (a * st) (b * st)
  rw [up_snoc, inB_put (up_fit st l (by omega)) _ (by simp [one]) (by simp [one]; omega), win_snoc, ih (by omega)]
  have e : (a * st ≤ beg x.1 st ∧ beg x.1 st < b * st) ↔ (a * st ≤ x.1 ∧ x.1 < b * st) := by
    unfold beg
    rcases hst with rfl | rfl <;> omega
  by_cases hc : a * st ≤ x.1 ∧ x.1 < b * st
  · rw [if_pos (e.2 hc), if_pos hc, of_snoc _ _ (by omega)]
  · rw [if_neg (fun h => hc (e.1 h)), if_neg hc]

end Grain
