/-
  Expressions' texts. No program is named here.
-/
import Derived.Test.YthohkokhimdamaaExM
import Derived.Lib.ItoaNum
import Derived.Lib.ItoaLen
import Derived.Lib.Join
namespace Go.GrainU
open Go.RowKit

def itoaB (n : Int) : ByteArray := ⟨(Go.Lib.itoa n).toArray⟩

/-- a match as text -/
def mtx (m : Mt) : ByteArray := if m.kind = 1 then m.key ++ lit [61] ++ m.val else if m.kind = 2 then m.key ++ lit [33, 61] ++ m.val else if m.kind = 4 then lit [33] ++ m.key else m.key

/-- a comma ahead of each -/
def commas : List ByteArray → ByteArray
  | [] => lit []
  | x :: r => lit [44] ++ x ++ commas r

/-- commas between -/
def jn : List ByteArray → ByteArray
  | [] => lit []
  | x :: r => x ++ commas r

/-- by keys -/
def byt (l : List ByteArray) : ByteArray := if l.length = 0 then lit [] else lit [32, 98, 121, 32] ++ jn l

/-- how close it holds: 0 + and -, 1 *, 2 all else -/
def rk (h : Hd) : Int := if h.kind = 4 then (if h.word = lit [42] then 1 else 0) else 2

/-- brackets, where it doesn't hold so close -/
def wi (least : Int) (p : Int × ByteArray) : ByteArray := if p.1 < least then lit [40] ++ p.2 ++ lit [41] else p.2

def at2 (l : List (Int × ByteArray)) (k : Nat) : Int × ByteArray := l.getD k (0, lit [])

/-- a text of its kids' texts -/
def bodyT (h : Hd) (l : List (Int × ByteArray)) : ByteArray :=
  if h.kind = 1 then itoaB h.n
  else if h.kind = 2 then h.word ++ lit [40, 123] ++ jn (h.ms.map mtx) ++ lit [125, 91] ++ itoaB h.range ++ lit [93, 41]
  else if h.kind = 3 then lit [97, 108, 108, 32] ++ h.word ++ byt h.bs ++ lit [32, 40] ++ (at2 l 0).2 ++ lit [41]
  else wi (rk h) (at2 l 0) ++ lit [32] ++ h.word ++ lit [32] ++ wi (rk h + 1) (at2 l 1)

mutual
/-- an expression as text -/
def tx : Ex → ByteArray
  | .mk h kids => bodyT h (txL kids)
def txL : List Ex → List (Int × ByteArray)
  | [] => []
  | k :: r => (rk k.hd, tx k) :: txL r
end

theorem txL_map (l : List Ex) : txL l = l.map fun k => (rk k.hd, tx k) := by
  induction l with
  | nil => rfl
  | cons k r ih => simp [txL, ih]

theorem at2_tx {l : List Ex} {k : Nat} (h : k < l.length) : at2 (txL l) k = (rk (l[k]).hd, tx l[k]) := by
  simp [at2, txL_map, List.getD, h]

theorem lit_nil_append (s : ByteArray) : lit [] ++ s = s := by
  apply ByteArray.ext
  simp [lit, ByteArray.data_append]

theorem append_lit_nil (s : ByteArray) : s ++ lit [] = s := by
  apply ByteArray.ext
  simp [lit, ByteArray.data_append]

theorem commas_snoc (l : List ByteArray) (x : ByteArray) : commas (l ++ [x]) = commas l ++ lit [44] ++ x := by
  induction l with
  | nil => simp [commas, append_lit_nil, lit_nil_append]
  | cons a r ih => simp [commas, ih, ByteArray.append_assoc]

theorem jn_snoc {l : List ByteArray} (h : l ≠ []) (x : ByteArray) : jn (l ++ [x]) = jn l ++ lit [44] ++ x := by
  cases l with
  | nil => exact absurd rfl h
  | cons a r => simp [jn, commas_snoc, ByteArray.append_assoc]

theorem commas_data (l : List ByteArray) : (commas l).data.toList = Go.Lib.joinTail [44] (l.map (·.data.toList)) := by
  induction l with
  | nil => simp [commas, Go.Lib.joinTail, lit]
  | cons a r ih => simp [commas, Go.Lib.joinTail, lit, ByteArray.data_append] at ih ⊢; exact ih

theorem jn_join (l : List ByteArray) : jn l = ⟨(Go.Lib.join (l.map (·.data.toList)) [44]).toArray⟩ := by
  apply ByteArray.ext
  apply Array.toList_inj.1
  cases l with
  | nil => simp [jn, lit, Go.Lib.join_nil]
  | cons a r =>
    rw [List.map_cons, Go.Lib.join_cons]
    simp [jn, ByteArray.data_append, commas_data]

theorem jn_size_join (l : List ByteArray) : (Go.Lib.join (l.map (·.data.toList)) [44]).length = (jn l).size := by
  rw [jn_join]; simp [ByteArray.size]

theorem lit_size (l : List UInt8) : (lit l).size = l.length := by simp [lit, ByteArray.size]
theorem app_size (a b : ByteArray) : (a ++ b).size = a.size + b.size := ByteArray.size_append

theorem commas_size {l : List ByteArray} {c : Nat} (h : ∀ x ∈ l, x.size ≤ c) : (commas l).size ≤ l.length * (c + 1) := by
  induction l with
  | nil => simp [commas, lit_size]
  | cons a r ih =>
    have h1 := h a (by simp)
    have h2 := ih fun x hx => h x (by simp [hx])
    simp only [commas, app_size, lit_size, List.length_cons, List.length_nil, Nat.add_mul]
    omega

theorem jn_size {l : List ByteArray} {c : Nat} (h : ∀ x ∈ l, x.size ≤ c) : (jn l).size ≤ l.length * (c + 1) := by
  cases l with
  | nil => simp [jn, lit_size]
  | cons a r =>
    have h1 := h a (by simp)
    have h2 := commas_size (l := r) (c := c) fun x hx => h x (List.mem_cons_of_mem _ hx)
    simp only [jn, app_size, List.length_cons, Nat.add_mul]
    omega

theorem has_mem {l : List ByteArray} {x : ByteArray} (h : has l x = true) : x ∈ l := by
  unfold has at h
  rw [List.any_eq_true] at h
  obtain ⟨y, hy, e⟩ := h
  have := of_decide_eq_true e
  rw [← this]; exact hy

theorem words_size {x : ByteArray} (h : has words8 x = true) : x.size ≤ 5 := by
  have := has_mem h
  simp only [words8, List.mem_cons, List.not_mem_nil, or_false] at this
  rcases this with e | e | e | e | e | e | e | e <;> (rw [e, lit_size]; decide)

theorem totals_size {x : ByteArray} (h : has totals4 x = true) : x.size ≤ 5 := by
  have := has_mem h
  simp only [totals4, List.mem_cons, List.not_mem_nil, or_false] at this
  rcases this with e | e | e | e <;> (rw [e, lit_size]; decide)

theorem signs_size {x : ByteArray} (h : has signs3 x = true) : x.size ≤ 1 := by
  have := has_mem h
  simp only [signs3, List.mem_cons, List.not_mem_nil, or_false] at this
  rcases this with e | e | e <;> (rw [e, lit_size]; decide)

theorem named_size {x : ByteArray} (h : Grain.named x = true) : x.size ≤ 12 := by
  unfold Grain.named at h
  simp at h
  exact h.2.2

theorem mBad_ok {m : Mt} (h : mBad m = 0) : 1 ≤ m.kind ∧ m.kind ≤ 4 ∧ Grain.named m.key = true ∧ (m.kind ≤ 2 → Grain.named m.val = true) := by
  unfold mBad at h
  split at h
  · omega
  · rename_i h1
    split at h
    · rename_i h2
      simp at h2
      refine ⟨by omega, by omega, h2.1, fun hk => ?_⟩
      rcases h2.2 with e | e
      · omega
      · exact e
    · omega

theorem mtx_size {m : Mt} (h : mBad m = 0) : (mtx m).size ≤ 26 := by
  obtain ⟨h1, h2, h3, h4⟩ := mBad_ok h
  have k := named_size h3
  unfold mtx
  split
  · have := named_size (h4 (by omega)); simp only [app_size, lit_size, List.length_cons, List.length_nil]; omega
  · split
    · have := named_size (h4 (by omega)); simp only [app_size, lit_size, List.length_cons, List.length_nil]; omega
    · split
      · simp only [app_size, lit_size, List.length_cons, List.length_nil]; omega
      · omega

theorem msBad_ok {l : List Mt} (h : msBad l = 0) : ∀ m ∈ l, mBad m = 0 := by
  induction l with
  | nil => intro m hm; cases hm
  | cons a r ih =>
    unfold msBad at h
    split at h
    · rename_i h1
      intro m hm
      rcases List.mem_cons.1 hm with e | e
      · rw [e]; exact h1
      · exact ih h m e
    · rename_i h1; exact absurd h h1

theorem winBad_ok {h : Hd} (k : winBad h = 0) : has words8 h.word = true ∧ h.ms.length ≤ 5 ∧ msBad h.ms = 0 ∧ 1 ≤ h.range ∧ h.range ≤ 100000 := by
  unfold winBad at k
  split at k
  · omega
  · rename_i h1
    split at k
    · omega
    · split at k
      · rename_i h3
        split at k
        · omega
        · exact ⟨by simpa using h1, by omega, h3, by omega, by omega⟩
      · rename_i h3; exact absurd k h3

theorem allBad_ok {h : Hd} (k : allBad h = 0) : has totals4 h.word = true ∧ h.bs.length ≤ 4 ∧ h.bs.all Grain.named = true := by
  unfold allBad at k
  split at k
  · omega
  · rename_i h1
    split at k
    · omega
    · split at k
      · rename_i h3
        exact ⟨by simpa using h1, by omega, h3⟩
      · omega

theorem alone_cases {h : Hd} {k : Nat} (e : alone h k = 0) : (h.kind = 1 ∧ k = 0 ∧ 0 ≤ h.n ∧ h.n ≤ 1000000) ∨ (h.kind = 2 ∧ k = 0 ∧ winBad h = 0) ∨ (h.kind = 3 ∧ k = 1 ∧ allBad h = 0) ∨ (h.kind = 4 ∧ k = 2 ∧ has signs3 h.word = true) := by
  unfold alone at e
  split at e
  · rename_i h1
    split at e
    · split at e
      · omega
      · exact .inl ⟨h1, by assumption, by omega, by omega⟩
    · omega
  · split at e
    · split at e
      · exact .inr (.inl ⟨by assumption, by assumption, e⟩)
      · omega
    · split at e
      · split at e
        · exact .inr (.inr (.inl ⟨by assumption, by assumption, e⟩))
        · omega
      · split at e
        · split at e
          · split at e
            · exact .inr (.inr (.inr ⟨by assumption, by assumption, by assumption⟩))
            · omega
          · omega
        · omega

theorem itoaB_size {n : Int} (h0 : 0 ≤ n) (h1 : n ≤ 1000000) : (itoaB n).size ≤ 21 := by
  have := Go.Lib.itoa_length_le n (by omega) (by omega)
  simpa [itoaB, ByteArray.size] using this

theorem mtexts_size {l : List Mt} (h : msBad l = 0) (hl : l.length ≤ 5) : (jn (l.map mtx)).size ≤ 135 := by
  have := jn_size (l := l.map mtx) (c := 26) fun x hx => by
    obtain ⟨m, hm, rfl⟩ := List.mem_map.1 hx
    exact mtx_size (msBad_ok h m hm)
  simp at this
  omega

theorem byt_size {l : List ByteArray} (h : l.all Grain.named = true) (hl : l.length ≤ 4) : (byt l).size ≤ 56 ∧ (jn l).size ≤ 52 := by
  rw [List.all_eq_true] at h
  have := jn_size (l := l) (c := 12) fun x hx => named_size (h x hx)
  unfold byt
  split
  · simp only [lit_size, List.length_nil]; omega
  · simp only [app_size, lit_size, List.length_cons, List.length_nil]; omega

theorem wi_size (least : Int) (p : Int × ByteArray) : (wi least p).size ≤ p.2.size + 2 := by
  unfold wi
  split
  · simp only [app_size, lit_size, List.length_cons, List.length_nil]; omega
  · omega

theorem Rt.parts {h : Hd} {kids : List Ex} (r : Rt (.mk h kids)) : alone h kids.length = 0 ∧ ∀ k ∈ kids, Rt k := by
  cases r with
  | mk _ _ a b => exact ⟨a, b⟩

theorem tx_size : ∀ x : Ex, Rt x → (tx x).size ≤ 300 * cnt x := by
  refine Ex.ind ?_
  intro h kids ih hr
  obtain ⟨ha, hk⟩ := hr.parts
  simp only [tx, cnt]
  rcases alone_cases ha with ⟨e, k, n0, n1⟩ | ⟨e, k, wb⟩ | ⟨e, k, ab⟩ | ⟨e, k, sg⟩
  · have := itoaB_size n0 n1
    simp only [bodyT, e, if_true]; omega
  · obtain ⟨a1, a2, a3, a4, a5⟩ := winBad_ok wb
    have b1 := words_size a1
    have b2 := mtexts_size a3 a2
    have b3 := itoaB_size (n := h.range) (by omega) (by omega)
    simp only [bodyT, e, show ((2 : Int) = 1) = False from by simp, if_false, if_true, app_size, lit_size, List.length_cons, List.length_nil]; omega
  · obtain ⟨a1, a2, a3⟩ := allBad_ok ab
    have b1 := totals_size a1
    have b2 := (byt_size a3 a2).1
    match kids, k with
    | [x], _ =>
      have b3 := ih x (by simp) (hk x (by simp))
      simp only [bodyT, e, show ((3 : Int) = 1) = False from by simp, show ((3 : Int) = 2) = False from by simp, if_false, if_true, app_size, lit_size, List.length_cons, List.length_nil, at2, txL, List.getD, List.getElem?_cons_zero, Option.getD_some, cntL]; omega
  · have b1 := signs_size sg
    match kids, k with
    | [x, y], _ =>
      have b3 := ih x (by simp) (hk x (by simp))
      have b4 := ih y (by simp) (hk y (by simp))
      have b5 := wi_size (rk h) (rk x.hd, tx x)
      have b6 := wi_size (rk h + 1) (rk y.hd, tx y)
      simp only [bodyT, e, show ((4 : Int) = 1) = False from by simp, show ((4 : Int) = 2) = False from by simp, show ((4 : Int) = 3) = False from by simp, if_false, app_size, lit_size, List.length_cons, List.length_nil, at2, txL, List.getD, List.getElem?_cons_zero, List.getElem?_cons_succ, Option.getD_some, cntL] at b5 b6 ⊢; omega

/-- of what nothing is wrong with each is right, and there are not too many -/
theorem wr_ok : ∀ x : Ex, ∀ d n, 0 ≤ n → (wr x d n).1 = 0 → Rt x ∧ (wr x d n).2 = n + cnt x ∧ n + cnt x ≤ 100 ∧ d ≤ 20 := by
  refine Ex.ind ?_
  intro h kids ih d n hn e
  have hL : ∀ l : List Ex, (∀ k ∈ l, k ∈ kids) → ∀ m, 0 ≤ m → m ≤ 100 → (wrL l (d + 1) m).1 = 0 → (∀ k ∈ l, Rt k) ∧ (wrL l (d + 1) m).2 = m + cntL l ∧ m + cntL l ≤ 100 := by
    intro l
    induction l with
    | nil => intro _ m hm h1 _; exact ⟨fun k hk => by (cases hk), by simp [wrL, cntL], by simp [cntL]; omega⟩
    | cons a r ihr =>
      intro hin m hm h1 e1
      simp only [wrL] at e1 ⊢
      by_cases e2 : (wr a (d + 1) m).1 = 0
      · rw [if_pos e2] at e1 ⊢
        obtain ⟨r1, r2, r3, _⟩ := ih a (hin a (by simp)) (d + 1) m hm e2
        rw [r2] at e1 ⊢
        obtain ⟨s1, s2, s3⟩ := ihr (fun k hk => hin k (by simp [hk])) (m + cnt a) (by omega) r3 e1
        refine ⟨fun k hk => ?_, by rw [s2]; simp only [cntL]; omega, by simp only [cntL]; omega⟩
        rcases List.mem_cons.1 hk with e | e
        · rw [e]; exact r1
        · exact s1 k e
      · rw [if_neg e2] at e1; exact absurd e1 e2
  simp only [wr, cnt] at e ⊢
  by_cases h1 : 100 < n + 1 ∨ 20 < d
  · rw [if_pos h1] at e; simp at e
  · rw [if_neg h1] at e ⊢
    by_cases h2 : alone h kids.length = 0
    · rw [if_pos h2] at e ⊢
      obtain ⟨s1, s2, s3⟩ := hL kids (fun k hk => hk) (n + 1) (by omega) (by omega) e
      exact ⟨.mk h kids h2 s1, by rw [s2]; omega, by omega, by omega⟩
    · rw [if_neg h2] at e; exact absurd e h2

end Go.GrainU
