/-
  Cells that lie behind an address, by an element's own list.
-/
import Derived.Test.YthohkokhimdamaaGreatP04
import Derived.Test.YthohkokhimdamaaGreatP01
/-
  Expressions as trees, and what is wrong with them. No program is named here.
-/
namespace Go.GrainU
open Go.RowKit

/-- what an expression has beside its kids -/
structure Hd where
  kind : Int
  n : Int
  range : Int
  word : ByteArray
  ms : List Mt
  bs : List ByteArray

/-- where its slices lie -/
structure Sp where
  ma : Option Addr
  mc : Nat
  ba : Option Addr
  bc : Nat
  ka : Option Addr
  kc : Nat

/-- an expression in memory -/
inductive ET where
  | node (h : Hd) (s : Sp) (kids : List ET) : ET

/-- an expression -/
inductive Ex where
  | mk (h : Hd) (kids : List Ex) : Ex

theorem ET.ind {P : ET → Prop} (hyp : ∀ h s kids, (∀ k ∈ kids, P k) → P (.node h s kids)) : ∀ t, P t :=
  fun t => ET.rec (motive_1 := P) (motive_2 := fun l => ∀ k ∈ l, P k) (fun h s kids ih => hyp h s kids ih) (fun k hk => by cases hk)
    (fun a l ha hl k hk => by
      rcases List.mem_cons.1 hk with e | e
      · rw [e]; exact ha
      · exact hl k e) t

theorem Ex.ind {P : Ex → Prop} (hyp : ∀ h kids, (∀ k ∈ kids, P k) → P (.mk h kids)) : ∀ t, P t :=
  fun t => Ex.rec (motive_1 := P) (motive_2 := fun l => ∀ k ∈ l, P k) (fun h kids ih => hyp h kids ih) (fun k hk => by cases hk)
    (fun a l ha hl k hk => by
      rcases List.mem_cons.1 hk with e | e
      · rw [e]; exact ha
      · exact hl k e) t

def ET.hd : ET → Hd | .node h _ _ => h
def ET.sp : ET → Sp | .node _ s _ => s
def ET.kids : ET → List ET | .node _ _ k => k
def Ex.hd : Ex → Hd | .mk h _ => h
def Ex.kids : Ex → List Ex | .mk _ k => k

mutual
/-- the expression that lies there -/
def ET.ex : ET → Ex
  | .node h _ kids => .mk h (exL kids)
def exL : List ET → List Ex
  | [] => []
  | k :: r => k.ex :: exL r
end

theorem exL_map (l : List ET) : exL l = l.map ET.ex := by
  induction l with
  | nil => rfl
  | cons k r ih => simp [exL, ih]

theorem exL_length (l : List ET) : (exL l).length = l.length := by rw [exL_map]; simp

/-- an expression's seven cells -/
def ecell (t : ET) : List Value :=
  [.int .i64 t.hd.kind, .int .i64 t.hd.n, .int .i64 t.hd.range, .string t.hd.word, .slice t.sp.ma t.hd.ms.length t.sp.mc, .slice t.sp.ba t.hd.bs.length t.sp.bc, .slice t.sp.ka t.kids.length t.sp.kc]

/-- expressions as cells -/
def ecells : List ET → List Value
  | [] => []
  | t :: r => ecell t ++ ecells r

/-- an expression as a value -/
def eval (t : ET) : Value :=
  .agg #[.int .i64 t.hd.kind, .int .i64 t.hd.n, .int .i64 t.hd.range, .string t.hd.word, .slice t.sp.ma t.hd.ms.length t.sp.mc, .slice t.sp.ba t.hd.bs.length t.sp.bc, .slice t.sp.ka t.kids.length t.sp.kc]

mutual
/-- it lies there, in this world -/
def ET.In (w : World) : ET → Prop
  | .node h s kids => (Seg w s.ma (mcells h.ms) ∧ Seg w s.ba (wcells h.bs) ∧ Seg w s.ka (ecells kids)) ∧ (h.ms.length ≤ 9223372036854775806 ∧ h.bs.length ≤ 9223372036854775806 ∧ kids.length ≤ 9223372036854775806 ∧ h.word.size ≤ 9223372036854775806 ∧ (∀ m ∈ h.ms, m.key.size ≤ 9223372036854775807 ∧ m.val.size ≤ 9223372036854775807) ∧ (∀ b ∈ h.bs, b.size ≤ 9223372036854775807) ∧ h.bs.length ≤ s.bc ∧ ∀ m ∈ h.ms, m.key.size ≤ 140737488355328 ∧ m.val.size ≤ 140737488355328) ∧ InL w kids
def InL (w : World) : List ET → Prop
  | [] => True
  | k :: r => k.In w ∧ InL w r
end

theorem inL_mem {w : World} {l : List ET} (h : InL w l) : ∀ k ∈ l, k.In w := by
  induction l with
  | nil => intro k hk; cases hk
  | cons a r ih =>
    simp only [InL] at h
    intro k hk
    rcases List.mem_cons.1 hk with e | e
    · rw [e]; exact h.1
    · exact ih h.2 k e

theorem inL_of {w : World} {l : List ET} (h : ∀ k ∈ l, k.In w) : InL w l := by
  induction l with
  | nil => simp [InL]
  | cons a r ih =>
    simp only [InL]
    exact ⟨h a (by simp), ih fun k hk => h k (by simp [hk])⟩

theorem ET.In.below {w w' : World} (hb : Below w.heap.size w w') : ∀ t : ET, t.In w → t.In w' := by
  refine ET.ind ?_
  intro h s kids ih hin
  simp only [ET.In] at hin ⊢
  obtain ⟨⟨a, b, c⟩, d, e⟩ := hin
  exact ⟨⟨a.below hb, b.below hb, c.below hb⟩, d, inL_of fun k hk => ih k hk (inL_mem e k hk)⟩

theorem InL.below {w w' : World} (hb : Below w.heap.size w w') {l : List ET} (h : InL w l) : InL w' l :=
  inL_of fun k hk => ET.In.below hb k (inL_mem h k hk)

theorem ecells_length (l : List ET) : (ecells l).length = l.length * 7 := by
  induction l with
  | nil => rfl
  | cons s r ih => simp only [ecells, List.length_append, ih, ecell, List.length_cons, List.length_nil]; omega

instance : Inhabited ET := ⟨.node ⟨0, 0, 0, ⟨#[]⟩, [], []⟩ ⟨none, 0, none, 0, none, 0⟩ []⟩
instance : Inhabited Ex := ⟨.mk ⟨0, 0, 0, ⟨#[]⟩, [], []⟩ []⟩

theorem ecells_at (l : List ET) : ∀ k, (hk : k < l.length) → ∀ q, q < 7 → (ecells l)[k * 7 + q]? = (ecell (l[k]))[q]? := by
  induction l with
  | nil => intro k hk; simp at hk
  | cons s r ih =>
    intro k hk q hq
    match k, hk with
    | 0, _ =>
      simp only [ecells, List.getElem_cons_zero]
      rw [List.getElem?_append_left (by simp [ecell]; omega)]
      simp
    | k + 1, hk =>
      have := ih k (by simpa using hk) q hq
      simp only [ecells, List.getElem_cons_succ]
      rw [List.getElem?_append_right (by simp [ecell]; omega), ← this]
      congr 1
      simp [ecell]; omega

/-- seven cells -/
def Cells7 (w : World) (b o : Nat) (t : ET) : Prop :=
  w.cell? ⟨b, o, none⟩ = some (.int .i64 t.hd.kind) ∧ w.cell? ⟨b, o + 1, none⟩ = some (.int .i64 t.hd.n) ∧ w.cell? ⟨b, o + 2, none⟩ = some (.int .i64 t.hd.range) ∧ w.cell? ⟨b, o + 3, none⟩ = some (.string t.hd.word) ∧ w.cell? ⟨b, o + 4, none⟩ = some (.slice t.sp.ma t.hd.ms.length t.sp.mc) ∧ w.cell? ⟨b, o + 5, none⟩ = some (.slice t.sp.ba t.hd.bs.length t.sp.bc) ∧ w.cell? ⟨b, o + 6, none⟩ = some (.slice t.sp.ka t.kids.length t.sp.kc)

theorem seg_expr {w : World} {ao : Option Addr} {l : List ET} (h : Seg w ao (ecells l)) {k : Nat} (hk : k < l.length) :
    ∃ b off, ao = some ⟨b, off, none⟩ ∧ b < w.heap.size ∧ ∀ j, (hj : j < l.length) → Cells7 w b (off + j * 7) l[j] := by
  have hs := ecells_length l
  rcases h with h | ⟨b, off, rfl, h⟩
  · rw [h] at hs; simp at hs; omega
  · have hc : ∀ j, (hj : j < l.length) → Cells7 w b (off + j * 7) l[j] := fun j hj => by
      have g : ∀ q, q < 7 → w.cell? ⟨b, off + j * 7 + q, none⟩ = (ecell l[j])[q]? := fun q hq => by
        rw [Nat.add_assoc]; exact (h (j * 7 + q) (by omega)).trans (ecells_at l j hj q hq)
      exact ⟨g 0 (by omega), g 1 (by omega), g 2 (by omega), g 3 (by omega), g 4 (by omega), g 5 (by omega), g 6 (by omega)⟩
    exact ⟨b, off, rfl, World.block_lt_of_cell? w ⟨b, off + k * 7, none⟩ (hc k hk).1, hc⟩

/-! what is wrong -/

/-- a text of bytes -/
def lit (l : List UInt8) : ByteArray := ⟨l.toArray⟩

def words8 : List ByteArray := [lit [97, 118, 103], lit [99, 111, 117, 110, 116], lit [102, 105, 114, 115, 116], lit [108, 97, 115, 116], lit [109, 97, 120], lit [109, 105, 110], lit [114, 105, 115, 101], lit [115, 117, 109]]
def totals4 : List ByteArray := [lit [99, 111, 117, 110, 116], lit [109, 97, 120], lit [109, 105, 110], lit [115, 117, 109]]
def signs3 : List ByteArray := [lit [43], lit [45], lit [42]]

/-- what is wrong with a match -/
def mBad (m : Mt) : Int := if m.kind < 1 ∨ 4 < m.kind then 1 else if (Grain.named m.key && (decide (2 < m.kind) || Grain.named m.val)) = true then 0 else 7

def msBad : List Mt → Int
  | [] => 0
  | m :: r => if mBad m = 0 then msBad r else mBad m

def winBad (h : Hd) : Int := if has words8 h.word = false then 7 else if 5 < h.ms.length then 5 else if msBad h.ms = 0 then (if h.range < 1 ∨ 100000 < h.range then 3 else 0) else msBad h.ms
def allBad (h : Hd) : Int := if has totals4 h.word = false then 7 else if 4 < h.bs.length then 5 else if h.bs.all Grain.named = true then 0 else 7

/-- what is wrong with an expression of so many kids, whatever these are -/
def alone (h : Hd) (k : Nat) : Int :=
  if h.kind = 1 then (if k = 0 then (if h.n < 0 ∨ 1000000 < h.n then 3 else 0) else 5)
  else if h.kind = 2 then (if k = 0 then winBad h else 5)
  else if h.kind = 3 then (if k = 1 then allBad h else 5)
  else if h.kind = 4 then (if k = 2 then (if has signs3 h.word = true then 0 else 7) else 5)
  else 1

mutual
/-- what is wrong, and how many were looked at -/
def wr : Ex → Int → Int → Int × Int
  | .mk h kids, d, n => if 100 < n + 1 ∨ 20 < d then (4, n + 1) else if alone h kids.length = 0 then wrL kids (d + 1) (n + 1) else (alone h kids.length, n + 1)
def wrL : List Ex → Int → Int → Int × Int
  | [], _, n => (0, n)
  | k :: r, d, n => if (wr k d n).1 = 0 then wrL r d (wr k d n).2 else wr k d n
end

mutual
/-- there is a window, or an all -/
def vec : Ex → Bool
  | .mk h kids => decide (h.kind = 2) || decide (h.kind = 3) || vecL kids
def vecL : List Ex → Bool
  | [] => false
  | k :: r => vec k || vecL r
end

mutual
/-- all of numbers alone: 8 -/
def typ : Ex → Int
  | .mk h kids => if h.kind = 3 ∧ kids.length = 1 ∧ vecL kids = false then 8 else typL kids
def typL : List Ex → Int
  | [] => 0
  | k :: r => if typ k = 0 then typL r else typ k
end

mutual
/-- how many there are -/
def cnt : Ex → Nat
  | .mk _ kids => cntL kids + 1
def cntL : List Ex → Nat
  | [] => 0
  | k :: r => cnt k + cntL r
end

/-- each is right by itself -/
inductive Rt : Ex → Prop where
  | mk (h : Hd) (kids : List Ex) (ha : alone h kids.length = 0) (hk : ∀ k ∈ kids, Rt k) : Rt (.mk h kids)

end Go.GrainU

/-
  Cells that lie behind an address, by an element's own list.
-/
namespace Go.GrainU
open Go.RowKit

/-- cells that lie behind an address, c of them an element, by an element's own list -/
theorem seg_of {α : Type} {W : World} {b off len c : Nat} (hc : 0 < c) (f : Nat → α) (cell : α → List Value) (hcl : ∀ x, (cell x).length = c)
    (h : ∀ i, i < len → ∀ j, j < c → W.cell? ⟨b, off + (i * c + j), none⟩ = (cell (f i))[j]?) : Seg W (some ⟨b, off, none⟩) ((List.range len).flatMap fun i => cell (f i)) := by
  refine .inr ⟨b, off, rfl, fun j hj => ?_⟩
  have hl : ∀ n, ((List.range n).flatMap fun i => cell (f i)).length = n * c := by
    intro n
    induction n with
    | zero => simp
    | succ n ih => rw [List.range_succ, List.flatMap_append, List.length_append, ih]; simp [hcl, Nat.add_mul]
  rw [hl] at hj
  have hat : ∀ n i, i < n → ∀ q, q < c → ((List.range n).flatMap fun i => cell (f i))[i * c + q]? = (cell (f i))[q]? := by
    intro n
    induction n with
    | zero => intro i hi; omega
    | succ n ih =>
      intro i hi q hq
      rw [List.range_succ, List.flatMap_append]
      have hle : (i + 1) * c ≤ (n + 1) * c := Nat.mul_le_mul_right c (by omega)
      rw [Nat.add_mul] at hle
      by_cases e : i < n
      · have h2 : (i + 1) * c ≤ n * c := Nat.mul_le_mul_right c (by omega)
        rw [Nat.add_mul] at h2
        rw [List.getElem?_append_left (by rw [hl]; omega)]
        exact ih i e q hq
      · have e' : i = n := by omega
        subst e'
        rw [List.getElem?_append_right (by rw [hl]; omega), hl, show i * c + q - i * c = q from by omega]
        simp
  have hq : j % c < c := Nat.mod_lt _ hc
  have hd : j / c < len := Nat.div_lt_of_lt_mul (by rw [Nat.mul_comm]; exact hj)
  have hm : j / c * c + j % c = j := by rw [Nat.mul_comm]; exact Nat.div_add_mod j c
  have h1 := hat len (j / c) hd (j % c) hq
  have h2 := h (j / c) hd (j % c) hq
  rw [hm] at h1 h2
  rw [h1, h2]

end Go.GrainU
