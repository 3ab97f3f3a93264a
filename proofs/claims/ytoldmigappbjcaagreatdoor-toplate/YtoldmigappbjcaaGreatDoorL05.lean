import Derived.Laws.Strings
import Derived.Laws.StructEq
import Derived.Test.YtoldmigappbjcaaGreatDoorL02
import Derived.Test.YtoldmigappbjcaaGreatDoorL03
import Derived.Test.YtoldmigappbjcaaGreatDoorL04
namespace Go.GrainU
open Go.RowKit
def lcells : List (ByteArray × ByteArray) → List Value
 | [] => []
 | s :: r => .string s.1 :: .string s.2 :: lcells r
def lk (l : List (ByteArray × ByteArray)) (k : Nat) : ByteArray := (l.getD k (⟨#[]⟩, ⟨#[]⟩)).1
def lv (l : List (ByteArray × ByteArray)) (k : Nat) : ByteArray := (l.getD k (⟨#[]⟩, ⟨#[]⟩)).2
theorem lcells_length (l : List (ByteArray × ByteArray)) : (lcells l).length = l.length * 2 := by
 induction l with
 | nil => rfl
 | cons s r ih => simp only [lcells, List.length_cons, ih]; omega
theorem lcells_at (l : List (ByteArray × ByteArray)) : ∀ k, k < l.length → (lcells l)[k * 2]? = some (.string (lk l k)) ∧ (lcells l)[k * 2 + 1]? = some (.string (lv l k)) := by
 induction l with
 | nil => intro k hk; simp at hk
 | cons s r ih =>
  intro k hk
  match k with
  | 0 => simp [lcells, lk, lv]
  | k + 1 =>
   have := ih k (by simpa using hk)
   rw [show (k + 1) * 2 = k * 2 + 1 + 1 from by omega]
   simpa [lcells, lk, lv] using this
theorem lcells_append (a b : List (ByteArray × ByteArray)) : lcells (a ++ b) = lcells a ++ lcells b := by
 induction a with
 | nil => rfl
 | cons x r ih => simp [lcells, ih]
theorem seg_label {w : World} {ao : Option Addr} {l : List (ByteArray × ByteArray)} (h : Seg w ao (lcells l)) {k : Nat} (hk : k < l.length) :
  ∃ b off, ao = some ⟨b, off, none⟩ ∧ b < w.heap.size ∧ ∀ j, j < l.length → w.cell? ⟨b, off + j * 2, none⟩ = some (.string (lk l j)) ∧ w.cell? ⟨b, off + j * 2 + 1, none⟩ = some (.string (lv l j)) := by
 have hs := lcells_length l
 rcases h with h | ⟨b, off, rfl, h⟩
 ·rw [h] at hs; simp at hs; omega
 ·have hc : ∀ j, j < l.length → w.cell? ⟨b, off + j * 2, none⟩ = some (.string (lk l j)) ∧ w.cell? ⟨b, off + j * 2 + 1, none⟩ = some (.string (lv l j)) := fun j hj => by
   have := lcells_at l j hj
   exact ⟨(h (j * 2) (by omega)).trans this.1, by rw [Nat.add_assoc]; exact (h (j * 2 + 1) (by omega)).trans this.2⟩
  exact ⟨b, off, rfl, World.block_lt_of_cell? w ⟨b, off + k * 2, none⟩ (hc k hk).1, hc⟩
theorem take_lab {l : List (ByteArray × ByteArray)} {k : Nat} (h : k < l.length) : l.take (k + 1) = l.take k ++ [(lk l k, lv l k)] := by
 rw [List.take_add_one, List.getElem?_eq_getElem h]
 simp only [lk, lv, List.getD, List.getElem?_eq_getElem h, Option.getD_some, Option.toList_some]
theorem toList_inj {a b : ByteArray} (h : a.toList = b.toList) : a = b := by
 rw [ByteArray.toList_eq, ByteArray.toList_eq] at h
 cases a
 cases b
 simp at h
 rw [h]
theorem word_eq (a b : ByteArray) : (a.toList == b.toList) = decide (a = b) := by
 rw [Bool.eq_iff_iff]
 simp only [beq_iff_eq, decide_eq_true_eq]
 exact ⟨toList_inj, fun h => by rw [h]⟩
theorem word_ne {a b : ByteArray} (h : a ≠ b) : (a == b) = false ∧ (a.toList == b.toList) = false := by
 have h1 : (a.toList == b.toList) = false := by rw [word_eq]; simpa using h
 exact ⟨by rw [Go.beq_toListBytes]; exact h1, h1⟩
theorem word_self (a : ByteArray) : (a == a) = true ∧ (a.toList == a.toList) = true := by
 have h1 : (a.toList == a.toList) = true := by simp
 exact ⟨by rw [Go.beq_toListBytes]; exact h1, h1⟩
open Go.RowKit
def wle (a b : ByteArray) : Bool := Op.bytesLess a.toList b.toList || a.toList == b.toList
def badS (l : List (ByteArray × ByteArray)) (k : Nat) : Int :=
 if (Grain.named (lk l k) && Grain.named (lv l k)) = false then 7 else if 0 < k ∧ wle (lk l k) (lk l (k - 1)) = true then 2 else 0
def wrongSF (l : List (ByteArray × ByteArray)) : Nat → Nat → Int
 | 0, _ => 0
 | n + 1, k => if badS l k = 0 then wrongSF l n (k + 1) else badS l k
def wrongS (l : List (ByteArray × ByteArray)) : Int := if 4 < l.length then 5 else wrongSF l l.length 0
theorem wrongSF_ok {l : List (ByteArray × ByteArray)} {n k : Nat} (h : badS l k = 0) : wrongSF l (n + 1) k = wrongSF l n (k + 1) := by simp [wrongSF, h]
theorem wrongSF_no {l : List (ByteArray × ByteArray)} {n k : Nat} (h : badS l k ≠ 0) : wrongSF l (n + 1) k = badS l k := by simp [wrongSF, h]
def Fits (l : List (ByteArray × ByteArray)) : Prop := ∀ k, k < l.length → (lk l k).size ≤ 9223372036854775807 ∧ (lv l k).size ≤ 9223372036854775807
open Go.RowKit
structure Mt where
 kind : Int
 key : ByteArray
 val : ByteArray
def mcells : List Mt → List Value
 | [] => []
 | x :: r => .int .i64 x.kind :: .string x.key :: .string x.val :: mcells r
def mt (l : List Mt) (k : Nat) : Mt := l.getD k ⟨0, ⟨#[]⟩, ⟨#[]⟩⟩
theorem mcells_length (l : List Mt) : (mcells l).length = l.length * 3 := by
 induction l with
 | nil => rfl
 | cons s r ih => simp only [mcells, List.length_cons, ih]; omega
theorem mcells_at (l : List Mt) : ∀ k, k < l.length → (mcells l)[k * 3]? = some (.int .i64 (mt l k).kind) ∧ (mcells l)[k * 3 + 1]? = some (.string (mt l k).key) ∧ (mcells l)[k * 3 + 2]? = some (.string (mt l k).val) := by
 induction l with
 | nil => intro k hk; simp at hk
 | cons s r ih =>
  intro k hk
  match k with
  | 0 => simp [mcells, mt]
  | k + 1 =>
   have := ih k (by simpa using hk)
   rw [show (k + 1) * 3 = k * 3 + 1 + 1 + 1 from by omega]
   simpa [mcells, mt] using this
theorem seg_match {w : World} {ao : Option Addr} {l : List Mt} (h : Seg w ao (mcells l)) {k : Nat} (hk : k < l.length) :
  ∃ b off, ao = some ⟨b, off, none⟩ ∧ b < w.heap.size ∧ ∀ j, j < l.length → w.cell? ⟨b, off + j * 3, none⟩ = some (.int .i64 (mt l j).kind) ∧ w.cell? ⟨b, off + j * 3 + 1, none⟩ = some (.string (mt l j).key) ∧ w.cell? ⟨b, off + j * 3 + 2, none⟩ = some (.string (mt l j).val) := by
 have hs := mcells_length l
 rcases h with h | ⟨b, off, rfl, h⟩
 ·rw [h] at hs; simp at hs; omega
 ·have hc : ∀ j, j < l.length → w.cell? ⟨b, off + j * 3, none⟩ = some (.int .i64 (mt l j).kind) ∧ w.cell? ⟨b, off + j * 3 + 1, none⟩ = some (.string (mt l j).key) ∧ w.cell? ⟨b, off + j * 3 + 2, none⟩ = some (.string (mt l j).val) := fun j hj => by
   have := mcells_at l j hj
   exact ⟨(h (j * 3) (by omega)).trans this.1, by rw [Nat.add_assoc]; exact (h (j * 3 + 1) (by omega)).trans this.2.1, by rw [Nat.add_assoc]; exact (h (j * 3 + 2) (by omega)).trans this.2.2⟩
  exact ⟨b, off, rfl, World.block_lt_of_cell? w ⟨b, off + k * 3, none⟩ (hc k hk).1, hc⟩
theorem take_mt {l : List Mt} {k : Nat} (h : k < l.length) : l.take (k + 1) = l.take k ++ [mt l k] := by
 rw [List.take_add_one, List.getElem?_eq_getElem h]
 simp [mt, List.getD, List.getElem?_eq_getElem h]
def find : List (ByteArray × ByteArray) → ByteArray → Option ByteArray
 | [], _ => none
 | x :: r, k => if x.1 = k then some x.2 else find r k
theorem find_drop {l : List (ByteArray × ByteArray)} {j : Nat} (h : j < l.length) (key : ByteArray) : find (l.drop j) key = if lk l j = key then some (lv l j) else find (l.drop (j + 1)) key := by
 rw [List.drop_eq_getElem_cons h, find]
 simp [lk, lv, List.getD, List.getElem?_eq_getElem h]
def sayM (f : Option ByteArray) (x : Mt) : Bool :=
 if x.kind = 1 then decide (f = some x.val) else if x.kind = 2 then !decide (f = some x.val) else if x.kind = 3 then f.isSome else if x.kind = 4 then f.isNone else false
def says (s : List (ByteArray × ByteArray)) (l : List Mt) : Bool := l.all fun x => sayM (find s x.key) x
theorem says_take {s : List (ByteArray × ByteArray)} {l : List Mt} {k : Nat} (h : k < l.length) : says s (l.take (k + 1)) = (says s (l.take k) && sayM (find s (mt l k).key) (mt l k)) := by
 rw [take_mt h]
 simp [says]
theorem says_no {s : List (ByteArray × ByteArray)} {l : List Mt} {k : Nat} (h : k < l.length) (h' : sayM (find s (mt l k).key) (mt l k) = false) : says s l = false := by
 unfold says
 rw [List.all_eq_false]
 exact ⟨mt l k, by simp [mt, List.getD, List.getElem?_eq_getElem h], by simpa using h'⟩
open Go.RowKit
structure Hd where
 kind : Int
 n : Int
 range : Int
 word : ByteArray
 ms : List Mt
 bs : List ByteArray
structure Sp where
 ma : Option Addr
 mc : Nat
 ba : Option Addr
 bc : Nat
 ka : Option Addr
 kc : Nat
inductive ET where
 | node (h : Hd) (s : Sp) (kids : List ET) : ET
inductive Ex where
 | mk (h : Hd) (kids : List Ex) : Ex
theorem ET.ind {P : ET → Prop} (hyp : ∀ h s kids, (∀ k ∈ kids, P k) → P (.node h s kids)) : ∀ t, P t :=
 fun t => ET.rec (motive_1 := P) (motive_2 := fun l => ∀ k ∈ l, P k) (fun h s kids ih => hyp h s kids ih) (fun k hk => by cases hk)
  (fun a l ha hl k hk => by
   rcases List.mem_cons.1 hk with e | e
   ·rw [e]; exact ha
   ·exact hl k e) t
theorem Ex.ind {P : Ex → Prop} (hyp : ∀ h kids, (∀ k ∈ kids, P k) → P (.mk h kids)) : ∀ t, P t :=
 fun t => Ex.rec (motive_1 := P) (motive_2 := fun l => ∀ k ∈ l, P k) (fun h kids ih => hyp h kids ih) (fun k hk => by cases hk)
  (fun a l ha hl k hk => by
   rcases List.mem_cons.1 hk with e | e
   ·rw [e]; exact ha
   ·exact hl k e) t
def ET.hd : ET → Hd | .node h _ _ => h
def ET.sp : ET → Sp | .node _ s _ => s
def ET.kids : ET → List ET | .node _ _ k => k
def Ex.hd : Ex → Hd | .mk h _ => h
mutual
def ET.ex : ET → Ex
 | .node h _ kids => .mk h (exL kids)
def exL : List ET → List Ex
 | [] => []
 | k :: r => k.ex :: exL r
end
theorem exL_map (l : List ET) : exL l = l.map ET.ex := by
 induction l with
 | nil => rfl
 | cons k r ih => simp [exL, ih]
theorem exL_length (l : List ET) : (exL l).length = l.length := by rw [exL_map]; simp
def ecell (t : ET) : List Value :=
 [.int .i64 t.hd.kind, .int .i64 t.hd.n, .int .i64 t.hd.range, .string t.hd.word, .slice t.sp.ma t.hd.ms.length t.sp.mc, .slice t.sp.ba t.hd.bs.length t.sp.bc, .slice t.sp.ka t.kids.length t.sp.kc]
def ecells : List ET → List Value
 | [] => []
 | t :: r => ecell t ++ ecells r
def eval (t : ET) : Value :=
 .agg #[.int .i64 t.hd.kind, .int .i64 t.hd.n, .int .i64 t.hd.range, .string t.hd.word, .slice t.sp.ma t.hd.ms.length t.sp.mc, .slice t.sp.ba t.hd.bs.length t.sp.bc, .slice t.sp.ka t.kids.length t.sp.kc]
mutual
def ET.In (w : World) : ET → Prop
 | .node h s kids => (Seg w s.ma (mcells h.ms) ∧ Seg w s.ba (wcells h.bs) ∧ Seg w s.ka (ecells kids)) ∧ (h.ms.length ≤ 9223372036854775806 ∧ h.bs.length ≤ 9223372036854775806 ∧ kids.length ≤ 9223372036854775806 ∧ h.word.size ≤ 9223372036854775806 ∧ (∀ m ∈ h.ms, m.key.size ≤ 9223372036854775807 ∧ m.val.size ≤ 9223372036854775807) ∧ (∀ b ∈ h.bs, b.size ≤ 9223372036854775807) ∧ h.bs.length ≤ s.bc ∧ ∀ m ∈ h.ms, m.key.size ≤ 140737488355328 ∧ m.val.size ≤ 140737488355328) ∧ InL w kids
def InL (w : World) : List ET → Prop
 | [] => True
 | k :: r => k.In w ∧ InL w r
end
theorem inL_mem {w : World} {l : List ET} (h : InL w l) : ∀ k ∈ l, k.In w := by
 induction l with
 | nil => intro k hk; cases hk
 | cons a r ih =>
  simp only [InL] at h
  intro k hk
  rcases List.mem_cons.1 hk with e | e
  ·rw [e]; exact h.1
  ·exact ih h.2 k e
theorem inL_of {w : World} {l : List ET} (h : ∀ k ∈ l, k.In w) : InL w l := by
 induction l with
 | nil => simp [InL]
 | cons a r ih =>
  simp only [InL]
  exact ⟨h a (by simp), ih fun k hk => h k (by simp [hk])⟩
theorem ET.In.below {w w' : World} (hb : Below w.heap.size w w') : ∀ t : ET, t.In w → t.In w' := by
 refine ET.ind ?_
 intro h s kids ih hin
 simp only [ET.In] at hin ⊢
 obtain ⟨⟨a, b, c⟩, d, e⟩ := hin
 exact ⟨⟨a.below hb, b.below hb, c.below hb⟩, d, inL_of fun k hk => ih k hk (inL_mem e k hk)⟩
theorem InL.below {w w' : World} (hb : Below w.heap.size w w') {l : List ET} (h : InL w l) : InL w' l :=
 inL_of fun k hk => ET.In.below hb k (inL_mem h k hk)
theorem ecells_length (l : List ET) : (ecells l).length = l.length * 7 := by
 induction l with
 | nil => rfl
 | cons s r ih => simp only [ecells, List.length_append, ih, ecell, List.length_cons, List.length_nil]; omega
instance : Inhabited ET := ⟨.node ⟨0, 0, 0, ⟨#[]⟩, [], []⟩ ⟨none, 0, none, 0, none, 0⟩ []⟩
instance : Inhabited Ex := ⟨.mk ⟨0, 0, 0, ⟨#[]⟩, [], []⟩ []⟩
theorem ecells_at (l : List ET) : ∀ k, (hk : k < l.length) → ∀ q, q < 7 → (ecells l)[k * 7 + q]? = (ecell (l[k]))[q]? := by
 induction l with
 | nil => intro k hk; simp at hk
 | cons s r ih =>
  intro k hk q hq
  match k, hk with
  | 0, _ =>
   simp only [ecells, List.getElem_cons_zero]
   rw [List.getElem?_append_left (by simp [ecell]; omega)]
   simp
  | k + 1, hk =>
   have := ih k (by simpa using hk) q hq
   simp only [ecells, List.getElem_cons_succ]
   rw [List.getElem?_append_right (by simp [ecell]; omega), ← this]
   congr 1
   simp [ecell]; omega
def Cells7 (w : World) (b o : Nat) (t : ET) : Prop :=
 w.cell? ⟨b, o, none⟩ = some (.int .i64 t.hd.kind) ∧ w.cell? ⟨b, o + 1, none⟩ = some (.int .i64 t.hd.n) ∧ w.cell? ⟨b, o + 2, none⟩ = some (.int .i64 t.hd.range) ∧ w.cell? ⟨b, o + 3, none⟩ = some (.string t.hd.word) ∧ w.cell? ⟨b, o + 4, none⟩ = some (.slice t.sp.ma t.hd.ms.length t.sp.mc) ∧ w.cell? ⟨b, o + 5, none⟩ = some (.slice t.sp.ba t.hd.bs.length t.sp.bc) ∧ w.cell? ⟨b, o + 6, none⟩ = some (.slice t.sp.ka t.kids.length t.sp.kc)
theorem seg_expr {w : World} {ao : Option Addr} {l : List ET} (h : Seg w ao (ecells l)) {k : Nat} (hk : k < l.length) :
  ∃ b off, ao = some ⟨b, off, none⟩ ∧ b < w.heap.size ∧ ∀ j, (hj : j < l.length) → Cells7 w b (off + j * 7) l[j] := by
 have hs := ecells_length l
 rcases h with h | ⟨b, off, rfl, h⟩
 ·rw [h] at hs; simp at hs; omega
 ·have hc : ∀ j, (hj : j < l.length) → Cells7 w b (off + j * 7) l[j] := fun j hj => by
   have g : ∀ q, q < 7 → w.cell? ⟨b, off + j * 7 + q, none⟩ = (ecell l[j])[q]? := fun q hq => by
    rw [Nat.add_assoc]; exact (h (j * 7 + q) (by omega)).trans (ecells_at l j hj q hq)
   exact ⟨g 0 (by omega), g 1 (by omega), g 2 (by omega), g 3 (by omega), g 4 (by omega), g 5 (by omega), g 6 (by omega)⟩
  exact ⟨b, off, rfl, World.block_lt_of_cell? w ⟨b, off + k * 7, none⟩ (hc k hk).1, hc⟩
/-! what is wrong -/
def lit (l : List UInt8) : ByteArray := ⟨l.toArray⟩
def words8 : List ByteArray := [lit [97, 118, 103], lit [99, 111, 117, 110, 116], lit [102, 105, 114, 115, 116], lit [108, 97, 115, 116], lit [109, 97, 120], lit [109, 105, 110], lit [114, 105, 115, 101], lit [115, 117, 109]]
def totals4 : List ByteArray := [lit [99, 111, 117, 110, 116], lit [109, 97, 120], lit [109, 105, 110], lit [115, 117, 109]]
def signs3 : List ByteArray := [lit [43], lit [45], lit [42]]
def mBad (m : Mt) : Int := if m.kind < 1 ∨ 4 < m.kind then 1 else if (Grain.named m.key && (decide (2 < m.kind) || Grain.named m.val)) = true then 0 else 7
def msBad : List Mt → Int
 | [] => 0
 | m :: r => if mBad m = 0 then msBad r else mBad m
def winBad (h : Hd) : Int := if has words8 h.word = false then 7 else if 5 < h.ms.length then 5 else if msBad h.ms = 0 then (if h.range < 1 ∨ 100000 < h.range then 3 else 0) else msBad h.ms
def allBad (h : Hd) : Int := if has totals4 h.word = false then 7 else if 4 < h.bs.length then 5 else if h.bs.all Grain.named = true then 0 else 7
def alone (h : Hd) (k : Nat) : Int :=
 if h.kind = 1 then (if k = 0 then (if h.n < 0 ∨ 1000000 < h.n then 3 else 0) else 5)
 else if h.kind = 2 then (if k = 0 then winBad h else 5)
 else if h.kind = 3 then (if k = 1 then allBad h else 5)
 else if h.kind = 4 then (if k = 2 then (if has signs3 h.word = true then 0 else 7) else 5)
 else 1
mutual
def wr : Ex → Int → Int → Int × Int
 | .mk h kids, d, n => if 100 < n + 1 ∨ 20 < d then (4, n + 1) else if alone h kids.length = 0 then wrL kids (d + 1) (n + 1) else (alone h kids.length, n + 1)
def wrL : List Ex → Int → Int → Int × Int
 | [], _, n => (0, n)
 | k :: r, d, n => if (wr k d n).1 = 0 then wrL r d (wr k d n).2 else wr k d n
end
mutual
def vec : Ex → Bool
 | .mk h kids => decide (h.kind = 2) || decide (h.kind = 3) || vecL kids
def vecL : List Ex → Bool
 | [] => false
 | k :: r => vec k || vecL r
end
mutual
def typ : Ex → Int
 | .mk h kids => if h.kind = 3 ∧ kids.length = 1 ∧ vecL kids = false then 8 else typL kids
def typL : List Ex → Int
 | [] => 0
 | k :: r => if typ k = 0 then typL r else typ k
end
mutual
def cnt : Ex → Nat
 | .mk _ kids => cntL kids + 1
def cntL : List Ex → Nat
 | [] => 0
 | k :: r => cnt k + cntL r
end
inductive Rt : Ex → Prop where
 | mk (h : Hd) (kids : List Ex) (ha : alone h kids.length = 0) (hk : ∀ k ∈ kids, Rt k) : Rt (.mk h kids)
end Go.GrainU
