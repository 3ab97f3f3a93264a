import Derived.BigQuiet
import Derived.Deep.AppendLies
import Derived.Deep.QuietTactic
import Derived.Handy
import Derived.Laws.AppendOwn
import Derived.Laws.AppendOwnNone
import Derived.Laws.Strings
import Derived.Laws.StructEq
import Derived.WalkKit
import Derived.WalkLawsBesides
import Derived.WalkSmall
import Derived.WalkSpells
namespace Grain
def tm (l : List (Int × Int)) (k : Nat) : Int := (l.getD k (0, 0)).1
def vl (l : List (Int × Int)) (k : Nat) : Int := (l.getD k (0, 0)).2
def inR (t v : Int) : Bool := decide (0 ≤ t ∧ t ≤ 1000000 ∧ -1000000000 ≤ v ∧ v ≤ 1000000000)
def bad (l : List (Int × Int)) (k : Nat) : Int :=
 if inR (tm l k) (vl l k) = false then 3 else if 0 < k ∧ tm l k ≤ tm l (k - 1) then 2 else 0
def wrongF (l : List (Int × Int)) : Nat → Nat → Int × Int
 | 0, _ => (0, 0)
 | n + 1, k => if bad l k = 0 then wrongF l n (k + 1) else (bad l k, k)
def wrong (l : List (Int × Int)) : Int × Int := if 500 < l.length then (5, 0) else wrongF l l.length 0
theorem wrongF_ok {l : List (Int × Int)} {n k : Nat} (h : bad l k = 0) : wrongF l (n + 1) k = wrongF l n (k + 1) := by simp [wrongF, h]
theorem wrongF_no {l : List (Int × Int)} {n k : Nat} (h : bad l k ≠ 0) : wrongF l (n + 1) k = (bad l k, (k : Int)) := by simp [wrongF, h]
structure Right (l : List (Int × Int)) : Prop where
 few : l.length ≤ 500
 rng : ∀ k, k < l.length → 0 ≤ tm l k ∧ tm l k ≤ 1000000 ∧ -1000000000 ≤ vl l k ∧ vl l k ≤ 1000000000
 rise : ∀ k, k + 1 < l.length → tm l k < tm l (k + 1)
theorem bad_zero {l : List (Int × Int)} {k : Nat} (h : bad l k = 0) : inR (tm l k) (vl l k) = true ∧ (0 < k → tm l (k - 1) < tm l k) := by
 unfold bad at h
 split at h
 ·simp at h
 ·rename_i h1
  split at h
  ·simp at h
  ·rename_i h2
   refine ⟨by simpa using h1, fun hk => ?_⟩
   rcases Int.lt_or_le (tm l (k - 1)) (tm l k) with h3 | h3
   ·exact h3
   ·exact absurd ⟨hk, h3⟩ h2
theorem wrongF_zero (l : List (Int × Int)) (n : Nat) : ∀ k, (wrongF l n k).1 = 0 → ∀ j, k ≤ j → j < k + n → bad l j = 0 := by
 induction n with
 | zero => intro k _ j h1 h2; omega
 | succ n ih =>
  intro k h j h1 h2
  by_cases hb : bad l k = 0
  ·rw [wrongF_ok hb] at h
   rcases Nat.lt_or_ge k j with h3 | h3
   ·exact ih (k + 1) h j h3 (by omega)
   ·rw [show j = k from by omega]; exact hb
  ·rw [wrongF_no hb] at h; exact absurd h hb
theorem right_of {l : List (Int × Int)} (h : (wrong l).1 = 0) : Right l := by
 unfold wrong at h
 by_cases h5 : 500 < l.length
 ·simp [h5] at h
 ·simp only [h5, if_false] at h
  have hb : ∀ j, j < l.length → _ := fun j hj => bad_zero (wrongF_zero l l.length 0 h j (Nat.zero_le _) (by omega))
  refine ⟨by omega, fun k hk => ?_, fun k hk => ?_⟩
  ·have := (hb k hk).1; simp [inR] at this; omega
  ·have := (hb (k + 1) hk).2 (by omega); simpa using this
/-! ### numbers read -/
end Grain
namespace Go.GrainU
open Go.RowKit
def Seg (w : World) (ao : Option Addr) (xs : List Value) : Prop :=
 xs = [] ∨ ∃ b off, ao = some ⟨b, off, none⟩ ∧ ∀ j, j < xs.length → w.cell? ⟨b, off + j, none⟩ = xs[j]?
def scells : List (Int × Int) → List Value
 | [] => []
 | s :: r => .int .i64 s.1 :: .int .i64 s.2 :: scells r
theorem scells_length (l : List (Int × Int)) : (scells l).length = l.length * 2 := by
 induction l with
 | nil => rfl
 | cons s r ih => simp only [scells, List.length_cons, ih]; omega
theorem scells_at (l : List (Int × Int)) : ∀ k, k < l.length → (scells l)[k * 2]? = some (.int .i64 (Grain.tm l k)) ∧ (scells l)[k * 2 + 1]? = some (.int .i64 (Grain.vl l k)) := by
 induction l with
 | nil => intro k hk; simp at hk
 | cons s r ih =>
  intro k hk
  match k with
  | 0 => simp [scells, Grain.tm, Grain.vl]
  | k + 1 =>
   have := ih k (by simpa using hk)
   rw [show (k + 1) * 2 = k * 2 + 1 + 1 from by omega]
   simpa [scells, Grain.tm, Grain.vl] using this
theorem Seg.sample {w : World} {ao : Option Addr} {l : List (Int × Int)} (h : Seg w ao (scells l)) {k : Nat} (hk : k < l.length) :
  ∃ b off, ao = some ⟨b, off, none⟩ ∧ ∀ j, j < l.length → w.cell? ⟨b, off + j * 2, none⟩ = some (.int .i64 (Grain.tm l j)) ∧ w.cell? ⟨b, off + j * 2 + 1, none⟩ = some (.int .i64 (Grain.vl l j)) := by
 rcases h with h | ⟨b, off, rfl, h⟩
 ·have := scells_length l; rw [h] at this; simp at this; omega
 ·refine ⟨b, off, rfl, fun j hj => ?_⟩
  have hs := scells_length l
  have hc := scells_at l j hj
  exact ⟨(h (j * 2) (by omega)).trans hc.1, by rw [Nat.add_assoc]; exact (h (j * 2 + 1) (by omega)).trans hc.2⟩
theorem Seg.block_lt {w : World} {b off : Nat} {xs : List Value} (h : ∀ j, j < xs.length → w.cell? ⟨b, off + j, none⟩ = xs[j]?) (hx : xs ≠ []) : b < w.heap.size := by
 match xs, hx with
 | x :: r, _ =>
  have := h 0 (by simp)
  exact World.block_lt_of_cell? w ⟨b, off + 0, none⟩ (u := x) (by simpa using this)
theorem Seg.below {w w' : World} {ao : Option Addr} {xs : List Value} (h : Seg w ao xs) (hb : Below w.heap.size w w') : Seg w' ao xs := by
 rcases h with h | ⟨b, off, rfl, h⟩
 ·exact .inl h
 ·by_cases hx : xs = []
  ·exact .inl hx
  ·have hl := Seg.block_lt h hx
   exact .inr ⟨b, off, rfl, fun j hj => (hb.cell (p := ⟨b, off + j, none⟩) hl).trans (h j hj)⟩
theorem bcell {W w1 : World} (hb : Below W.heap.size W w1) : (∀ b o, b < W.heap.size → w1.cell? ⟨b, o, none⟩ = W.cell? ⟨b, o, none⟩) ∧ (∀ b o, b < W.heap.size → w1.frozen? ⟨b, o, none⟩ = W.frozen? ⟨b, o, none⟩) :=
 ⟨fun b o h => hb.cell (p := ⟨b, o, none⟩) h, fun b o h => hb.frozen (p := ⟨b, o, none⟩) h⟩
theorem hide {p : Prop} (h : p) : Hid p := h
theorem ret_int {k : IntKind} {a b : Int} (h : a = b) : Ending.returned (.int k a) = .returned (.int k b) := by rw [h]
theorem ret_bool {a b : Bool} (h : a = b) : Ending.returned (.bool a) = .returned (.bool b) := by rw [h]
theorem two_cells {w : World} {B : Nat} {x y : Value} {t : TypeId} (h : w.heap[B]? = some (.cells #[x, y] t (0, 0))) :
  w.cell? ⟨B, 0, none⟩ = some x ∧ w.cell? ⟨B, 1, none⟩ = some y ∧ w.frozen? ⟨B, 0, none⟩ = false ∧ w.frozen? ⟨B, 1, none⟩ = false := by
 simp [World.cell?, World.frozen?, h]
theorem grown_trans {a b c : World} {r r' : Option Nat} (h : a.grownBy b r) (h' : b.grownBy c r') (hr : ∀ k, r' = some k → r = some k ∨ a.heap.size ≤ k) : a.grownBy c r :=
  ⟨h'.os.trans h.os, h'.tape.trans h.tape, h'.output.trans h.output, Nat.le_trans h.size h'.size, fun k hk hne =>
    (h'.block k (Nat.lt_of_lt_of_le hk h.size) (fun e => by rcases hr k e.symm with e' | e'; · exact hne e'.symm
                                                            · omega)).trans (h.block k hk hne)⟩
theorem two_set {w : World} {B : Nat} {x y : Value} {t : TypeId} (h : w.heap[B]? = some (.cells #[x, y] t (0, 0))) (p q : Value) :
  ((w.setCell ⟨B, 0, none⟩ p).setCell ⟨B, 1, none⟩ q).heap[B]? = some (.cells #[p, q] t (0, 0)) := by
 simp [World.setCell, Array.getElem?_modify, h]
theorem setCell_far {w : World} {B k o : Nat} {p : Value} (h : k ≠ B) : (w.setCell ⟨B, o, none⟩ p).heap[k]? = w.heap[k]? := Below.heap_setCell w _ p k h
theorem own_block {w : World} {base e size g n cap : Nat} {xs : List Value} (hown : w.ownsRow base e size (.slice (some ⟨g, 0, none⟩) n cap) n xs) : base ≤ g ∧ g < w.heap.size := by
 rcases hown.2 with ⟨h0, _⟩ | ⟨g', cap', cur, h0, hb, hh, _⟩
 ·simp at h0
 ·simp at h0
  rw [h0.1]
  exact ⟨hb, lt_of_block hh⟩
theorem scells_append (a b : List (Int × Int)) : scells (a ++ b) = scells a ++ scells b := by
 induction a with
 | nil => rfl
 | cons x r ih => simp [scells, ih]
theorem own_slen {w : World} {base e N : Nat} {v : Value} {l : List (Int × Int)} (h : w.ownsRow base e 2 v N (scells l)) : N = l.length := by
 have := h.1; rw [scells_length] at this; omega
theorem own_seg {w : World} {base e size g n cap : Nat} {xs : List Value} (h : w.ownsRow base e size (.slice (some ⟨g, 0, none⟩) n cap) n xs) : Seg w (some ⟨g, 0, none⟩) xs := by
 refine .inr ⟨g, 0, rfl, fun j hj => ?_⟩
 rw [Nat.zero_add]
 exact h.cellAt j (by rw [← h.1]; exact hj)
theorem below_block {w w' : World} (hb : Below w.heap.size w w') {k : Nat} {o : Obj} (h : w.heap[k]? = some o) : w'.heap[k]? = some o := by
 rw [hb.block k (lt_of_block h)]; exact h
theorem own_below {w w' : World} {base e size n : Nat} {v : Value} {xs : List Value} (h : w.ownsRow base e size v n xs) (hb : Below w.heap.size w w') : w'.ownsRow base e size v n xs :=
 h.kept (row := none) ⟨hb.os, hb.tape, hb.output, hb.size, fun k hk _ => hb.block k hk⟩ (by
  cases v.ownBlock with
  | none => exact .inl rfl
  | some x => exact .inr (by simp))
theorem news_two {W : World} {B : Nat} (hB : W.heap.size = B) (x y : Value) (t : TypeId) : ∀ j u, [x, y][j]? = some u → (W.alloc (.cells #[x, y] t)).cell? ((⟨B, 0, none⟩ : Addr).add j) = some u := by
 subst hB; exact cell_two_new W x y t
theorem seg_new (w : World) (cs : Array Value) (t : TypeId) : Seg (w.alloc (.cells cs t)) (some ⟨w.heap.size, 0, none⟩) cs.toList := by
 refine .inr ⟨w.heap.size, 0, rfl, fun j hj => ?_⟩
 rw [Nat.zero_add, World.cell?_alloc_new]
 simp
theorem own_cap {w : World} {base e size g n cap : Nat} {xs : List Value} (hown : w.ownsRow base e size (.slice (some ⟨g, 0, none⟩) n cap) n xs) : n ≤ cap ∧ cap ≤ maxLen := by
 rcases hown.2 with ⟨h0, _⟩ | ⟨g', cap', cur, h0, hb, hh, h1, h2, _⟩
 ·simp at h0
 ·simp at h0
  rw [h0.2]
  exact ⟨h1, h2⟩
open Go.RowKit
theorem append_seg {P : Program} {w : World} {ops : Array Oper} {rest : List Oper} {o : Oper} {a : Act} {Q : Exit → Act → World → Prop} (hgd : o.guard = none) (s x : Operand) (t : TypeId)
  (ho : o.op = .call { callee := .builtin .append, args := #[s, x], argTypes := #[t, t] })
  (base : Nat) (e : TypeId) (i : TypeInfo) (z : Value) (size bytes : Nat) (ht : P.underlying t = some (.slice e)) (hi : P.info? e = some i) (hz : i.zero = some z)
  (hsize : i.size = size) (hby : i.bytes = bytes) (hzs : z.cells.size = size) (hsz : 0 < size)
  (v : Value) (n : Nat) (xs : List Value) (hs : a.eval s = v) (hown : w.ownsRow base e size v n xs)
  (ao : Option Addr) (m c : Nat) (news : List Value) (hx : a.eval x = .slice ao m c) (hao : ao = none → m = 0 ∧ c = 0) (hseg : Seg w ao news) (hl : news.length = m * size) (h1 : ∀ u ∈ news, u.oneCell' = true)
  (h63 : n + m ≤ maxLen) (hbytes : (n + m) * bytes ≤ 140737488355328) (hbase : base ≤ w.heap.size)
  (h : ∀ v' w', w'.ownsRow base e size v' (n + m) (xs ++ news) → w.grownBy w' v.ownBlock → wpList P ops Q rest (a.put o.dst v') w') : wpList P ops Q (o :: rest) a w := by
 cases ao with
 | none =>
  obtain ⟨rfl, rfl⟩ := hao rfl
  have hn : news = [] := List.length_eq_zero_iff.mp (by omega)
  subst hn
  refine wpList_append_own_none hgd s x t ho base e i size ht hi v n xs hs hown hx ?_
  exact h v w (by simpa using hown) ⟨rfl, rfl, rfl, Nat.le_refl _, fun _ _ _ => rfl⟩
 | some ad =>
  refine wpList_append_own w hgd s x t ho base e i z size bytes ht hi hz hsize hby hzs hsz v n xs hs hown ad m c news hx hl ?_ h1 h63 hbytes hbase (fun v' w' hr hg _ => h v' w' hr hg)
  rcases hseg with hn | ⟨b, off, e1, hc⟩
  ·subst hn; intro j u hu; simp at hu
  ·simp at e1
   subst e1
   intro j u hu
   have hj : j < news.length := by
    rcases Nat.lt_or_ge j news.length with h | h
    ·exact h
    ·rw [List.getElem?_eq_none h] at hu; cases hu
   have := hc j hj
   rw [hu] at this
   rw [show (⟨b, off, none⟩ : Addr).add j = ⟨b, off + j, none⟩ from by unfold Addr.add; split <;> simp_all]
   exact this
theorem own_open {w : World} {base e size n : Nat} {v : Value} {xs : List Value} (h : w.ownsRow base e size v n xs) : ∃ ao c, v = .slice ao n c ∧ Seg w ao xs ∧ n ≤ c := by
 rcases h.2 with ⟨h0, hn⟩ | ⟨g, cap, cur, h0, _, _, hc, _⟩
 ·subst hn
  refine ⟨none, 0, h0, .inl ?_, Nat.le_refl _⟩
  exact List.length_eq_zero_iff.mp (by rw [h.1]; omega)
 ·subst h0
  exact ⟨_, _, rfl, own_seg h, hc⟩
theorem scells_one (l : List (Int × Int)) : ∀ u ∈ scells l, u.oneCell' = true := by
 induction l with
 | nil => intro u hu; simp [scells] at hu
 | cons s r ih =>
  intro u hu
  simp only [scells, List.mem_cons] at hu
  rcases hu with e | e | e
  ·subst e; rfl
  ·subst e; rfl
  ·exact ih u e
end Go.GrainU
namespace Grain
def byt (s : ByteArray) (k : Nat) : Int := ((s.data.toList.getD k 0).toNat : Int)
def low (c : Int) : Bool := decide (97 ≤ c) && decide (c ≤ 122)
def badN (k : Nat) (c : Int) : Bool := (decide (k = 0) && !low c) || (!low c && (decide (c ≠ 95) && (decide (c < 48) || decide (57 < c))))
def fineN (s : ByteArray) : Nat → Bool
 | 0 => true
 | k + 1 => fineN s k && !badN k (byt s k)
def named (s : ByteArray) : Bool := fineN s s.size && (decide (0 < s.size) && decide (s.size ≤ 12))
theorem fineN_no {s : ByteArray} {k : Nat} (h : badN k (byt s k) = true) : ∀ n, k < n → fineN s n = false := by
 intro n
 induction n with
 | zero => intro h; omega
 | succ n ih =>
  intro hk
  rcases (show k < n ∨ k = n from by omega) with e | e
  ·simp [fineN, ih e]
  ·subst e; simp [fineN, h]
end Grain
namespace Go.GrainU
open Go.RowKit
def lcells : List (ByteArray × ByteArray) → List Value
 | [] => []
 | s :: r => .string s.1 :: .string s.2 :: lcells r
def lk (l : List (ByteArray × ByteArray)) (k : Nat) : ByteArray := (l.getD k (⟨#[]⟩, ⟨#[]⟩)).1
def lv (l : List (ByteArray × ByteArray)) (k : Nat) : ByteArray := (l.getD k (⟨#[]⟩, ⟨#[]⟩)).2
theorem lcells_length (l : List (ByteArray × ByteArray)) : (lcells l).length = l.length * 2 := by
 induction l with
 | nil => rfl
 | cons s r ih => simp only [lcells, List.length_cons, ih]; omega
theorem lcells_at (l : List (ByteArray × ByteArray)) : ∀ k, k < l.length → (lcells l)[k * 2]? = some (.string (lk l k)) ∧ (lcells l)[k * 2 + 1]? = some (.string (lv l k)) := by
 induction l with
 | nil => intro k hk; simp at hk
 | cons s r ih =>
  intro k hk
  match k with
  | 0 => simp [lcells, lk, lv]
  | k + 1 =>
   have := ih k (by simpa using hk)
   rw [show (k + 1) * 2 = k * 2 + 1 + 1 from by omega]
   simpa [lcells, lk, lv] using this
theorem lcells_append (a b : List (ByteArray × ByteArray)) : lcells (a ++ b) = lcells a ++ lcells b := by
 induction a with
 | nil => rfl
 | cons x r ih => simp [lcells, ih]
theorem seg_label {w : World} {ao : Option Addr} {l : List (ByteArray × ByteArray)} (h : Seg w ao (lcells l)) {k : Nat} (hk : k < l.length) :
  ∃ b off, ao = some ⟨b, off, none⟩ ∧ b < w.heap.size ∧ ∀ j, j < l.length → w.cell? ⟨b, off + j * 2, none⟩ = some (.string (lk l j)) ∧ w.cell? ⟨b, off + j * 2 + 1, none⟩ = some (.string (lv l j)) := by
 have hs := lcells_length l
 rcases h with h | ⟨b, off, rfl, h⟩
 ·rw [h] at hs; simp at hs; omega
 ·have hc : ∀ j, j < l.length → w.cell? ⟨b, off + j * 2, none⟩ = some (.string (lk l j)) ∧ w.cell? ⟨b, off + j * 2 + 1, none⟩ = some (.string (lv l j)) := fun j hj => by
   have := lcells_at l j hj
   exact ⟨(h (j * 2) (by omega)).trans this.1, by rw [Nat.add_assoc]; exact (h (j * 2 + 1) (by omega)).trans this.2⟩
  exact ⟨b, off, rfl, World.block_lt_of_cell? w ⟨b, off + k * 2, none⟩ (hc k hk).1, hc⟩
theorem take_lab {l : List (ByteArray × ByteArray)} {k : Nat} (h : k < l.length) : l.take (k + 1) = l.take k ++ [(lk l k, lv l k)] := by
 rw [List.take_add_one, List.getElem?_eq_getElem h]
 simp only [lk, lv, List.getD, List.getElem?_eq_getElem h, Option.getD_some, Option.toList_some]
theorem toList_inj {a b : ByteArray} (h : a.toList = b.toList) : a = b := by
 rw [ByteArray.toList_eq, ByteArray.toList_eq] at h
 cases a
 cases b
 simp at h
 rw [h]
theorem word_eq (a b : ByteArray) : (a.toList == b.toList) = decide (a = b) := by
 rw [Bool.eq_iff_iff]
 simp only [beq_iff_eq, decide_eq_true_eq]
 exact ⟨toList_inj, fun h => by rw [h]⟩
theorem word_ne {a b : ByteArray} (h : a ≠ b) : (a == b) = false ∧ (a.toList == b.toList) = false := by
 have h1 : (a.toList == b.toList) = false := by rw [word_eq]; simpa using h
 exact ⟨by rw [Go.beq_toListBytes]; exact h1, h1⟩
theorem word_self (a : ByteArray) : (a == a) = true ∧ (a.toList == a.toList) = true := by
 have h1 : (a.toList == a.toList) = true := by simp
 exact ⟨by rw [Go.beq_toListBytes]; exact h1, h1⟩
open Go.RowKit
def wle (a b : ByteArray) : Bool := Op.bytesLess a.toList b.toList || a.toList == b.toList
def badS (l : List (ByteArray × ByteArray)) (k : Nat) : Int :=
 if (Grain.named (lk l k) && Grain.named (lv l k)) = false then 7 else if 0 < k ∧ wle (lk l k) (lk l (k - 1)) = true then 2 else 0
def wrongSF (l : List (ByteArray × ByteArray)) : Nat → Nat → Int
 | 0, _ => 0
 | n + 1, k => if badS l k = 0 then wrongSF l n (k + 1) else badS l k
def wrongS (l : List (ByteArray × ByteArray)) : Int := if 4 < l.length then 5 else wrongSF l l.length 0
theorem wrongSF_ok {l : List (ByteArray × ByteArray)} {n k : Nat} (h : badS l k = 0) : wrongSF l (n + 1) k = wrongSF l n (k + 1) := by simp [wrongSF, h]
theorem wrongSF_no {l : List (ByteArray × ByteArray)} {n k : Nat} (h : badS l k ≠ 0) : wrongSF l (n + 1) k = badS l k := by simp [wrongSF, h]
def Fits (l : List (ByteArray × ByteArray)) : Prop := ∀ k, k < l.length → (lk l k).size ≤ 9223372036854775807 ∧ (lv l k).size ≤ 9223372036854775807
open Go.RowKit
structure Mt where
 kind : Int
 key : ByteArray
 val : ByteArray
def mcells : List Mt → List Value
 | [] => []
 | x :: r => .int .i64 x.kind :: .string x.key :: .string x.val :: mcells r
def mt (l : List Mt) (k : Nat) : Mt := l.getD k ⟨0, ⟨#[]⟩, ⟨#[]⟩⟩
theorem mcells_length (l : List Mt) : (mcells l).length = l.length * 3 := by
 induction l with
 | nil => rfl
 | cons s r ih => simp only [mcells, List.length_cons, ih]; omega
theorem mcells_at (l : List Mt) : ∀ k, k < l.length → (mcells l)[k * 3]? = some (.int .i64 (mt l k).kind) ∧ (mcells l)[k * 3 + 1]? = some (.string (mt l k).key) ∧ (mcells l)[k * 3 + 2]? = some (.string (mt l k).val) := by
 induction l with
 | nil => intro k hk; simp at hk
 | cons s r ih =>
  intro k hk
  match k with
  | 0 => simp [mcells, mt]
  | k + 1 =>
   have := ih k (by simpa using hk)
   rw [show (k + 1) * 3 = k * 3 + 1 + 1 + 1 from by omega]
   simpa [mcells, mt] using this
theorem seg_match {w : World} {ao : Option Addr} {l : List Mt} (h : Seg w ao (mcells l)) {k : Nat} (hk : k < l.length) :
  ∃ b off, ao = some ⟨b, off, none⟩ ∧ b < w.heap.size ∧ ∀ j, j < l.length → w.cell? ⟨b, off + j * 3, none⟩ = some (.int .i64 (mt l j).kind) ∧ w.cell? ⟨b, off + j * 3 + 1, none⟩ = some (.string (mt l j).key) ∧ w.cell? ⟨b, off + j * 3 + 2, none⟩ = some (.string (mt l j).val) := by
 have hs := mcells_length l
 rcases h with h | ⟨b, off, rfl, h⟩
 ·rw [h] at hs; simp at hs; omega
 ·have hc : ∀ j, j < l.length → w.cell? ⟨b, off + j * 3, none⟩ = some (.int .i64 (mt l j).kind) ∧ w.cell? ⟨b, off + j * 3 + 1, none⟩ = some (.string (mt l j).key) ∧ w.cell? ⟨b, off + j * 3 + 2, none⟩ = some (.string (mt l j).val) := fun j hj => by
   have := mcells_at l j hj
   exact ⟨(h (j * 3) (by omega)).trans this.1, by rw [Nat.add_assoc]; exact (h (j * 3 + 1) (by omega)).trans this.2.1, by rw [Nat.add_assoc]; exact (h (j * 3 + 2) (by omega)).trans this.2.2⟩
  exact ⟨b, off, rfl, World.block_lt_of_cell? w ⟨b, off + k * 3, none⟩ (hc k hk).1, hc⟩
theorem take_mt {l : List Mt} {k : Nat} (h : k < l.length) : l.take (k + 1) = l.take k ++ [mt l k] := by
 rw [List.take_add_one, List.getElem?_eq_getElem h]
 simp [mt, List.getD, List.getElem?_eq_getElem h]
def find : List (ByteArray × ByteArray) → ByteArray → Option ByteArray
 | [], _ => none
 | x :: r, k => if x.1 = k then some x.2 else find r k
theorem find_drop {l : List (ByteArray × ByteArray)} {j : Nat} (h : j < l.length) (key : ByteArray) : find (l.drop j) key = if lk l j = key then some (lv l j) else find (l.drop (j + 1)) key := by
 rw [List.drop_eq_getElem_cons h, find]
 simp [lk, lv, List.getD, List.getElem?_eq_getElem h]
def sayM (f : Option ByteArray) (x : Mt) : Bool :=
 if x.kind = 1 then decide (f = some x.val) else if x.kind = 2 then !decide (f = some x.val) else if x.kind = 3 then f.isSome else if x.kind = 4 then f.isNone else false
def says (s : List (ByteArray × ByteArray)) (l : List Mt) : Bool := l.all fun x => sayM (find s x.key) x
theorem says_take {s : List (ByteArray × ByteArray)} {l : List Mt} {k : Nat} (h : k < l.length) : says s (l.take (k + 1)) = (says s (l.take k) && sayM (find s (mt l k).key) (mt l k)) := by
 rw [take_mt h]
 simp [says]
theorem says_no {s : List (ByteArray × ByteArray)} {l : List Mt} {k : Nat} (h : k < l.length) (h' : sayM (find s (mt l k).key) (mt l k) = false) : says s l = false := by
 unfold says
 rw [List.all_eq_false]
 exact ⟨mt l k, by simp [mt, List.getD, List.getElem?_eq_getElem h], by simpa using h'⟩
open Go.RowKit
def wcells (l : List ByteArray) : List Value := l.map Value.string
theorem seg_word {w : World} {ao : Option Addr} {l : List ByteArray} (h : Seg w ao (wcells l)) {k : Nat} (hk : k < l.length) :
  ∃ b off, ao = some ⟨b, off, none⟩ ∧ b < w.heap.size ∧ ∀ j, j < l.length → w.cell? ⟨b, off + j, none⟩ = some (.string (l.getD j ⟨#[]⟩)) := by
 rcases h with h | ⟨b, off, rfl, h⟩
 ·have := congrArg List.length h; simp [wcells] at this; subst this; simp at hk
 ·have hc : ∀ j, j < l.length → w.cell? ⟨b, off + j, none⟩ = some (.string (l.getD j ⟨#[]⟩)) := fun j hj => by
   rw [h j (by simpa [wcells] using hj)]
   simp [wcells, List.getElem?_eq_getElem hj, List.getD]
  exact ⟨b, off, rfl, World.block_lt_of_cell? w ⟨b, off + k, none⟩ (hc k hk), hc⟩
def has (ks : List ByteArray) (x : ByteArray) : Bool := ks.any fun k => decide (k = x)
theorem has_none {ks : List ByteArray} {x : ByteArray} (h : ∀ j, j < ks.length → ks.getD j ⟨#[]⟩ ≠ x) : has ks x = false := by
 unfold has
 rw [List.any_eq_false]
 intro k hk
 obtain ⟨j, hj, e⟩ := List.mem_iff_getElem.1 hk
 have := h j hj
 simp only [List.getD, List.getElem?_eq_getElem hj, e, Option.getD_some] at this
 simpa using this
theorem has_at {ks : List ByteArray} {x : ByteArray} {j : Nat} (hj : j < ks.length) (h : ks.getD j ⟨#[]⟩ = x) : has ks x = true := by
 unfold has
 rw [List.any_eq_true]
 exact ⟨ks.getD j ⟨#[]⟩, by simp [List.getD, List.getElem?_eq_getElem hj], by simpa using h⟩
open Go.RowKit
structure Hd where
 kind : Int
 n : Int
 range : Int
 word : ByteArray
 ms : List Mt
 bs : List ByteArray
structure Sp where
 ma : Option Addr
 mc : Nat
 ba : Option Addr
 bc : Nat
 ka : Option Addr
 kc : Nat
inductive ET where
 | node (h : Hd) (s : Sp) (kids : List ET) : ET
inductive Ex where
 | mk (h : Hd) (kids : List Ex) : Ex
theorem ET.ind {P : ET → Prop} (hyp : ∀ h s kids, (∀ k ∈ kids, P k) → P (.node h s kids)) : ∀ t, P t :=
 fun t => ET.rec (motive_1 := P) (motive_2 := fun l => ∀ k ∈ l, P k) (fun h s kids ih => hyp h s kids ih) (fun k hk => by cases hk)
  (fun a l ha hl k hk => by
   rcases List.mem_cons.1 hk with e | e
   ·rw [e]; exact ha
   ·exact hl k e) t
theorem Ex.ind {P : Ex → Prop} (hyp : ∀ h kids, (∀ k ∈ kids, P k) → P (.mk h kids)) : ∀ t, P t :=
 fun t => Ex.rec (motive_1 := P) (motive_2 := fun l => ∀ k ∈ l, P k) (fun h kids ih => hyp h kids ih) (fun k hk => by cases hk)
  (fun a l ha hl k hk => by
   rcases List.mem_cons.1 hk with e | e
   ·rw [e]; exact ha
   ·exact hl k e) t
def ET.hd : ET → Hd | .node h _ _ => h
def ET.sp : ET → Sp | .node _ s _ => s
def ET.kids : ET → List ET | .node _ _ k => k
def Ex.hd : Ex → Hd | .mk h _ => h
mutual
def ET.ex : ET → Ex
 | .node h _ kids => .mk h (exL kids)
def exL : List ET → List Ex
 | [] => []
 | k :: r => k.ex :: exL r
end
theorem exL_map (l : List ET) : exL l = l.map ET.ex := by
 induction l with
 | nil => rfl
 | cons k r ih => simp [exL, ih]
theorem exL_length (l : List ET) : (exL l).length = l.length := by rw [exL_map]; simp
def ecell (t : ET) : List Value :=
 [.int .i64 t.hd.kind, .int .i64 t.hd.n, .int .i64 t.hd.range, .string t.hd.word, .slice t.sp.ma t.hd.ms.length t.sp.mc, .slice t.sp.ba t.hd.bs.length t.sp.bc, .slice t.sp.ka t.kids.length t.sp.kc]
def ecells : List ET → List Value
 | [] => []
 | t :: r => ecell t ++ ecells r
def eval (t : ET) : Value :=
 .agg #[.int .i64 t.hd.kind, .int .i64 t.hd.n, .int .i64 t.hd.range, .string t.hd.word, .slice t.sp.ma t.hd.ms.length t.sp.mc, .slice t.sp.ba t.hd.bs.length t.sp.bc, .slice t.sp.ka t.kids.length t.sp.kc]
mutual
def ET.In (w : World) : ET → Prop
 | .node h s kids => (Seg w s.ma (mcells h.ms) ∧ Seg w s.ba (wcells h.bs) ∧ Seg w s.ka (ecells kids)) ∧ (h.ms.length ≤ 9223372036854775806 ∧ h.bs.length ≤ 9223372036854775806 ∧ kids.length ≤ 9223372036854775806 ∧ h.word.size ≤ 9223372036854775806 ∧ (∀ m ∈ h.ms, m.key.size ≤ 9223372036854775807 ∧ m.val.size ≤ 9223372036854775807) ∧ (∀ b ∈ h.bs, b.size ≤ 9223372036854775807) ∧ h.bs.length ≤ s.bc ∧ ∀ m ∈ h.ms, m.key.size ≤ 140737488355328 ∧ m.val.size ≤ 140737488355328) ∧ InL w kids
def InL (w : World) : List ET → Prop
 | [] => True
 | k :: r => k.In w ∧ InL w r
end
theorem inL_mem {w : World} {l : List ET} (h : InL w l) : ∀ k ∈ l, k.In w := by
 induction l with
 | nil => intro k hk; cases hk
 | cons a r ih =>
  simp only [InL] at h
  intro k hk
  rcases List.mem_cons.1 hk with e | e
  ·rw [e]; exact h.1
  ·exact ih h.2 k e
theorem inL_of {w : World} {l : List ET} (h : ∀ k ∈ l, k.In w) : InL w l := by
 induction l with
 | nil => simp [InL]
 | cons a r ih =>
  simp only [InL]
  exact ⟨h a (by simp), ih fun k hk => h k (by simp [hk])⟩
theorem ET.In.below {w w' : World} (hb : Below w.heap.size w w') : ∀ t : ET, t.In w → t.In w' := by
 refine ET.ind ?_
 intro h s kids ih hin
 simp only [ET.In] at hin ⊢
 obtain ⟨⟨a, b, c⟩, d, e⟩ := hin
 exact ⟨⟨a.below hb, b.below hb, c.below hb⟩, d, inL_of fun k hk => ih k hk (inL_mem e k hk)⟩
theorem InL.below {w w' : World} (hb : Below w.heap.size w w') {l : List ET} (h : InL w l) : InL w' l :=
 inL_of fun k hk => ET.In.below hb k (inL_mem h k hk)
theorem ecells_length (l : List ET) : (ecells l).length = l.length * 7 := by
 induction l with
 | nil => rfl
 | cons s r ih => simp only [ecells, List.length_append, ih, ecell, List.length_cons, List.length_nil]; omega
instance : Inhabited ET := ⟨.node ⟨0, 0, 0, ⟨#[]⟩, [], []⟩ ⟨none, 0, none, 0, none, 0⟩ []⟩
instance : Inhabited Ex := ⟨.mk ⟨0, 0, 0, ⟨#[]⟩, [], []⟩ []⟩
theorem ecells_at (l : List ET) : ∀ k, (hk : k < l.length) → ∀ q, q < 7 → (ecells l)[k * 7 + q]? = (ecell (l[k]))[q]? := by
 induction l with
 | nil => intro k hk; simp at hk
 | cons s r ih =>
  intro k hk q hq
  match k, hk with
  | 0, _ =>
   simp only [ecells, List.getElem_cons_zero]
   rw [List.getElem?_append_left (by simp [ecell]; omega)]
   simp
  | k + 1, hk =>
   have := ih k (by simpa using hk) q hq
   simp only [ecells, List.getElem_cons_succ]
   rw [List.getElem?_append_right (by simp [ecell]; omega), ← this]
   congr 1
   simp [ecell]; omega
def Cells7 (w : World) (b o : Nat) (t : ET) : Prop :=
 w.cell? ⟨b, o, none⟩ = some (.int .i64 t.hd.kind) ∧ w.cell? ⟨b, o + 1, none⟩ = some (.int .i64 t.hd.n) ∧ w.cell? ⟨b, o + 2, none⟩ = some (.int .i64 t.hd.range) ∧ w.cell? ⟨b, o + 3, none⟩ = some (.string t.hd.word) ∧ w.cell? ⟨b, o + 4, none⟩ = some (.slice t.sp.ma t.hd.ms.length t.sp.mc) ∧ w.cell? ⟨b, o + 5, none⟩ = some (.slice t.sp.ba t.hd.bs.length t.sp.bc) ∧ w.cell? ⟨b, o + 6, none⟩ = some (.slice t.sp.ka t.kids.length t.sp.kc)
theorem seg_expr {w : World} {ao : Option Addr} {l : List ET} (h : Seg w ao (ecells l)) {k : Nat} (hk : k < l.length) :
  ∃ b off, ao = some ⟨b, off, none⟩ ∧ b < w.heap.size ∧ ∀ j, (hj : j < l.length) → Cells7 w b (off + j * 7) l[j] := by
 have hs := ecells_length l
 rcases h with h | ⟨b, off, rfl, h⟩
 ·rw [h] at hs; simp at hs; omega
 ·have hc : ∀ j, (hj : j < l.length) → Cells7 w b (off + j * 7) l[j] := fun j hj => by
   have g : ∀ q, q < 7 → w.cell? ⟨b, off + j * 7 + q, none⟩ = (ecell l[j])[q]? := fun q hq => by
    rw [Nat.add_assoc]; exact (h (j * 7 + q) (by omega)).trans (ecells_at l j hj q hq)
   exact ⟨g 0 (by omega), g 1 (by omega), g 2 (by omega), g 3 (by omega), g 4 (by omega), g 5 (by omega), g 6 (by omega)⟩
  exact ⟨b, off, rfl, World.block_lt_of_cell? w ⟨b, off + k * 7, none⟩ (hc k hk).1, hc⟩
/-! what is wrong -/
def lit (l : List UInt8) : ByteArray := ⟨l.toArray⟩
def words8 : List ByteArray := [lit [97, 118, 103], lit [99, 111, 117, 110, 116], lit [102, 105, 114, 115, 116], lit [108, 97, 115, 116], lit [109, 97, 120], lit [109, 105, 110], lit [114, 105, 115, 101], lit [115, 117, 109]]
def totals4 : List ByteArray := [lit [99, 111, 117, 110, 116], lit [109, 97, 120], lit [109, 105, 110], lit [115, 117, 109]]
def signs3 : List ByteArray := [lit [43], lit [45], lit [42]]
def mBad (m : Mt) : Int := if m.kind < 1 ∨ 4 < m.kind then 1 else if (Grain.named m.key && (decide (2 < m.kind) || Grain.named m.val)) = true then 0 else 7
def msBad : List Mt → Int
 | [] => 0
 | m :: r => if mBad m = 0 then msBad r else mBad m
def winBad (h : Hd) : Int := if has words8 h.word = false then 7 else if 5 < h.ms.length then 5 else if msBad h.ms = 0 then (if h.range < 1 ∨ 100000 < h.range then 3 else 0) else msBad h.ms
def allBad (h : Hd) : Int := if has totals4 h.word = false then 7 else if 4 < h.bs.length then 5 else if h.bs.all Grain.named = true then 0 else 7
def alone (h : Hd) (k : Nat) : Int :=
 if h.kind = 1 then (if k = 0 then (if h.n < 0 ∨ 1000000 < h.n then 3 else 0) else 5)
 else if h.kind = 2 then (if k = 0 then winBad h else 5)
 else if h.kind = 3 then (if k = 1 then allBad h else 5)
 else if h.kind = 4 then (if k = 2 then (if has signs3 h.word = true then 0 else 7) else 5)
 else 1
mutual
def wr : Ex → Int → Int → Int × Int
 | .mk h kids, d, n => if 100 < n + 1 ∨ 20 < d then (4, n + 1) else if alone h kids.length = 0 then wrL kids (d + 1) (n + 1) else (alone h kids.length, n + 1)
def wrL : List Ex → Int → Int → Int × Int
 | [], _, n => (0, n)
 | k :: r, d, n => if (wr k d n).1 = 0 then wrL r d (wr k d n).2 else wr k d n
end
mutual
def vec : Ex → Bool
 | .mk h kids => decide (h.kind = 2) || decide (h.kind = 3) || vecL kids
def vecL : List Ex → Bool
 | [] => false
 | k :: r => vec k || vecL r
end
mutual
def typ : Ex → Int
 | .mk h kids => if h.kind = 3 ∧ kids.length = 1 ∧ vecL kids = false then 8 else typL kids
def typL : List Ex → Int
 | [] => 0
 | k :: r => if typ k = 0 then typL r else typ k
end
mutual
def cnt : Ex → Nat
 | .mk _ kids => cntL kids + 1
def cntL : List Ex → Nat
 | [] => 0
 | k :: r => cnt k + cntL r
end
inductive Rt : Ex → Prop where
 | mk (h : Hd) (kids : List Ex) (ha : alone h kids.length = 0) (hk : ∀ k ∈ kids, Rt k) : Rt (.mk h kids)
end Go.GrainU
