/-
  What the walks of this seat share: cells that can be read behind an address, in whatever world.
-/
import Derived.WalkKit
import Derived.WalkSpells
import Derived.WalkLawsBesides
import Derived.Deep.AppendLies
import Derived.Deep.QuietTactic
import Derived.BigQuiet
import Derived.WalkSmall
import Derived.Handy
import Derived.Test.YtcgcefnfelmmkaaMath
namespace Go.GrainU
open Go.RowKit

/-- the cells xs lie behind the address, in the world w -/
def Seg (w : World) (ao : Option Addr) (xs : List Value) : Prop :=
  xs = [] ∨ ∃ b off, ao = some ⟨b, off, none⟩ ∧ ∀ j, j < xs.length → w.cell? ⟨b, off + j, none⟩ = xs[j]?

/-- samples as cells -/
def scells : List (Int × Int) → List Value
  | [] => []
  | s :: r => .int .i64 s.1 :: .int .i64 s.2 :: scells r

/-- bytes as cells -/
def bcells (l : List Int) : List Value := l.map (Value.int .u8)

theorem scells_length (l : List (Int × Int)) : (scells l).length = l.length * 2 := by
  induction l with
  | nil => rfl
  | cons s r ih => simp only [scells, List.length_cons, ih]; omega

theorem scells_at (l : List (Int × Int)) : ∀ k, k < l.length → (scells l)[k * 2]? = some (.int .i64 (Grain.tm l k)) ∧ (scells l)[k * 2 + 1]? = some (.int .i64 (Grain.vl l k)) := by
  induction l with
  | nil => intro k hk; simp at hk
  | cons s r ih =>
    intro k hk
    match k with
    | 0 => simp [scells, Grain.tm, Grain.vl]
    | k + 1 =>
      have := ih k (by simpa using hk)
      rw [show (k + 1) * 2 = k * 2 + 1 + 1 from by omega]
      simpa [scells, Grain.tm, Grain.vl] using this

theorem Seg.sample {w : World} {ao : Option Addr} {l : List (Int × Int)} (h : Seg w ao (scells l)) {k : Nat} (hk : k < l.length) :
    ∃ b off, ao = some ⟨b, off, none⟩ ∧ ∀ j, j < l.length → w.cell? ⟨b, off + j * 2, none⟩ = some (.int .i64 (Grain.tm l j)) ∧ w.cell? ⟨b, off + j * 2 + 1, none⟩ = some (.int .i64 (Grain.vl l j)) := by
  rcases h with h | ⟨b, off, rfl, h⟩
  · have := scells_length l; rw [h] at this; simp at this; omega
  · refine ⟨b, off, rfl, fun j hj => ?_⟩
    have hs := scells_length l
    have hc := scells_at l j hj
    exact ⟨(h (j * 2) (by omega)).trans hc.1, by rw [Nat.add_assoc]; exact (h (j * 2 + 1) (by omega)).trans hc.2⟩

theorem Seg.block_lt {w : World} {b off : Nat} {xs : List Value} (h : ∀ j, j < xs.length → w.cell? ⟨b, off + j, none⟩ = xs[j]?) (hx : xs ≠ []) : b < w.heap.size := by
  match xs, hx with
  | x :: r, _ =>
    have := h 0 (by simp)
    exact World.block_lt_of_cell? w ⟨b, off + 0, none⟩ (u := x) (by simpa using this)

theorem Seg.below {w w' : World} {ao : Option Addr} {xs : List Value} (h : Seg w ao xs) (hb : Below w.heap.size w w') : Seg w' ao xs := by
  rcases h with h | ⟨b, off, rfl, h⟩
  · exact .inl h
  · by_cases hx : xs = []
    · exact .inl hx
    · have hl := Seg.block_lt h hx
      exact .inr ⟨b, off, rfl, fun j hj => (hb.cell (p := ⟨b, off + j, none⟩) hl).trans (h j hj)⟩

theorem bcell {W w1 : World} (hb : Below W.heap.size W w1) : (∀ b o, b < W.heap.size → w1.cell? ⟨b, o, none⟩ = W.cell? ⟨b, o, none⟩) ∧ (∀ b o, b < W.heap.size → w1.frozen? ⟨b, o, none⟩ = W.frozen? ⟨b, o, none⟩) :=
  ⟨fun b o h => hb.cell (p := ⟨b, o, none⟩) h, fun b o h => hb.frozen (p := ⟨b, o, none⟩) h⟩

theorem hide {p : Prop} (h : p) : Hid p := h
theorem ret_int {k : IntKind} {a b : Int} (h : a = b) : Ending.returned (.int k a) = .returned (.int k b) := by rw [h]
theorem ret_bool {a b : Bool} (h : a = b) : Ending.returned (.bool a) = .returned (.bool b) := by rw [h]

/-- a block of two cells, none frozen -/
theorem two_cells {w : World} {B : Nat} {x y : Value} {t : TypeId} (h : w.heap[B]? = some (.cells #[x, y] t (0, 0))) :
    w.cell? ⟨B, 0, none⟩ = some x ∧ w.cell? ⟨B, 1, none⟩ = some y ∧ w.frozen? ⟨B, 0, none⟩ = false ∧ w.frozen? ⟨B, 1, none⟩ = false := by
  simp [World.cell?, World.frozen?, h]

theorem grown_trans {a b c : World} {r r' : Option Nat} (h : a.grownBy b r) (h' : b.grownBy c r') (hr : ∀ k, r' = some k → r = some k ∨ a.heap.size ≤ k) : a.grownBy c r :=
  ⟨h'.os.trans h.os, h'.tape.trans h.tape, h'.output.trans h.output, Nat.le_trans h.size h'.size, fun k hk hne =>
    (h'.block k (Nat.lt_of_lt_of_le hk h.size) (fun e => by rcases hr k e.symm with e' | e'; · exact hne e'.symm
                                                            · omega)).trans (h.block k hk hne)⟩

/-- behind an append: all but the row, and what is new, is as it was; the new row is the old one, or new -/
theorem grown_push {w wr w1 : World} {r : Option Nat} {b : Value} {o : Obj} {g : Nat} (hgr : w.grownBy wr r) (HL : b.ownBlock = r ∨ ∃ g, b.ownBlock = some g ∧ w.heap.size ≤ g)
    (h1 : (wr.alloc o).grownBy w1 b.ownBlock) (hat : b.ownBlock = some g ∨ g = wr.heap.size + 1) : w.grownBy w1 r ∧ (r = some g ∨ w.heap.size ≤ g) := by
  have hsz := hgr.size
  refine ⟨grown_trans (grown_trans hgr (World.grownBy_alloc wr o none) (fun k h => by cases h)) h1 (fun k hk => ?_), ?_⟩
  · rcases HL with e | ⟨g', e, hg'⟩
    · exact .inl (e.symm.trans hk)
    · rw [e] at hk; simp at hk; subst hk; exact .inr hg'
  · rcases hat with e | e
    · rcases HL with e' | ⟨g', e', hg'⟩
      · exact .inl (e'.symm.trans e)
      · rw [e'] at e; simp at e; subst e; exact .inr hg'
    · right; omega

theorem bcells_snoc (l : List Int) (x : Int) : bcells (l ++ [x]) = bcells l ++ [.int .u8 x] := by simp [bcells]

theorem own_len {w : World} {base e N : Nat} {v : Value} {l : List Int} (h : w.ownsRow base e 1 v N (bcells l)) : N = l.length := by
  have := h.1; simp [bcells] at this; omega

theorem or128_all : ∀ x : Fin 256, bits BinOp.or IntKind.u8 ((x.val : Nat) : Int) 128 = 128 + ((x.val : Nat) : Int) % 128 := by decide +kernel
theorem or128 (U : Int) : bits BinOp.or IntKind.u8 (U % 256) 128 = 128 + U % 128 := by
  have h0 : 0 ≤ U % 256 := by omega
  have h1 : U % 256 < 256 := by omega
  obtain ⟨x, hx⟩ := Int.eq_ofNat_of_zero_le h0
  have := or128_all ⟨x, by omega⟩
  rw [hx, this]
  simp only []
  omega

theorem two_set {w : World} {B : Nat} {x y : Value} {t : TypeId} (h : w.heap[B]? = some (.cells #[x, y] t (0, 0))) (p q : Value) :
    ((w.setCell ⟨B, 0, none⟩ p).setCell ⟨B, 1, none⟩ q).heap[B]? = some (.cells #[p, q] t (0, 0)) := by
  simp [World.setCell, Array.getElem?_modify, h]

theorem setCell_far {w : World} {B k o : Nat} {p : Value} (h : k ≠ B) : (w.setCell ⟨B, o, none⟩ p).heap[k]? = w.heap[k]? := Below.heap_setCell w _ p k h

/-- a block of another type than the row's is as it was, behind an append -/
theorem keep_other {w w' : World} {base e size g n cap k : Nat} {xs : List Value} {c : Array Value} {t : TypeId} {fr : Nat × Nat} (hown : w.ownsRow base e size (.slice (some ⟨g, 0, none⟩) n cap) n xs)
    (h : w.heap[k]? = some (.cells c t fr)) (ht : t ≠ e) (hg : w.grownBy w' (some g)) : w'.heap[k]? = some (.cells c t fr) := by
  have hk : k ≠ g := by
    intro e1
    subst e1
    rcases hown.2 with ⟨h0, _⟩ | ⟨g', cap', cur, h0, _, hb, _⟩
    · simp at h0
    · simp at h0
      rw [← h0.1, h] at hb
      simp at hb
      exact ht hb.2.1
  rw [hg.block k (lt_of_block h) (by simpa using hk)]
  exact h

theorem own_block {w : World} {base e size g n cap : Nat} {xs : List Value} (hown : w.ownsRow base e size (.slice (some ⟨g, 0, none⟩) n cap) n xs) : base ≤ g ∧ g < w.heap.size := by
  rcases hown.2 with ⟨h0, _⟩ | ⟨g', cap', cur, h0, hb, hh, _⟩
  · simp at h0
  · simp at h0
    rw [h0.1]
    exact ⟨hb, lt_of_block hh⟩

theorem blocks_ne {w : World} {i j : Nat} {c c' : Array Value} {t t' : TypeId} {fr fr' : Nat × Nat} (h : w.heap[i]? = some (.cells c t fr)) (h' : w.heap[j]? = some (.cells c' t' fr')) (ht : t ≠ t') : i ≠ j := by
  intro e
  subst e
  rw [h] at h'
  simp at h'
  exact ht h'.2.1

theorem own_ne {w : World} {base e size g n cap k : Nat} {xs : List Value} {c : Array Value} {t : TypeId} {fr : Nat × Nat} (hown : w.ownsRow base e size (.slice (some ⟨g, 0, none⟩) n cap) n xs)
    (h : w.heap[k]? = some (.cells c t fr)) (ht : t ≠ e) : k ≠ g := by
  rcases hown.2 with ⟨h0, _⟩ | ⟨g', cap', cur, h0, _, hb, _⟩
  · simp at h0
  · simp at h0
    rw [h0.1]
    exact blocks_ne h hb ht

theorem Seg.byte {w : World} {ao : Option Addr} {bs : List Int} (h : Seg w ao (bcells bs)) {k : Nat} (hk : k < bs.length) :
    ∃ b off, ao = some ⟨b, off, none⟩ ∧ ∀ j, j < bs.length → w.cell? ⟨b, off + j, none⟩ = some (.int .u8 (Grain.bt bs j)) := by
  rcases h with h | ⟨b, off, rfl, h⟩
  · have := congrArg List.length h; simp [bcells] at this; subst this; simp at hk
  · refine ⟨b, off, rfl, fun j hj => (h j (by simpa [bcells] using hj)).trans ?_⟩
    simp [bcells, Grain.bt, List.getElem?_eq_getElem hj, List.getD]

theorem and127_all : ∀ x : Fin 256, bits BinOp.and IntKind.u8 ((x.val : Nat) : Int) 127 = ((x.val : Nat) : Int) % 128 := by decide +kernel
theorem and127 {x : Int} (h0 : 0 ≤ x) (h1 : x ≤ 255) : bits BinOp.and IntKind.u8 x 127 = x % 128 := by
  obtain ⟨n, hn⟩ := Int.eq_ofNat_of_zero_le h0
  have := and127_all ⟨n, by omega⟩
  rw [hn, this]

theorem pow128 (k : Nat) : (2 : Nat) ^ (7 * k) = 128 ^ k := by rw [Nat.pow_mul]

theorem acc_or {bs : List Int} {k : Nat} (hk : k < 6) (h0 : 0 ≤ Grain.bt bs k) (h1 : Grain.bt bs k ≤ 255) :
    bits BinOp.or IntKind.u64 (Grain.acc bs k) (IntKind.u64.wrap (IntKind.u64.wrap (bits BinOp.and IntKind.u8 (Grain.bt bs k) 127) * 2 ^ (7 * k))) = Grain.acc bs (k + 1) := by
  rw [and127 h0 h1]
  have hb := Grain.acc_bd bs k
  obtain ⟨a, ha⟩ := Int.eq_ofNat_of_zero_le hb.1
  obtain ⟨x, hx⟩ := Int.eq_ofNat_of_zero_le (show 0 ≤ Grain.bt bs k % 128 by omega)
  have hx' : x < 128 := by omega
  have hp : (2 : Nat) ^ (7 * k) ≤ 34359738368 := by
    have : (2 : Nat) ^ (7 * k) ≤ 2 ^ 35 := Nat.pow_le_pow_right (by decide) (by omega)
    simpa using this
  have ha' : a < 2 ^ (7 * k) := by
    have h2 := hb.2
    rw [ha] at h2
    have h3 : ((128 : Int) ^ k) = (((2 : Nat) ^ (7 * k) : Nat) : Int) := by rw [pow128]; simp
    rw [h3] at h2
    exact Int.ofNat_lt.mp h2
  have hm : x * 2 ^ (7 * k) ≤ 127 * 34359738368 := Nat.mul_le_mul (by omega) hp
  simp only [Grain.acc]
  rw [hx, ha]
  have e1 : IntKind.u64.wrap ((x : Nat) : Int) = ((x : Nat) : Int) := by simp [IntKind.wrap_u64]; omega
  rw [e1]
  have e2 : ((x : Nat) : Int) * 2 ^ (7 * k) = ((x * 2 ^ (7 * k) : Nat) : Int) := by simp
  have e3 : ((x : Nat) : Int) * 128 ^ k = ((x * 2 ^ (7 * k) : Nat) : Int) := by rw [pow128]; simp
  rw [e2, e3]
  have e4 : IntKind.u64.wrap ((x * 2 ^ (7 * k) : Nat) : Int) = ((x * 2 ^ (7 * k) : Nat) : Int) := by rw [IntKind.wrap_u64]; omega
  rw [e4, u64_or_nat _ _ (by omega) (by omega)]
  have e5 : a ||| x * 2 ^ (7 * k) = x * 2 ^ (7 * k) + a := by
    rw [Nat.or_comm, Nat.mul_comm]; exact (Nat.two_pow_add_eq_or_of_lt ha' x).symm
  rw [e5]
  simp
  omega

theorem Seg.drop {w : World} {b off : Nat} {bs : List Int} (h : Seg w (some ⟨b, off, none⟩) (bcells bs)) (k : Nat) : Seg w (some ⟨b, off + k, none⟩) (bcells (bs.drop k)) := by
  rcases h with h | ⟨b', off', e, h⟩
  · left; have := congrArg List.length h; simp [bcells] at this; subst this; simp [bcells]
  · simp at e
    obtain ⟨rfl, rfl⟩ := e
    refine .inr ⟨b, off + k, rfl, fun j hj => ?_⟩
    have := h (k + j) (by simp [bcells] at hj ⊢; omega)
    rw [Nat.add_assoc, this]
    simp [bcells]

theorem Seg.none {w : World} {ao : Option Addr} {bs : List Int} (k : Nat) (h : bs.length ≤ k) : Seg w ao (bcells (bs.drop k)) := by
  left; rw [List.drop_eq_nil_of_le h]; rfl

theorem scells_append (a b : List (Int × Int)) : scells (a ++ b) = scells a ++ scells b := by
  induction a with
  | nil => rfl
  | cons x r ih => simp [scells, ih]

theorem own_slen {w : World} {base e N : Nat} {v : Value} {l : List (Int × Int)} (h : w.ownsRow base e 2 v N (scells l)) : N = l.length := by
  have := h.1; rw [scells_length] at this; omega

/-- what is owned can be read -/
theorem own_seg {w : World} {base e size g n cap : Nat} {xs : List Value} (h : w.ownsRow base e size (.slice (some ⟨g, 0, none⟩) n cap) n xs) : Seg w (some ⟨g, 0, none⟩) xs := by
  refine .inr ⟨g, 0, rfl, fun j hj => ?_⟩
  rw [Nat.zero_add]
  exact h.cellAt j (by rw [← h.1]; exact hj)

theorem below_block {w w' : World} (hb : Below w.heap.size w w') {k : Nat} {o : Obj} (h : w.heap[k]? = some o) : w'.heap[k]? = some o := by
  rw [hb.block k (lt_of_block h)]; exact h

theorem own_below {w w' : World} {base e size n : Nat} {v : Value} {xs : List Value} (h : w.ownsRow base e size v n xs) (hb : Below w.heap.size w w') : w'.ownsRow base e size v n xs :=
  h.kept (row := none) ⟨hb.os, hb.tape, hb.output, hb.size, fun k hk _ => hb.block k hk⟩ (by
    cases v.ownBlock with
    | none => exact .inl rfl
    | some x => exact .inr (by simp))

theorem news_two {W : World} {B : Nat} (hB : W.heap.size = B) (x y : Value) (t : TypeId) : ∀ j u, [x, y][j]? = some u → (W.alloc (.cells #[x, y] t)).cell? ((⟨B, 0, none⟩ : Addr).add j) = some u := by
  subst hB; exact cell_two_new W x y t

theorem seg_new (w : World) (cs : Array Value) (t : TypeId) : Seg (w.alloc (.cells cs t)) (some ⟨w.heap.size, 0, none⟩) cs.toList := by
  refine .inr ⟨w.heap.size, 0, rfl, fun j hj => ?_⟩
  rw [Nat.zero_add, World.cell?_alloc_new]
  simp

theorem own_cap {w : World} {base e size g n cap : Nat} {xs : List Value} (hown : w.ownsRow base e size (.slice (some ⟨g, 0, none⟩) n cap) n xs) : n ≤ cap ∧ cap ≤ maxLen := by
  rcases hown.2 with ⟨h0, _⟩ | ⟨g', cap', cur, h0, hb, hh, h1, h2, _⟩
  · simp at h0
  · simp at h0
    rw [h0.2]
    exact ⟨h1, h2⟩

end Go.GrainU
