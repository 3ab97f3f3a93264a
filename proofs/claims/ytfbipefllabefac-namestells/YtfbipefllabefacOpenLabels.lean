/-
  Arguments that are series, slices of matches, or of words, opened.
-/
import Derived.Test.YtfbipefllabefacRows
import Derived.Test.YtfbipefllabefacMatchM
import Derived.Deep.Slices
import Derived.Deep.SlicePairs
import Derived.ProofKit
import Derived.OpenShut
import Derived.ChangeOld
import Derived.Below
import Derived.SizedLaws
namespace Go.Proofs.Ytfbipefllabefac
open Go.ChangeShapes Go.WideShapes Go.ChangeAt Go.RowKit Go.GrainU

theorem Try.own : ownKnob Try.prog.godebug = none := by kernel_rfl
theorem Try.laidOut : laidOutB Try.prog = true := by kernel_rfl
theorem Try.cellsLabel : Try.prog.cellsOf 49 = 2 := by kernel_rfl
theorem Try.cellsMatch : Try.prog.cellsOf 53 = 3 := by kernel_rfl
theorem Try.cellsStr : Try.prog.cellsOf 9 = 1 := by kernel_rfl
theorem Try.cellsInt : Try.prog.cellsOf 3 = 1 := by kernel_rfl
theorem Try.bytesLabel : Try.prog.bytesOf 49 = 32 := by kernel_rfl

theorem field_word {H : Type} {enc : TypeId × Value → H} {W : World} {n : Nat} {c : Value} {o : Option (DataW H × List MemPlace)} (h : DataW.trod enc Try.prog W 0 (fun _ => true) true n 9 [c] = o) (ho : ∃ y, o = some y) : ∃ z : ByteArray, c = .string z ∧ z.size ≤ 9223372036854775807 := by
  obtain ⟨y, rfl⟩ := ho
  obtain ⟨z, hz, _, hw⟩ := DataW.trod_string Try.underlying9 h
  exact ⟨z, by simpa using hz, by unfold maxLen at hw; omega⟩

theorem field_num {H : Type} {enc : TypeId × Value → H} {W : World} {n : Nat} {c : Value} {o : Option (DataW H × List MemPlace)} (h : DataW.trod enc Try.prog W 0 (fun _ => true) true n 3 [c] = o) (ho : ∃ y, o = some y) : ∃ z, c = .int .i64 z := by
  obtain ⟨y, rfl⟩ := ho
  obtain ⟨z, hz, _, _⟩ := DataW.trod_int Try.underlying3 h
  exact ⟨z, by simpa using hz⟩

/-- one label's cells -/
theorem open_label {H : Type} {enc : TypeId × Value → H} {W : World} {n : Nat} {cs : List Value} {x : DataW H × List MemPlace}
    (h : DataW.trod enc Try.prog W 0 (fun _ => true) true n 49 cs = some x) : ∃ a b : ByteArray, cs = [.string a, .string b] ∧ a.size ≤ 9223372036854775807 ∧ b.size ≤ 9223372036854775807 := by
  obtain ⟨xs, m, _, _, hl, hlen, hf⟩ := DataW.trod_struct Try.underlying49 h
  rw [Try.cellsLabel] at hl
  match cs, hl with
  | [c0, c1], _ =>
    have hlen' : xs.length = 2 := hlen
    have ex : ∀ i, i < 2 → ∃ y, xs[i]? = some y := fun i hi => ⟨_, List.getElem?_eq_getElem (by omega)⟩
    have g0 : DataW.trod enc Try.prog W 0 (fun _ => true) true m 9 ((List.drop 0 [c0, c1]).take (Try.prog.cellsOf 9)) = xs[0]? := hf 0 _ rfl
    have g1 : DataW.trod enc Try.prog W 0 (fun _ => true) true m 9 ((List.drop 1 [c0, c1]).take (Try.prog.cellsOf 9)) = xs[1]? := hf 1 _ rfl
    rw [Try.cellsStr] at g0 g1
    simp only [List.drop_zero, List.drop_succ_cons, List.take_succ_cons, List.take_zero] at g0 g1
    obtain ⟨z0, rfl, s0⟩ := field_word g0 (ex 0 (by omega))
    obtain ⟨z1, rfl, s1⟩ := field_word g1 (ex 1 (by omega))
    exact ⟨z0, z1, rfl, s0, s1⟩

/-- one match's cells -/
theorem open_match {H : Type} {enc : TypeId × Value → H} {W : World} {n : Nat} {cs : List Value} {x : DataW H × List MemPlace}
    (h : DataW.trod enc Try.prog W 0 (fun _ => true) true n 53 cs = some x) : ∃ k : Mt, cs = [.int .i64 k.kind, .string k.key, .string k.val] := by
  obtain ⟨xs, m, _, _, hl, hlen, hf⟩ := DataW.trod_struct Try.underlying53 h
  rw [Try.cellsMatch] at hl
  match cs, hl with
  | [c0, c1, c2], _ =>
    have hlen' : xs.length = 3 := hlen
    have ex : ∀ i, i < 3 → ∃ y, xs[i]? = some y := fun i hi => ⟨_, List.getElem?_eq_getElem (by omega)⟩
    have g0 : DataW.trod enc Try.prog W 0 (fun _ => true) true m 3 ((List.drop 0 [c0, c1, c2]).take (Try.prog.cellsOf 3)) = xs[0]? := hf 0 _ rfl
    have g1 : DataW.trod enc Try.prog W 0 (fun _ => true) true m 9 ((List.drop 1 [c0, c1, c2]).take (Try.prog.cellsOf 9)) = xs[1]? := hf 1 _ rfl
    have g2 : DataW.trod enc Try.prog W 0 (fun _ => true) true m 9 ((List.drop 2 [c0, c1, c2]).take (Try.prog.cellsOf 9)) = xs[2]? := hf 2 _ rfl
    rw [Try.cellsInt] at g0
    rw [Try.cellsStr] at g1 g2
    simp only [List.drop_zero, List.drop_succ_cons, List.take_succ_cons, List.take_zero] at g0 g1 g2
    obtain ⟨z0, rfl⟩ := field_num g0 (ex 0 (by omega))
    obtain ⟨z1, rfl, _⟩ := field_word g1 (ex 1 (by omega))
    obtain ⟨z2, rfl, _⟩ := field_word g2 (ex 2 (by omega))
    exact ⟨⟨z0, z1, z2⟩, rfl⟩

theorem lab_at (f : Nat → ByteArray × ByteArray) (len k : Nat) (h : k < len) : lk ((List.range len).map f) k = (f k).1 ∧ lv ((List.range len).map f) k = (f k).2 := by
  simp [lk, lv, List.getD, h]

/-- cells that lie behind an address, c of them an element, by an element's own list -/
theorem seg_of {α : Type} {W : World} {b off len c : Nat} (hc : 0 < c) (f : Nat → α) (cell : α → List Value) (hcl : ∀ x, (cell x).length = c)
    (h : ∀ i, i < len → ∀ j, j < c → W.cell? ⟨b, off + (i * c + j), none⟩ = (cell (f i))[j]?) : Seg W (some ⟨b, off, none⟩) ((List.range len).flatMap fun i => cell (f i)) := by
  refine .inr ⟨b, off, rfl, fun j hj => ?_⟩
  have hl : ∀ n, ((List.range n).flatMap fun i => cell (f i)).length = n * c := by
    intro n
    induction n with
    | zero => simp
    | succ n ih => rw [List.range_succ, List.flatMap_append, List.length_append, ih]; simp [hcl, Nat.add_mul]
  rw [hl] at hj
  have hat : ∀ n i, i < n → ∀ q, q < c → ((List.range n).flatMap fun i => cell (f i))[i * c + q]? = (cell (f i))[q]? := by
    intro n
    induction n with
    | zero => intro i hi; omega
    | succ n ih =>
      intro i hi q hq
      rw [List.range_succ, List.flatMap_append]
      have hle : (i + 1) * c ≤ (n + 1) * c := Nat.mul_le_mul_right c (by omega)
      rw [Nat.add_mul] at hle
      by_cases e : i < n
      · have h2 : (i + 1) * c ≤ n * c := Nat.mul_le_mul_right c (by omega)
        rw [Nat.add_mul] at h2
        rw [List.getElem?_append_left (by rw [hl]; omega)]
        exact ih i e q hq
      · have e' : i = n := by omega
        subst e'
        rw [List.getElem?_append_right (by rw [hl]; omega), hl, show i * c + q - i * c = q from by omega]
        simp
  have hq : j % c < c := Nat.mod_lt _ hc
  have hd : j / c < len := Nat.div_lt_of_lt_mul (by rw [Nat.mul_comm]; exact hj)
  have hm : j / c * c + j % c = j := by rw [Nat.mul_comm]; exact Nat.div_add_mod j c
  have h1 := hat len (j / c) hd (j % c) hq
  have h2 := h (j / c) hd (j % c) hq
  rw [hm] at h1 h2
  rw [h1, h2]

theorem lcells_range (f : Nat → ByteArray × ByteArray) (n : Nat) : lcells ((List.range n).map f) = (List.range n).flatMap fun i => [.string (f i).1, .string (f i).2] := by
  induction n with
  | zero => rfl
  | succ n ih => rw [List.range_succ, List.map_append, lcells_append, ih, List.flatMap_append]; simp [lcells]

theorem mcells_append (a b : List Mt) : mcells (a ++ b) = mcells a ++ mcells b := by
  induction a with
  | nil => rfl
  | cons x r ih => simp [mcells, ih]

theorem mcells_range (f : Nat → Mt) (n : Nat) : mcells ((List.range n).map f) = (List.range n).flatMap fun i => [.int .i64 (f i).kind, .string (f i).key, .string (f i).val] := by
  induction n with
  | zero => rfl
  | succ n ih => rw [List.range_succ, List.map_append, mcells_append, ih, List.flatMap_append]; simp [mcells]

theorem open_labels {H : Type} {enc : TypeId × Value → H} {W : World} {fuel : Nat} {ao : Option Addr} {len cap : Nat} {x : DataW H × List MemPlace}
    (hf : DataW.trod enc Try.prog W 0 (fun _ => true) true fuel 37 (Value.slice ao len cap).cells.toList = some x) :
    ∃ l : List (ByteArray × ByteArray), Seg W ao (lcells l) ∧ len = l.length ∧ len ≤ cap ∧ cap ≤ maxLen ∧ Fits l ∧ (len = 0 ∨ ∃ es sp, x.1 = .slice es sp ∧ es.length + sp.length = cap) := by
  rcases Go.Deep.open_slice Try.underlying37 hf with ⟨hcs, _⟩ | ⟨a, l, c, m, n, D, Pl, hcs, _, hl, hm, hmm, hx, hcell⟩
  · simp [Value.cells] at hcs
    obtain ⟨rfl, rfl, rfl⟩ := hcs
    exact ⟨[], .inl rfl, rfl, Nat.le_refl _, by unfold maxLen; omega, fun k hk => by simp at hk, .inl rfl⟩
  · simp [Value.cells] at hcs
    obtain ⟨rfl, rfl, rfl⟩ := hcs
    simp at hmm
    subst hmm
    have each : ∀ i, i < len → ∃ k : ByteArray × ByteArray, (∀ j, j < 2 → W.cell? (a.add (i * 2 + j)) = [Value.string k.1, Value.string k.2][j]?) ∧ k.1.size ≤ 9223372036854775807 ∧ k.2.size ≤ 9223372036854775807 := by
      intro i hi
      obtain ⟨cs', h1, h2⟩ := hcell i (by omega)
      rw [Try.cellsLabel] at h1
      obtain ⟨_, hlen, hc⟩ := World.cells?_some h1
      obtain ⟨p, q, rfl, hp, hq⟩ := open_label h2
      refine ⟨(p, q), fun j hj => ?_, hp, hq⟩
      have := hc j hj
      rw [Go.Deep.add_add] at this
      exact this
    obtain ⟨f, hff⟩ := Go.Deep.choose_lt each
    refine ⟨(List.range len).map f, ?_, by simp, hl, hm, fun k hk => ?_, .inr ⟨_, _, by rw [hx], by simp; omega⟩⟩
    · rcases Nat.eq_zero_or_pos len with h0 | h0
      · subst h0; exact .inl rfl
      · obtain ⟨b, off, spot⟩ := a
        have hspot : spot = none := by
          have := (hff 0 h0).1 0 (by omega)
          simp only [Nat.zero_mul, Nat.add_zero, List.getElem?_cons_zero] at this
          simpa [Addr.add] using World.cell?_spot this
        subst hspot
        rw [lcells_range]
        refine seg_of (c := 2) (by omega) f (fun k => [.string k.1, .string k.2]) (fun _ => rfl) (fun i hi j hj => ?_)
        have := (hff i hi).1 j hj
        rw [Go.WideShapes.add_plain] at this
        exact this
    · simp at hk
      obtain ⟨e1, e2⟩ := lab_at f len k hk
      rw [e1, e2]
      exact (hff k hk).2

instance : Inhabited Mt := ⟨⟨0, ⟨#[]⟩, ⟨#[]⟩⟩⟩

theorem open_matches {H : Type} {enc : TypeId × Value → H} {W : World} {fuel : Nat} {ao : Option Addr} {len cap : Nat} {x : DataW H × List MemPlace}
    (hf : DataW.trod enc Try.prog W 0 (fun _ => true) true fuel 38 (Value.slice ao len cap).cells.toList = some x) :
    ∃ l : List Mt, Seg W ao (mcells l) ∧ len = l.length ∧ len ≤ cap ∧ cap ≤ maxLen ∧ (len = 0 ∨ ∃ es sp, x.1 = .slice es sp ∧ es.length + sp.length = cap) := by
  rcases Go.Deep.open_slice Try.underlying38 hf with ⟨hcs, _⟩ | ⟨a, l, c, m, n, D, Pl, hcs, _, hl, hm, hmm, hx, hcell⟩
  · simp [Value.cells] at hcs
    obtain ⟨rfl, rfl, rfl⟩ := hcs
    exact ⟨[], .inl rfl, rfl, Nat.le_refl _, by unfold maxLen; omega, .inl rfl⟩
  · simp [Value.cells] at hcs
    obtain ⟨rfl, rfl, rfl⟩ := hcs
    simp at hmm
    subst hmm
    have each : ∀ i, i < len → ∃ k : Mt, ∀ j, j < 3 → W.cell? (a.add (i * 3 + j)) = [Value.int .i64 k.kind, Value.string k.key, Value.string k.val][j]? := by
      intro i hi
      obtain ⟨cs', h1, h2⟩ := hcell i (by omega)
      rw [Try.cellsMatch] at h1
      obtain ⟨_, hlen, hc⟩ := World.cells?_some h1
      obtain ⟨k, rfl⟩ := open_match h2
      refine ⟨k, fun j hj => ?_⟩
      have := hc j hj
      rw [Go.Deep.add_add] at this
      exact this
    obtain ⟨f, hff⟩ := Go.Deep.choose_lt each
    refine ⟨(List.range len).map f, ?_, by simp, hl, hm, .inr ⟨_, _, by rw [hx], by simp; omega⟩⟩
    rcases Nat.eq_zero_or_pos len with h0 | h0
    · subst h0; exact .inl rfl
    · obtain ⟨b, off, spot⟩ := a
      have hspot : spot = none := by
        have := hff 0 h0 0 (by omega)
        simp only [Nat.zero_mul, Nat.add_zero, List.getElem?_cons_zero] at this
        simpa [Addr.add] using World.cell?_spot this
      subst hspot
      rw [mcells_range]
      refine seg_of (c := 3) (by omega) f (fun k => [.int .i64 k.kind, .string k.key, .string k.val]) (fun _ => rfl) (fun i hi j hj => ?_)
      have := hff i hi j hj
      rw [Go.WideShapes.add_plain] at this
      exact this

end Go.Proofs.Ytfbipefllabefac
