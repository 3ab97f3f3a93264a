/-
  A reader in memory; begin, accept, expect, next walked.
-/
import Derived.Test.YtfgablhgjbjbkadGreatDoorRows
import Derived.Test.YtfgablhgjbjbkadGreatDoorPM
import Derived.Test.YtfgablhgjbjbkadGreatDoorShelf
import Derived.Test.YtfgablhgjbjbkadGreatDoorUtilC
import Derived.Test.YtfgablhgjbjbkadGreatDoorExD
namespace Go.GrainU
open Go.RowKit

/-- how far it is read -/
def pos (s : ByteArray) (r : List UInt8) : Nat := s.size - r.length

theorem size_len (s : ByteArray) : s.size = s.data.toList.length := by show s.data.size = _; exact Array.length_toList.symm

theorem suf_len {s : ByteArray} {r : List UInt8} (h : r <:+ s.data.toList) : r.length ≤ s.size := by rw [size_len]; exact h.length_le

theorem suf_drop {s : ByteArray} {r : List UInt8} (h : r <:+ s.data.toList) : s.data.toList.drop (pos s r) = r := by
  obtain ⟨t, ht⟩ := h
  have hl : s.size = t.length + r.length := by rw [size_len, ← ht, List.length_append]
  unfold pos
  rw [← ht, hl, Nat.add_sub_cancel]
  exact List.drop_left

theorem suf_byte {s : ByteArray} {c : UInt8} {t : List UInt8} (h : (c :: t) <:+ s.data.toList) : ∃ hk : pos s (c :: t) < s.size, s[pos s (c :: t)]'hk = c := by
  have hl := suf_len h
  have hd := suf_drop h
  have hk : pos s (c :: t) < s.size := by unfold pos; simp at hl ⊢; omega
  refine ⟨hk, ?_⟩
  have h1 : s.data.toList[pos s (c :: t)]? = some c := by
    have := congrArg (fun l : List UInt8 => l[0]?) hd
    simpa using this
  rw [Array.getElem?_toList] at h1
  have h2 : s.data[pos s (c :: t)]? = some (s.data[pos s (c :: t)]'hk) := Array.getElem?_eq_getElem hk
  rw [h2] at h1
  exact Option.some.inj h1

theorem pos_tail {s : ByteArray} {c : UInt8} {t : List UInt8} (h : (c :: t) <:+ s.data.toList) : pos s t = pos s (c :: t) + 1 := by
  have hl := suf_len h
  unfold pos
  simp at hl ⊢
  omega

theorem pos_drop {s : ByteArray} {r : List UInt8} {k : Nat} (h : r <:+ s.data.toList) (hk : k ≤ r.length) : pos s (r.drop k) = pos s r + k := by
  have hl := suf_len h
  unfold pos
  rw [List.length_drop]
  omega

theorem skip_suf (r : List UInt8) : skip r <:+ r := List.dropWhile_suffix _

theorem drop_suf (r : List UInt8) (k : Nat) : r.drop k <:+ r := List.drop_suffix k r

theorem acc_some {sg r r' : List UInt8} (h : acc sg r = some r') : sg.isPrefixOf (skip r) = true ∧ r' = (skip r).drop sg.length ∧ sg.length ≤ (skip r).length := by
  unfold acc at h
  split at h
  · rename_i hp
    refine ⟨hp, (Option.some.inj h).symm, ?_⟩
    exact (List.isPrefixOf_iff_prefix.1 hp).length_le
  · cases h

theorem acc_suf {sg r r' : List UInt8} (h : acc sg r = some r') : r' <:+ r := by
  rw [(acc_some h).2.1]
  exact (drop_suf _ _).trans (skip_suf r)

/-- the block of a reader -/
structure Rd (t : TypeId) (w : World) (B : Nat) (s : ByteArray) (st : St) : Prop where
  suf : st.r <:+ s.data.toList
  blk : w.heap[B]? = some (.cells #[.string s, .int .i64 (pos s st.r : Nat), .int .i64 (st.n : Nat)] t (0, 0))

theorem Rd.lt {t : TypeId} {w : World} {B : Nat} {s : ByteArray} {st : St} (h : Rd t w B s st) : B < w.heap.size := by
  rcases Nat.lt_or_ge B w.heap.size with e | e
  · exact e
  · have := h.blk; rw [Array.getElem?_eq_none (by exact e)] at this; cases this

theorem Rd.cells {t : TypeId} {w : World} {B : Nat} {s : ByteArray} {st : St} (h : Rd t w B s st) :
    w.cell? ⟨B, 0, none⟩ = some (.string s) ∧ w.cell? ⟨B, 1, none⟩ = some (.int .i64 (pos s st.r : Nat)) ∧ w.cell? ⟨B, 2, none⟩ = some (.int .i64 (st.n : Nat)) := three_cells7 h.blk

theorem Rd.thaw {t : TypeId} {w : World} {B : Nat} {s : ByteArray} {st : St} (h : Rd t w B s st) :
    w.frozen? ⟨B, 0, none⟩ = false ∧ w.frozen? ⟨B, 1, none⟩ = false ∧ w.frozen? ⟨B, 2, none⟩ = false := by
  have := h.blk
  simp [World.frozen?, this]

theorem Rd.at {t : TypeId} {w : World} {B : Nat} {s : ByteArray} {st : St} (h : Rd t w B s st) {r : List UInt8} (hr : r <:+ s.data.toList) : Rd t (w.setCell ⟨B, 1, none⟩ (.int .i64 (pos s r : Nat))) B s ⟨r, st.n⟩ :=
  ⟨hr, by have := h.blk; simp [World.setCell, Array.getElem?_modify, this]⟩

theorem Rd.nodes {t : TypeId} {w : World} {B : Nat} {s : ByteArray} {st : St} (h : Rd t w B s st) (n : Nat) : Rd t (w.setCell ⟨B, 2, none⟩ (.int .i64 (n : Nat))) B s ⟨st.r, n⟩ :=
  ⟨h.suf, by have := h.blk; simp [World.setCell, Array.getElem?_modify, this]⟩

theorem Rd.alloc {t : TypeId} {w : World} {B : Nat} {s : ByteArray} {st : St} (h : Rd t w B s st) (o : Obj) : Rd t (w.alloc o) B s st :=
  ⟨h.suf, by rw [Below.heap_alloc _ _ _ h.lt]; exact h.blk⟩

theorem Rd.below {t : TypeId} {w w' : World} {B : Nat} {s : ByteArray} {st : St} (h : Rd t w B s st) (hb : Below w.heap.size w w') : Rd t w' B s st :=
  ⟨h.suf, below_block hb h.blk⟩

theorem grown_set8 {w : World} {B o : Nat} {y : Value} : w.grownBy (w.setCell ⟨B, o, none⟩ y) (some B) :=
  ⟨rfl, rfl, rfl, by simp, fun k hk hne => setCell_far (fun e => hne (by rw [e]))⟩

end Go.GrainU
namespace Go.Proofs.YtfgablhgjbjbkadGreatDoor
open Go.RowKit Go.GrainU

set_option maxHeartbeats 1000000 in
theorem begin_any (s : ByteArray) (st : St) (B : Nat) (w : World) (h : Rd 43 w B s st) (hs : s.size ≤ 2000) :
    Calls Tryz.prog 26 #[.pointer (some ⟨B, 0, none⟩)] w fun e w' => e = .returned (.int .i64 (pos s (skip st.r) : Nat)) ∧ w' = w := by
  obtain ⟨c0, c1, c2⟩ := h.cells
  have HSUF := hide h.suf
  obtain ⟨r, n⟩ := st
  simp only at c1 c2 HSUF ⊢
  clear h
  obtain ⟨P, hP⟩ : ∃ P, P = pos s r := ⟨_, rfl⟩
  rw [← hP] at c1
  have HP := hide hP
  clear hP
  go_enter Tryz.func26, Tryz.ntmps26
  go_wp2
  go_loopw [3] (fun i wr => ∃ (K : Nat) (q : List UInt8), i = .int .i64 K ∧ Hid (K = pos s q ∧ q <:+ s.data.toList ∧ skip q = skip r) ∧ wr = w) (fun i _ => s.size - (intOf i).toNat)
  case atStart => exact ⟨P, r, rfl, ⟨HP.out, HSUF.out, rfl⟩, rfl⟩
  case round =>
    obtain ⟨K, q, rfl, HQ, rfl⟩ := hrel
    cases q with
    | nil =>
      have hK : K = s.size := by rw [HQ.out.1]; simp [pos]
      have hlt : ¬ (K : Int) < (s.size : Int) := by omega
      have HE : Hid (pos s (skip r) = K) := by show _ = _; rw [← HQ.out.2.2, HQ.out.1]; rfl
      clear hK
      go_wp2
      go_ret
      exact ⟨by rw [HE.out]; rfl, rfl⟩
    | cons c t =>
      obtain ⟨hk, hb⟩ := suf_byte HQ.out.2.1
      have hK := HQ.out.1
      rw [← hK] at hk
      have hb' : ((s[K]'hk).toNat : Int) = (c.toNat : Int) := by simp only [hK]; rw [hb]
      obtain ⟨C, hC⟩ : ∃ C : Int, C = (c.toNat : Int) := ⟨_, rfl⟩
      rw [← hC] at hb'
      have hlt : (K : Int) < (s.size : Int) := by omega
      clear hK hb
      by_cases e : c = 32
      · have eC : (C == 32) = true := by rw [hC, e]; rfl
        have HQ' : Hid (K + 1 = pos s t ∧ t <:+ s.data.toList ∧ skip t = skip r) := by
          refine ⟨by rw [pos_tail HQ.out.2.1, ← HQ.out.1], (List.suffix_cons c t).trans HQ.out.2.1, ?_⟩
          rw [← HQ.out.2.2]
          simp [skip, e]
        clear hC e
        go_wp2
        go_roundw
        case rel => exact ⟨K + 1, t, by go_num, HQ', by first | rfl | trivial⟩
        case measure => simp [intOf]; omega
      · have eC : (C == 32) = false := by
          rw [hC, beq_eq_false_iff_ne]
          intro h
          apply e
          apply UInt8.toNat_inj.1
          have : (32 : UInt8).toNat = 32 := rfl
          omega
        have HE : Hid (pos s (skip r) = K) := by
          show _ = _
          rw [← HQ.out.2.2, HQ.out.1]
          have : skip (c :: t) = c :: t := by simp [skip, e]
          rw [this]
        clear hC e
        go_wp2
        go_ret
        exact ⟨by rw [HE.out]; rfl, rfl⟩

end Go.Proofs.YtfgablhgjbjbkadGreatDoor
