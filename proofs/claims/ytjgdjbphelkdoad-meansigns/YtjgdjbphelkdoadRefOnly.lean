/-
  The walk of the document's Only.
-/
import Derived.Test.YtjgdjbphelkdoadRows
import Derived.Test.YtjgdjbphelkdoadLabM
import Derived.Test.YtjgdjbphelkdoadWordsU
import Derived.Deep.AppendLies
namespace Go.GrainU
open Go.RowKit

/-- the labels whose keys are among words -/
def only (l : List (ByteArray × ByteArray)) (ks : List ByteArray) : List (ByteArray × ByteArray) := l.filter fun x => has ks x.1

theorem only_take {l : List (ByteArray × ByteArray)} {ks : List ByteArray} {k : Nat} (h : k < l.length) : only (l.take (k + 1)) ks = if has ks (lk l k) = true then only (l.take k) ks ++ [(lk l k, lv l k)] else only (l.take k) ks := by
  rw [take_lab h]
  unfold only
  rw [List.filter_append]
  cases hh : has ks (lk l k) <;> simp [hh]

theorem only_len (l : List (ByteArray × ByteArray)) (ks : List ByteArray) : (only l ks).length ≤ l.length := List.length_filter_le _ _

theorem own_llen {w : World} {base e N : Nat} {v : Value} {l : List (ByteArray × ByteArray)} (h : w.ownsRow base e 2 v N (lcells l)) : N = l.length := by
  have := h.1; rw [lcells_length] at this; omega

end Go.GrainU
namespace Go.Proofs.Ytjgdjbphelkdoad
open Go.RowKit Go.GrainU

theorem Try.infoLabel : (Try.prog.info? 51).map (fun i => (i.zero, i.size, i.bytes)) = some (some (.agg #[.string ⟨#[]⟩, .string ⟨#[]⟩]), 2, 32) := by kernel_rfl

set_option maxHeartbeats 2000000 in
theorem ronly_any (l : List (ByteArray × ByteArray)) (ks : List ByteArray) (ao bo : Option Addr) (n cap m c : Nat) (w : World) (hs : Seg w ao (lcells l)) (hn : n = l.length) (hL : n * 32 ≤ 140737488351232) (hb : Seg w bo (wcells ks)) (hm : m = ks.length) (hM : m ≤ 9223372036854775806) :
    Calls Try.prog 75 #[.slice ao n cap, .slice bo m c] w fun e w' => ∃ co N d, e = .returned (.slice co N d) ∧ w'.ownsRow w.heap.size 51 2 (.slice co N d) N (lcells (only l ks)) ∧ Below w.heap.size w w' := by
  obtain ⟨i0, hi, hz0, hz1, hz2⟩ := info_parts Try.infoLabel
  have HN := hide hn
  have HM := hide hm
  clear hn hm
  go_enter Try.func75, Try.ntmps75
  go_wp2
  go_loopw [5, 12] (fun out i wr => ∃ (k N d : Nat) (co : Option Addr), k ≤ n ∧ i = .int .i64 k ∧ out = .slice co N d ∧ N ≤ k ∧ wr.ownsRow w.heap.size 51 2 (.slice co N d) N (lcells (only (l.take k) ks)) ∧ Below w.heap.size w wr) (fun _ i _ => n - (intOf i).toNat)
  case atStart => exact ⟨0, 0, 0, none, Nat.zero_le _, rfl, rfl, Nat.le_refl _, World.ownsRow_nil _ _ _ _, Below.refl _ _⟩
  case round =>
    obtain ⟨k, N, d, co, hk, rfl, rfl, hNk, own, bel⟩ := hrel
    have hsz := bel.size
    by_cases hlt : k < n
    · have hkl : k < l.length := by rw [← HN.out]; exact hlt
      obtain ⟨b, off, rfl, hbl, hcell⟩ := seg_label hs hkl
      obtain ⟨x, hx⟩ : ∃ x, x = lk l k := ⟨_, rfl⟩
      obtain ⟨y, hy⟩ : ∃ y, y = lv l k := ⟨_, rfl⟩
      have c0 : wr.cell? ⟨b, off + k * 2, none⟩ = some (.string x) := by rw [hx]; exact (bel.cell (by exact hbl)).trans (hcell k hkl).1
      have c1 : wr.cell? ⟨b, off + k * 2 + 1, none⟩ = some (.string y) := by rw [hy]; exact (bel.cell (by exact hbl)).trans (hcell k hkl).2
      have HU : Hid (only (l.take (k + 1)) ks = if has ks x = true then only (l.take k) ks ++ [(x, y)] else only (l.take k) ks) := by rw [hx, hy]; exact only_take hkl
      clear hx hy hcell hkl
      obtain ⟨V, hV⟩ : ∃ V, V = wr.alloc (.cells #[.string x, .string y] 51) := ⟨_, rfl⟩
      have F1 : V.heap[wr.heap.size]? = some (.cells #[.string x, .string y] 51 (0, 0)) := by rw [hV]; exact heap_alloc_new wr _
      have own1 : V.ownsRow w.heap.size 51 2 (.slice co N d) N (lcells (only (l.take k) ks)) := by rw [hV]; exact own.alloc _
      have bel1 : Below w.heap.size w V := by rw [hV]; exact bel.alloc hsz _
      have hs1 := bel1.size
      obtain ⟨p0, p1, _, _⟩ := two_cells F1
      have HV := hide hV
      clear hV own
      go_wp2
      rw [← HV.out]
      have HK := hide (rfl : wr.heap.size = wr.heap.size)
      obtain ⟨X, hX⟩ : ∃ X, X = wr.heap.size := ⟨_, rfl⟩
      rw [← hX] at F1 p0 p1 ⊢
      clear HK HV hX c0 c1 bel hsz
      go_loopw [5, 18] (fun o q wq => ∃ (j : Nat), j ≤ m ∧ o = .slice co N d ∧ q = .int .i64 j ∧ Hid (∀ i, i < j → ks.getD i ⟨#[]⟩ ≠ x) ∧ wq = V) (fun _ q _ => m - (intOf q).toNat)
      case atStart => exact ⟨0, Nat.zero_le _, rfl, rfl, fun i h => by omega, rfl⟩
      case round =>
        obtain ⟨j, hj, rfl, rfl, HJ, rfl⟩ := hrel
        by_cases hjm : j < m
        · have hjl : j < ks.length := by rw [← HM.out]; exact hjm
          obtain ⟨b2, off2, rfl, hbl2, hcell2⟩ := seg_word hb hjl
          obtain ⟨z, hz⟩ : ∃ z, z = ks.getD j ⟨#[]⟩ := ⟨_, rfl⟩
          have e0 : wr.cell? ⟨b2, off2 + j, none⟩ = some (.string z) := by rw [hz]; exact (bel1.cell (by exact hbl2)).trans (hcell2 j hjl)
          have Hz := hide hz
          have Hjl := hide hjl
          clear hz hcell2 hjl
          by_cases ez : z = x
          · subst ez
            obtain ⟨v1, v2⟩ := word_self z
            have HE : Hid (only (l.take (k + 1)) ks = only (l.take k) ks ++ [(z, y)]) := by
              show _ = _
              rw [HU.out, if_pos (has_at Hjl.out Hz.out.symm)]
            clear HU HJ
            go_wp2_with (at_builtin; refine wpList_append_lies _ rfl _ _ 42 rfl w.heap.size 51 i0 (.agg #[.string ⟨#[]⟩, .string ⟨#[]⟩]) 2 32 Try.underlying42 hi hz0 hz1 hz2 rfl (by decide) _ _ _ rfl (own1.alloc _) ⟨wr.heap.size, 0, none⟩ 1 1 [.string z, .string y] rfl rfl (news_two rfl _ _ _) (by simp [Value.oneCell']) (by decide) (by unfold maxLen; omega) (by omega) (by simp; omega) (wr.heap.size + 1) (by simp) ?_)
            intro g' cp' w5 own5 gr5 hat5 hlt5
            have own6 : w5.ownsRow w.heap.size 51 2 (.slice (some ⟨g', 0, none⟩) (N + 1) cp') (N + 1) (lcells (only (l.take (k + 1)) ks)) := by
              rw [HE.out, lcells_append]; exact own5
            have bel5 : Below w.heap.size w w5 := (bel1.alloc hs1 _).grown gr5 (by simp; omega) (fun j hj => (own1.lt j hj).1)
            clear own5 gr5 hat5 hlt5 own1 HE
            go_wp2
            go_roundw
            case rel => exact ⟨k + 1, N + 1, cp', _, by omega, by go_num, rfl, by omega, own6, bel5⟩
            case measure => simp [intOf]; omega
          · obtain ⟨v1, v2⟩ := word_ne ez
            have HJ' : Hid (∀ i, i < j + 1 → ks.getD i ⟨#[]⟩ ≠ x) := by
              intro i hi'
              rcases (show i < j ∨ i = j from by omega) with h | h
              · exact HJ.out i h
              · subst h; rw [← Hz.out]; exact ez
            clear HJ ez
            go_wp2
            go_roundw
            case rel => exact ⟨j + 1, by omega, rfl, by go_num, HJ', by first | rfl | trivial⟩
            case measure => simp [intOf]; omega
        · have HE : Hid (only (l.take (k + 1)) ks = only (l.take k) ks) := by
            show _ = _
            rw [HU.out, has_none (fun i hi' => HJ.out i (by have := HM.out; omega)), if_neg (by decide)]
          rw [← HE.out] at own1
          clear HU HJ HE
          go_wp2
          go_roundw
          case rel => exact ⟨k + 1, N, d, co, by omega, by go_num, rfl, by omega, own1, bel1⟩
          case measure => simp [intOf]; omega
    · have he : k = n := by omega
      subst he
      have HT := hide (List.take_of_length_le (i := k) (l := l) (by rw [← HN.out]; omega))
      rw [HT.out] at own
      clear HT HN
      go_wp2
      go_ret
      exact ⟨co, N, d, rfl, own, bel⟩

end Go.Proofs.Ytjgdjbphelkdoad
