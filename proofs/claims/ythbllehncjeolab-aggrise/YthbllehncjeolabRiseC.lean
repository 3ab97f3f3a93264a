/-
  The walk of AggRise's own function: numbers as samples that never fall.
-/
import Derived.Test.YthbllehncjeolabRows
import Derived.Test.YthbllehncjeolabUtilE
import Derived.Test.YthbllehncjeolabInfo
import Derived.Test.YthbllehncjeolabRiseM
namespace Go.Proofs.Ythbllehncjeolab
open Go.RowKit Go.GrainU

/-- what the function makes of numbers: nothing, or their samples, in memory of its own -/
def Made (base : Nat) (l : List Int) (v : Value) (at' : Int) (w : World) : Prop :=
  (∃ a c, v = .slice a 0 c) ∨ ∃ g n c, v = .slice (some ⟨g, 0, none⟩) n c ∧ w.ownsRow base 29 2 v n (scells (Grain.sm l n)) ∧ 1 ≤ n ∧ n ≤ 1001 ∧ Grain.Ok l n ∧ at' = Grain.ac l n

set_option maxHeartbeats 2000000 in
theorem made_any (l : List Int) (ao : Option Addr) (n cap : Nat) (w : World) (hs : Seg w ao (icells l)) (hn : n = l.length) (hL : n ≤ 1152921504606846975) :
    Calls Try.prog 10 #[.slice ao n cap] w fun e w' => ∃ v at', e = .returned (.tuple #[v, .int .i64 at']) ∧ Made w.heap.size l v at' w' ∧ Below w.heap.size w w' := by
  obtain ⟨i0, hi, hz0, hz1, hz2⟩ := info_parts Try.infoSample
  have Hn := hide hn
  clear hn
  go_enter Try.func10, Try.ntmps10
  go_wp2
  go_loopw [4, 5, 10] (fun lst at' i wr => ∃ (k : Nat) (s : Int), k ≤ n ∧ k ≤ 1001 ∧ i = .int .i64 k ∧ at' = .int .i64 s ∧ Hid (s = Grain.ac l k) ∧ Hid (Grain.Ok l k) ∧ wr.ownsRow w.heap.size 29 2 lst k (scells (Grain.sm l k)) ∧ Below w.heap.size w wr) (fun _ _ i _ => n - (intOf i).toNat)
  case atStart => exact ⟨0, 0, Nat.zero_le _, by omega, rfl, rfl, rfl, (fun j hj => by omega), World.ownsRow_nil _ _ _ _, Below.refl _ _⟩
  case round =>
    obtain ⟨k, s, hk, hk1, rfl, rfl, HS, HO, own, bel⟩ := hrel
    have hsz := bel.size
    by_cases hlt : k < n
    · have hkl : k < l.length := by rw [← Hn.out]; exact hlt
      obtain ⟨b, off, rfl, hcell⟩ := seg_int hs hkl
      have hb : b < w.heap.size := World.block_lt_of_cell? w ⟨b, off + k, none⟩ (hcell k hkl)
      obtain ⟨x, hx⟩ : ∃ x, x = l.getD k 0 := ⟨_, rfl⟩
      have c0 : wr.cell? ⟨b, off + k, none⟩ = some (.int .i64 x) := by rw [hx]; exact (bel.cell (by exact hb)).trans (hcell k hkl)
      have Hx := hide hx
      clear hcell hkl hx
      by_cases h1 : x < 0
      · go_wp2
        exact bodyPost_ret (v := .tuple #[.slice none 0 0, .int .i64 (-1)]) (by simp [results, Try.results10, go_sem]) rfl ⟨_, _, rfl, .inl ⟨_, _, rfl⟩, bel⟩
      · by_cases h2 : 1000 < x
        · go_wp2
          exact bodyPost_ret (v := .tuple #[.slice none 0 0, .int .i64 (-1)]) (by simp [results, Try.results10, go_sem]) rfl ⟨_, _, rfl, .inl ⟨_, _, rfl⟩, bel⟩
        · by_cases h3 : 1000 < k
          · go_wp2
            exact bodyPost_ret (v := .tuple #[.slice none 0 0, .int .i64 (-1)]) (by simp [results, Try.results10, go_sem]) rfl ⟨_, _, rfl, .inl ⟨_, _, rfl⟩, bel⟩
          · have bd := Grain.ac_bd l k HO.out
            rw [← HS.out] at bd
            have HO' : Hid (Grain.Ok l (k + 1)) := by
              intro j hj
              rcases (show j < k ∨ j = k from by omega) with h | h
              · exact HO.out j h
              · subst h; rw [← Hx.out]; omega
            have HS' : Hid (s + x = Grain.ac l (k + 1)) := by
              show s + x = Grain.ac l (k + 1)
              rw [Grain.ac, HS.out, Hx.out]
            have hd : decide ((1000 : Int) < ((k : Nat) : Int)) = false := by simp; omega
            go_wp2_with (at_builtin; refine wpList_append_lies _ rfl _ _ 27 rfl w.heap.size 29 i0 (.agg #[.int .i64 0, .int .i64 0]) 2 16 Try.underlying27 hi hz0 hz1 hz2 rfl (by decide) _ _ _ rfl (own.alloc _) ⟨wr.heap.size, 0, none⟩ 1 1 [.int .i64 k, .int .i64 (s + x)] rfl rfl (news_two rfl _ _ _) (by simp [Value.oneCell']) (by decide) (by unfold maxLen; omega) (by omega) (by simp; omega) (wr.heap.size + 1) (by simp) ?_)
            intro g1 cp1 w5 own6 gr6 hat6 hlt6
            have own7 : w5.ownsRow w.heap.size 29 2 (.slice (some ⟨g1, 0, none⟩) (k + 1) cp1) (k + 1) (scells (Grain.sm l (k + 1))) := by
              rw [Grain.sm, scells_append, ← HS'.out]; exact own6
            have bel7 : Below w.heap.size w w5 := (bel.alloc hsz _).grown gr6 (by simp; omega) (fun j hj => (own.lt j hj).1)
            clear own6 gr6 hat6 own
            go_wp2
            go_roundw
            case rel => exact ⟨k + 1, s + x, by omega, by omega, by go_num, by go_num, HS', HO', own7, bel7⟩
            case measure => simp [intOf]; omega
    · have he : k = n := by omega
      subst he
      have M : Hid (Made w.heap.size l u4 s wr) := by
        rcases Nat.eq_zero_or_pos k with h0 | h0
        · subst h0
          rcases own.2 with ⟨h, _⟩ | ⟨g, cap', cur, h, _⟩
          · exact .inl ⟨_, _, h⟩
          · exact .inl ⟨_, _, h⟩
        · obtain ⟨g, cp, rfl, hg1, hg2⟩ := own.form (by omega)
          exact .inr ⟨g, k, cp, rfl, own, h0, hk1, HO.out, HS.out⟩
      clear own HS HO
      go_wp2
      exact bodyPost_ret (v := .tuple #[u4, .int .i64 s]) (by simp [results, Try.results10, go_sem]) rfl ⟨_, _, rfl, M.out, bel⟩

end Go.Proofs.Ythbllehncjeolab
