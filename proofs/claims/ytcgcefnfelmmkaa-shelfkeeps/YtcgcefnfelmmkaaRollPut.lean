/-
  The walks of Step, begin and put.
-/
import Derived.Test.YtcgcefnfelmmkaaRollU
namespace Go.Proofs.Ytcgcefnfelmmkaa
open Go.RowKit Go.GrainU

/-- how long a bucket of a tier is -/
def stepOf (tier : Int) : Int := if tier = 1 then 10 else if tier = 2 then 60 else 0

set_option maxHeartbeats 400000 in
theorem step_any (tier : Int) (w : World) : Calls Try.prog 35 #[.int .i64 tier] w fun e w' => e = .returned (.int .i64 (stepOf tier)) ∧ w' = w := by
  by_cases h1 : tier = 1
  · subst h1
    go_enter Try.func35, Try.ntmps35
    go_wp2
    go_ret
    exact ⟨ret_int (by simp [stepOf]), rfl⟩
  · by_cases h2 : tier = 2
    · subst h2
      go_enter Try.func35, Try.ntmps35
      go_wp2
      go_ret
      exact ⟨ret_int (by simp [stepOf]), rfl⟩
    · have hs : stepOf tier = 0 := by simp [stepOf, h1, h2]
      rw [hs]
      have e1 : (tier == 1) = false := by simpa using h1
      have e2 : (tier == 2) = false := by simpa using h2
      clear h1 h2 hs
      go_enter Try.func35, Try.ntmps35
      go_wp2
      go_ret
      exact ⟨rfl, rfl⟩

set_option maxHeartbeats 400000 in
theorem begin_any (t st : Int) (w : World) (h0 : 0 ≤ t) (h1 : t ≤ 1000000) (hst : st = 10 ∨ st = 60) :
    Calls Try.prog 37 #[.int .i64 t, .int .i64 st] w fun e w' => e = .returned (.int .i64 (Grain.beg t st)) ∧ w' = w := by
  rcases hst with rfl | rfl
  all_goals
    go_enter Try.func37, Try.ntmps37
    go_wp2
    go_ret
    exact ⟨ret_int (by unfold Grain.beg; omega), rfl⟩

/-- what put answers: buckets in memory of the caller's own -/
def PutPost (base : Nat) (v : Value) (w : World) (Y : List Grain.Bk) (e : Ending) (w' : World) : Prop :=
  ∃ g n' cap', e = .returned (.slice (some ⟨g, 0, none⟩) n' cap') ∧ w'.ownsRow base 67 8 (.slice (some ⟨g, 0, none⟩) n' cap') n' (kcells Y) ∧ w.grownBy w' v.ownBlock

set_option maxHeartbeats 1000000 in
theorem put_new (X : List Grain.Bk) (A : Int) (s : Grain.Sm) (base n cap : Nat) (ao : Option Addr) (w : World) (own : w.ownsRow base 67 8 (.slice ao n cap) n (kcells X)) (hb : base ≤ w.heap.size) (hn : n ≤ 1000000) (hoff : Grain.Off X A) :
    Calls Try.prog 36 #[.slice ao n cap, .int .i64 A, sv s] w (PutPost base (.slice ao n cap) w (X ++ [⟨A, s⟩])) := by
  obtain ⟨i0, hi, hz0, hz1, hz2⟩ := info_parts Try.infoBucket
  obtain ⟨sc, stt, smn, smx, sf, sl, sr⟩ := s
  have HO := hide hoff
  clear hoff
  simp only [sv]
  have fin : Hid (∀ (g cap' : Nat) (w1 : World), w1.ownsRow base 67 8 (.slice (some ⟨g, 0, none⟩) (n + 1) cap') (n + 1) (kcells X ++ kc ⟨A, ⟨sc, stt, smn, smx, sf, sl, sr⟩⟩) → ((w.alloc (.cells #[.int .i64 sc, .int .i64 stt, .int .i64 smn, .int .i64 smx, .int .i64 sf, .int .i64 sl, .int .i64 sr] 47)).alloc (.cells #[.int .i64 A, .int .i64 sc, .int .i64 stt, .int .i64 smn, .int .i64 smx, .int .i64 sf, .int .i64 sl, .int .i64 sr] 67)).grownBy w1 (Value.slice ao n cap).ownBlock →
      PutPost base (.slice ao n cap) w (X ++ [⟨A, ⟨sc, stt, smn, smx, sf, sl, sr⟩⟩]) (.returned (.slice (some ⟨g, 0, none⟩) (n + 1) cap')) w1) := by
    intro g cap' w1 h1 h2
    refine ⟨g, _, cap', rfl, by rw [kcells_snoc]; exact h1, ?_⟩
    refine grown_trans (grown_trans (World.grownBy_alloc w _ _) (World.grownBy_alloc _ _ none) (fun k h => by cases h)) h2 (fun k hk => .inl hk)
  have HL := hide (own_klen own)
  rcases Grain.snoc_or X with rfl | ⟨R, b, rfl⟩
  · have hn0 : n = 0 := HL.out
    subst hn0
    have hg : decide ((0 : Int) < ((0 : Nat) : Int)) = false := by decide
    have hg' : decide ((0 : Int) < 0) = false := by decide
    clear HO HL
    go_enter Try.func36, Try.ntmps36
    go_wp2_with (at_builtin; refine wpList_append_lies _ rfl _ _ 25 rfl base 67 i0 (.agg #[.int .i64 0, .int .i64 0, .int .i64 0, .int .i64 0, .int .i64 0, .int .i64 0, .int .i64 0, .int .i64 0]) 8 64 Try.underlying25 hi hz0 hz1 hz2 rfl (by decide) _ _ _ rfl ((own.alloc _).alloc _) ⟨w.heap.size + 1, 0, none⟩ 1 1 (kc ⟨A, ⟨sc, stt, smn, smx, sf, sl, sr⟩⟩) rfl rfl (World.news_of_block (cs := #[.int .i64 A, .int .i64 sc, .int .i64 stt, .int .i64 smn, .int .i64 smx, .int .i64 sf, .int .i64 sl, .int .i64 sr]) (t := 67) (fr := (0, 0)) (by simpa using heap_alloc_new (w.alloc _) _)) (by simp [kc, Value.oneCell']) (by decide) (by unfold maxLen; omega) (by omega) (by simp; omega) (w.heap.size + 2) (by simp) ?_)
    intro g cap' w1 own1 gr1 hat1 hlt1
    have F := hide (fin.out g cap' w1 own1 gr1)
    clear fin own1 gr1 hat1 hlt1 own
    go_wp2
    go_ret
    exact F.out
  · have hlen : n = R.length + 1 := by have := HL.out; simpa using this
    subst hlen
    obtain ⟨ao', c', hao, hseg, _⟩ := own_open own
    simp at hao
    obtain ⟨rfl, rfl⟩ := hao
    obtain ⟨bb, off, rfl, hbl, hc⟩ := seg_bucket hseg (k := R.length) (by simp)
    have hcell := (hc R.length (by simp)).1
    have eb : Grain.bk (R ++ [b]) R.length = b := by simp [Grain.bk]
    rw [eb] at hcell
    have ne : (b.a == A) = false := by simpa using HO.out R b rfl
    clear HO HL hc hseg eb
    go_enter Try.func36, Try.ntmps36
    go_wp2_with (at_builtin; refine wpList_append_lies _ rfl _ _ 25 rfl base 67 i0 (.agg #[.int .i64 0, .int .i64 0, .int .i64 0, .int .i64 0, .int .i64 0, .int .i64 0, .int .i64 0, .int .i64 0]) 8 64 Try.underlying25 hi hz0 hz1 hz2 rfl (by decide) _ _ _ rfl ((own.alloc _).alloc _) ⟨w.heap.size + 1, 0, none⟩ 1 1 (kc ⟨A, ⟨sc, stt, smn, smx, sf, sl, sr⟩⟩) rfl rfl (World.news_of_block (cs := #[.int .i64 A, .int .i64 sc, .int .i64 stt, .int .i64 smn, .int .i64 smx, .int .i64 sf, .int .i64 sl, .int .i64 sr]) (t := 67) (fr := (0, 0)) (by simpa using heap_alloc_new (w.alloc _) _)) (by simp [kc, Value.oneCell']) (by decide) (by unfold maxLen; omega) (by omega) (by simp; omega) (w.heap.size + 2) (by simp) ?_)
    intro g cap' w1 own1 gr1 hat1 hlt1
    have F := hide (fin.out g cap' w1 own1 gr1)
    clear fin own1 gr1 hat1 hlt1 own
    go_wp2
    go_ret
    exact F.out

end Go.Proofs.Ytcgcefnfelmmkaa
