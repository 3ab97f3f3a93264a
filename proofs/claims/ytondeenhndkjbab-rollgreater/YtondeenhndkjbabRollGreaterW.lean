/-
  The walk of RollGreater.
-/
import Derived.Test.YtondeenhndkjbabRollAlive
import Derived.Test.YtondeenhndkjbabRollSame
import Derived.Test.YtondeenhndkjbabCodecWrong
import Derived.Test.YtondeenhndkjbabRollN
namespace Go.Proofs.Ytondeenhndkjbab
open Go.RowKit Go.GrainU

theorem field_err (x y : Int) (w : World) : (Instr.field 44 (.agg #[.int .i64 x, .int .i64 y]) 0).run Try.prog w = .ok (.int .i64 x) w := by
  simp [Instr.field, go_sem, asAgg]

set_option maxHeartbeats 1000000 in
theorem rgreater_any (l : List (Int × Int)) (ao : Option Addr) (n cap : Nat) (w : World) (hs : Seg w ao (scells l)) (hn : n = l.length) :
    Calls Try.prog 7 #[.slice ao n cap] w fun e w' => e = .returned (.bool true) ∧ Below w.heap.size w w' := by
  have HN := hide hn
  clear hn
  by_cases hw : (Grain.wrong l).1 = 0
  · have hr := Grain.right_of hw
    have h5 := hr.few
    rw [← HN.out] at h5
    have hq := Grain.wrong_zero hw
    go_enter Try.func7, Try.ntmps7
    go_wp2_with fail
    refine (kalive_any _).mono ?_
    rintro e w1 ⟨rfl, bel1⟩
    have hs1 := bel1.size
    have ff := field_err 0 0
    go_wp2_with fail
    refine (wrong_len l ao n cap _ (hs.below bel1) HN.out).mono ?_
    rintro e w2 ⟨rfl, hb2⟩
    rw [hq]
    have bel2 := bel1.trans (hb2.mono hs1)
    have hs2 := bel2.size
    clear hb2 bel1
    go_wp2_with fail
    refine (up_yes l ao n cap 1 10 _ (hs.below bel2) HN.out (by omega) (fun j hj => by have := hr.rng j hj; omega) (by simp [stepOf]) (.inl rfl)).mono ?_
    rintro e w3 ⟨bo, N, c, rfl, own3, hb3⟩
    have bel3 := bel2.trans (hb3.mono hs2)
    have hs3 := bel3.size
    obtain ⟨r1, r2, r3⟩ := hr.up (.inl rfl : (10 : Int) = 10 ∨ (10 : Int) = 60)
    have hN := hide (own_klen own3)
    obtain ⟨bo', c', e1, sg, _⟩ := own_open own3
    simp at e1
    obtain ⟨rfl, rfl⟩ := e1
    have ho := own3
    clear hb3 own3
    go_wp2_with fail
    refine (great_any (Grain.up l 10) bo N c _ sg hN.out (by have := hN.out; omega) (fun j hj => by have := Grain.inRB_get (r1.rng j hj); omega)).mono ?_
    rintro e w4 ⟨bo4, N4, c4, rfl, own4, hb4⟩
    rw [Grain.great_up l (by rw [← HN.out]; omega)] at own4
    have bel4 := bel3.trans (hb4.mono hs3)
    have hs4 := bel4.size
    have hN4 := hide (own_klen own4)
    clear hb4 ho sg
    go_wp2_with fail
    refine (up_yes l ao n cap 2 60 _ (hs.below bel4) HN.out (by omega) (fun j hj => by have := hr.rng j hj; omega) (by simp [stepOf]) (.inr rfl)).mono ?_
    rintro e w5 ⟨bo5, N5, c5, rfl, own5, hb5⟩
    have own4' := own_below own4 hb5
    have bel5 := bel4.trans (hb5.mono hs4)
    have hs5 := bel5.size
    have hN5 := hide (own_klen own5)
    have e5 : N5 = N4 := by have := hN4.out; have := hN5.out; omega
    subst e5
    obtain ⟨q4, d4, e1, sg4, _⟩ := own_open own4'
    simp at e1
    obtain ⟨rfl, rfl⟩ := e1
    obtain ⟨q5, d5, e1, sg5, _⟩ := own_open own5
    simp at e1
    obtain ⟨rfl, rfl⟩ := e1
    have h60 := (hr.up (.inr rfl : (60 : Int) = 10 ∨ (60 : Int) = 60)).2.1
    clear hb5 own4 own5 own4'
    go_wp2_with fail
    refine (ksame_any (Grain.up l 60) bo4 bo5 N5 c4 c5 _ sg4 sg5 hN5.out (by have := hN5.out; omega)).mono ?_
    rintro e w6 ⟨rfl, hb6⟩
    have bel6 := bel5.trans (hb6.mono hs5)
    clear hb6 sg4 sg5
    go_wp2
    go_ret
    exact ⟨rfl, bel6⟩
  · obtain ⟨x, hx⟩ : ∃ x, x = (Grain.wrong l).1 := ⟨_, rfl⟩
    obtain ⟨y, hy⟩ : ∃ y, y = (Grain.wrong l).2 := ⟨_, rfl⟩
    have hz : (x != 0) = true := by rw [hx]; simpa using hw
    have HX := hide hx
    have HY := hide hy
    clear hx hy hw
    go_enter Try.func7, Try.ntmps7
    go_wp2_with fail
    refine (kalive_any _).mono ?_
    rintro e w1 ⟨rfl, bel1⟩
    have hs1 := bel1.size
    have ff := field_err x y
    go_wp2_with fail
    refine (wrong_len l ao n cap _ (hs.below bel1) HN.out).mono ?_
    rintro e w2 ⟨rfl, hb2⟩
    rw [← HX.out, ← HY.out]
    have bel2 := bel1.trans (hb2.mono hs1)
    clear hb2 bel1
    go_wp2
    go_ret
    exact ⟨rfl, bel2⟩

end Go.Proofs.Ytondeenhndkjbab
