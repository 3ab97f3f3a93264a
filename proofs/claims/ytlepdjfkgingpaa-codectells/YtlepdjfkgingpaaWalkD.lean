/-
  The walks of unfold and readNumber.
-/
import Derived.Test.YtlepdjfkgingpaaRows
import Derived.Test.YtlepdjfkgingpaaUtil
namespace Go.Proofs.Ytlepdjfkgingpaa
open Go.RowKit Go.GrainU

set_option maxHeartbeats 400000 in
theorem unfold_any (u : Int) (w : World) (h1 : 0 ≤ u) (h2 : u ≤ 4398046511104) :
    Calls Try.prog 22 #[.int .u64 u] w fun e w' => e = .returned (.int .i64 (Grain.unf u)) ∧ w' = w := by
  by_cases hn : u % 2 = 1
  · have hf : Grain.unf u = -(u / 2) - 1 := by simp [Grain.unf, hn]
    rw [hf]; clear hf
    have hb : (u % 2 == 1) = true := by simpa using hn
    go_enter Try.func22, Try.ntmps22
    go_wp2
    go_ret
    exact ⟨ret_int (by omega), rfl⟩
  · have hf : Grain.unf u = u / 2 := by simp [Grain.unf, hn]
    rw [hf]; clear hf
    have hb : (u % 2 == 1) = false := by simpa using hn
    go_enter Try.func22, Try.ntmps22
    go_wp2
    go_ret
    exact ⟨ret_int (by omega), rfl⟩

/-- what readNumber hands back -/
def Rd (w : World) (bs : List Int) (n cap : Nat) (o : Option Nat) (e : Ending) : Prop :=
  match o with
  | none => e = .returned (.tuple #[.int .i64 0, .slice none 0 0, .bool false])
  | some i => i < n ∧ ∃ ao, e = .returned (.tuple #[.int .i64 (Grain.unf (Grain.acc bs (i + 1))), .slice ao (n - (i + 1)) (cap - (i + 1)), .bool true]) ∧ Seg w ao (bcells (bs.drop (i + 1)))

set_option maxHeartbeats 400000 in
theorem readNumber_any (bs : List Int) (ao : Option Addr) (n cap : Nat) (w0 w : World) (hs0 : Seg w0 ao (bcells bs)) (hs : Seg w ao (bcells bs)) (hn : n = bs.length) (hc : n ≤ cap) (hm : cap ≤ maxLen) (hbs : ∀ j, 0 ≤ Grain.bt bs j ∧ Grain.bt bs j ≤ 255) :
    Calls Try.prog 21 #[.slice ao n cap] w fun e w' => Rd w0 bs n cap (Grain.scan bs (min n 6) 0) e ∧ Below w.heap.size w w' := by
  unfold maxLen at hm
  have HN : Hid (n = bs.length) := hn
  clear hn
  by_cases h6 : 6 < n
  all_goals
    go_enter Try.func21, Try.ntmps21
    go_wp2
    go_loop [5, 14] (fun u i => ∃ k : Nat, k ≤ min n 6 ∧ i = .int .i64 k ∧ u = .int .u64 (Grain.acc bs k) ∧ Hid (Grain.scan bs (min n 6) 0 = Grain.scan bs (min n 6 - k) k)) (fun _ i => 6 - (intOf i).toNat)
    case atStart => exact ⟨0, Nat.zero_le _, rfl, rfl, rfl⟩
    case round =>
      obtain ⟨k, hk, rfl, rfl, HK⟩ := hrel
      by_cases hlt : k < min n 6
      · obtain ⟨b, off, rfl, hcell⟩ := hs.byte (k := k) (by rw [← HN.out]; omega)
        have c0 := hcell k (by rw [← HN.out]; omega)
        clear hcell
        obtain ⟨b0, b1⟩ := hbs k
        have hor := acc_or (bs := bs) (k := k) (by omega) b0 b1
        obtain ⟨q, hq⟩ : ∃ q, min n 6 - k = q + 1 := ⟨min n 6 - k - 1, by omega⟩
        rw [hq] at HK
        by_cases hb : 128 ≤ Grain.bt bs k
        · have HK' : Hid (Grain.scan bs (min n 6) 0 = Grain.scan bs (min n 6 - (k + 1)) (k + 1)) := by
            show Grain.scan bs (min n 6) 0 = Grain.scan bs (min n 6 - (k + 1)) (k + 1)
            rw [HK.out, Grain.scan_more hb, show min n 6 - (k + 1) = q from by omega]
          clear HK hq
          go_wp2
          go_round
          case rel => exact ⟨k + 1, by omega, by go_num, rfl, HK'⟩
          case measure => simp [intOf]; omega
        · by_cases hz : Grain.bt bs k = 0 ∧ 0 < k
          · have HK' : Hid (Grain.scan bs (min n 6) 0 = none) := by
              show Grain.scan bs (min n 6) 0 = none
              rw [HK.out, Grain.scan_zero hz.1 hz.2]
            have z1 : (Grain.bt bs k == 0) = true := by simpa using hz.1
            have z2 : (0 : Int) < k := by omega
            clear HK hq hz
            go_wp2
            go_ret3
            exact ⟨by rw [HK'.out]; exact rfl, Below.refl _ _⟩
          · have HK' : Hid (Grain.scan bs (min n 6) 0 = some k) := by
              show Grain.scan bs (min n 6) 0 = some k
              rw [HK.out, Grain.scan_last hb hz]
            obtain ⟨A0, A1⟩ := Grain.acc_le bs (k := k) (by omega)
            clear HK hq
            have fin : ∀ w' : World, ∀ o, Below w.heap.size w w' → Seg w0 o (bcells (bs.drop (k + 1))) → Rd w0 bs n cap (Grain.scan bs (min n 6) 0) (.returned (.tuple #[.int .i64 (Grain.unf (Grain.acc bs (k + 1))), .slice o (n - (k + 1)) (cap - (k + 1)), .bool true])) ∧ Below w.heap.size w w' := fun w' o hw ho => by
              rw [HK'.out]; exact ⟨⟨by omega, o, rfl, ho⟩, hw⟩
            have FIN := hide fin
            clear fin
            by_cases z : Grain.bt bs k = 0
            · have z1 : (Grain.bt bs k == 0) = true := by simpa using z
              have z2 : (k : Int) ≤ 0 := by omega
              clear z hz
              go_wp2
              go_quiet ((go_at_call 22; exact Calls.quiet_of_same (unfold_any _ _ (by omega) (by omega))))
              go_wp2
              all_goals
                go_ret3
                first
                  | exact FIN.out _ _ (below_drewN (Below.refl _ _) _) (hs0.drop (k + 1))
                  | (have e1 := FIN.out; have hcap : cap = k + 1 := (by omega); rw [hcap] at e1; simp only [Nat.sub_self] at e1; exact e1 _ _ (below_drewN (Below.refl _ _) _) (Seg.none _ (by rw [← HN.out]; omega)))
            · have z1 : (Grain.bt bs k == 0) = false := by simpa using z
              clear z hz
              go_wp2
              go_quiet ((go_at_call 22; exact Calls.quiet_of_same (unfold_any _ _ (by omega) (by omega))))
              go_wp2
              all_goals
                go_ret3
                first
                  | exact FIN.out _ _ (below_drewN (Below.refl _ _) _) (hs0.drop (k + 1))
                  | (have e1 := FIN.out; have hcap : cap = k + 1 := (by omega); rw [hcap] at e1; simp only [Nat.sub_self] at e1; exact e1 _ _ (below_drewN (Below.refl _ _) _) (Seg.none _ (by rw [← HN.out]; omega)))
      · have HK' : Hid (Grain.scan bs (min n 6) 0 = none) := by
          show Grain.scan bs (min n 6) 0 = none
          rw [HK.out, show min n 6 - k = 0 from by omega]; rfl
        clear HK
        go_wp2
        go_ret3
        exact ⟨by rw [HK'.out]; exact rfl, Below.refl _ _⟩
end Go.Proofs.Ytlepdjfkgingpaa
