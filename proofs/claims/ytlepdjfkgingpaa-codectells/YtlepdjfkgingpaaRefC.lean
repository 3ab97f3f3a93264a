/-
  The walk of the document's Get.
-/
import Derived.Test.YtlepdjfkgingpaaWalkE
namespace Go.Proofs.Ytlepdjfkgingpaa
open Go.RowKit Go.GrainU

/-- what Get hands back -/
def GetR (bs : List Int) (p : Nat) (o : Option Nat) (e : Ending) : Prop :=
  match o with
  | none => e = .returned (.tuple #[.int .i64 0, .int .i64 p, .bool false])
  | some i => e = .returned (.tuple #[.int .i64 (Grain.unf (Grain.acc (bs.drop p) (i + 1))), .int .i64 ((p + i + 1 : Nat) : Int), .bool true])

theorem neg_half {X : Int} (h0 : 0 ≤ X) (h1 : X ≤ 4398046511104) (h : X % 2 = 1) : wrap64 (-(X + 1).tdiv 2) = -(X / 2) - 1 := by
  rw [Int.tdiv_eq_ediv_of_nonneg (by omega), IntWalk.wrap64_in _ ⟨by omega, by omega⟩]; omega

theorem bt_dropE (bs : List Int) (p j : Nat) : Grain.bt (bs.drop p) j = Grain.bt bs (p + j) := by
  simp [Grain.bt, List.getD]

set_option maxHeartbeats 1000000 in
theorem rget_any (bs : List Int) (ao : Option Addr) (n cap p : Nat) (w : World) (hs : Seg w ao (bcells bs)) (hn : n = bs.length) (hbs : Grain.AllB bs) (hp : p ≤ n) (hnn : n ≤ 4611686018427387904) :
    Calls Try.prog 19 #[.slice ao n cap, .int .i64 p] w fun e w' => GetR bs p (Grain.scan (bs.drop p) (min (n - p) 6) 0) e ∧ w' = w := by
  have HN := hide hn
  clear hn
  go_enter Try.func19, Try.ntmps19
  go_wp2
  go_loop [7, 8, 9] (fun x k i => ∃ (j : Nat) (K : Int), j ≤ min (n - p) 6 ∧ i = .int .i64 ((p : Int) + j) ∧ x = .int .i64 (Grain.acc (bs.drop p) j) ∧ k = .int .i64 K ∧ 1 ≤ K ∧ K ≤ 4398046511104 ∧ Hid (K = 128 ^ j) ∧ Hid (Grain.scan (bs.drop p) (min (n - p) 6) 0 = Grain.scan (bs.drop p) (min (n - p) 6 - j) j)) (fun _ _ i => n - (intOf i).toNat)
  case atStart => exact ⟨0, 1, Nat.zero_le _, by simp, rfl, rfl, by omega, by omega, rfl, rfl⟩
  case round =>
    obtain ⟨j, K, hj, rfl, rfl, rfl, K0, K1, HK, HS⟩ := hrel
    by_cases hlt : j < min (n - p) 6
    · obtain ⟨b, off, rfl, hcell⟩ := hs.byte (k := p + j) (by rw [← HN.out]; omega)
      have c0 := hcell (p + j) (by rw [← HN.out]; omega)
      clear hcell
      obtain ⟨b0, b1⟩ := hbs.bt (p + j)
      have hK5 : K ≤ 34359738368 := by
        rw [HK.out]
        have : ((128 ^ j : Nat) : Int) ≤ ((128 ^ 5 : Nat) : Int) := Int.ofNat_le.mpr (Nat.pow_le_pow_right (by decide) (by omega))
        simpa using this
      have m0 : 0 ≤ Grain.bt bs (p + j) % 128 * K := Int.mul_nonneg (by omega) (by omega)
      have m1 : Grain.bt bs (p + j) % 128 * K ≤ 127 * 34359738368 := Int.mul_le_mul (by omega) hK5 (by omega) (by omega)
      obtain ⟨X, hX⟩ : ∃ X, X = Grain.acc (bs.drop p) (j + 1) := ⟨_, rfl⟩
      have HX := hide hX
      obtain ⟨X0, X1⟩ := Grain.acc_le (bs.drop p) (k := j) (by omega)
      rw [← hX] at X0 X1
      have hsum : Grain.acc (bs.drop p) j + Grain.bt bs (p + j) % 128 * K = X := by
        rw [hX, HK.out]; simp only [Grain.acc, bt_dropE]
      clear hX
      have a0 : 0 ≤ Grain.acc (bs.drop p) j := (Grain.acc_bd _ _).1
      have a1 : Grain.acc (bs.drop p) j ≤ 4398046511104 := by omega
      obtain ⟨q, hq⟩ : ∃ q, min (n - p) 6 - j = q + 1 := ⟨min (n - p) 6 - j - 1, by omega⟩
      rw [hq] at HS
      by_cases hb : 128 ≤ Grain.bt bs (p + j)
      · have HS' : Hid (Grain.scan (bs.drop p) (min (n - p) 6) 0 = Grain.scan (bs.drop p) (min (n - p) 6 - (j + 1)) (j + 1)) := by
          show Grain.scan (bs.drop p) (min (n - p) 6) 0 = Grain.scan (bs.drop p) (min (n - p) 6 - (j + 1)) (j + 1)
          rw [HS.out, Grain.scan_more (by rw [bt_dropE]; exact hb), show min (n - p) 6 - (j + 1) = q from by omega]
        have HK' : Hid (K * 128 = 128 ^ (j + 1)) := by
          show K * 128 = 128 ^ (j + 1)
          rw [HK.out, Int.pow_succ]
        clear HS hq HK
        go_wp2
        go_round
        case rel => exact ⟨j + 1, K * 128, by omega, by go_num, by rw [HX.out], rfl, by omega, by omega, HK', HS'⟩
        case measure => simp [intOf]; omega
      · by_cases hz : Grain.bt bs (p + j) = 0 ∧ 0 < j
        · have HS' : Hid (Grain.scan (bs.drop p) (min (n - p) 6) 0 = none) := by
            show Grain.scan (bs.drop p) (min (n - p) 6) 0 = none
            rw [HS.out, Grain.scan_zero (by rw [bt_dropE]; exact hz.1) hz.2]
          have z1 : (Grain.bt bs (p + j) == 0) = true := by simpa using hz.1
          have z2 : (p : Int) < p + j := by omega
          clear HS hq HK hz
          go_wp2
          go_ret3
          exact ⟨by rw [HS'.out]; exact rfl, rfl⟩
        · have HS' : Hid (Grain.scan (bs.drop p) (min (n - p) 6) 0 = some j) := by
            show Grain.scan (bs.drop p) (min (n - p) 6) 0 = some j
            rw [HS.out, Grain.scan_last (by rw [bt_dropE]; exact hb) (by rw [bt_dropE]; exact hz)]
          have fin : Hid (∀ d : Int, d = Grain.unf X → GetR bs p (Grain.scan (bs.drop p) (min (n - p) 6) 0) (.returned (.tuple #[.int .i64 d, .int .i64 ((p : Int) + j + 1), .bool true]))) := by
            intro d hd
            rw [HS'.out, hd, HX.out]
            exact rfl
          clear HS hq HK HX HS'
          have hz' : (j = 0) ∨ (0 < j ∧ Grain.bt bs (p + j) ≠ 0) := by omega
          clear hz
          rcases hz' with z | ⟨z, z'⟩
          · have z2 : (p : Int) + j ≤ p := by omega
            clear z
            by_cases hodd : X % 2 = 1
            · have o1 : (X % 2 == 1) = true := by simpa using hodd
              go_wp2
              go_ret3
              exact ⟨fin.out _ (by unfold Grain.unf; rw [if_pos hodd]; exact neg_half X0 X1 hodd), rfl⟩
            · have o1 : (X % 2 == 1) = false := by simpa using hodd
              go_wp2
              go_ret3
              exact ⟨fin.out _ (by unfold Grain.unf; rw [if_neg hodd]), rfl⟩
          · have z1 : (Grain.bt bs (p + j) == 0) = false := by simpa using z'
            have z2 : (p : Int) < p + j := by omega
            clear z z'
            by_cases hodd : X % 2 = 1
            · have o1 : (X % 2 == 1) = true := by simpa using hodd
              go_wp2
              go_ret3
              exact ⟨fin.out _ (by unfold Grain.unf; rw [if_pos hodd]; exact neg_half X0 X1 hodd), rfl⟩
            · have o1 : (X % 2 == 1) = false := by simpa using hodd
              go_wp2
              go_ret3
              exact ⟨fin.out _ (by unfold Grain.unf; rw [if_neg hodd]), rfl⟩
    · have HS' : Hid (Grain.scan (bs.drop p) (min (n - p) 6) 0 = none) := by
        show Grain.scan (bs.drop p) (min (n - p) 6) 0 = none
        rw [HS.out, show min (n - p) 6 - j = 0 from by omega]; rfl
      clear HS HK
      by_cases hl : p + j < n
      · have hj6 : 6 ≤ j := by omega
        go_wp2
        go_ret3
        exact ⟨by rw [HS'.out]; exact rfl, rfl⟩
      · go_wp2
        go_ret3
        exact ⟨by rw [HS'.out]; exact rfl, rfl⟩

theorem rget_none (bs : List Int) (ao : Option Addr) (n cap p : Nat) (w : World) (hs : Seg w ao (bcells bs)) (hn : n = bs.length) (hbs : Grain.AllB bs) (hp : p ≤ n) (hnn : n ≤ 4611686018427387904) (h : Grain.getNum (bs.drop p) = none) :
    Calls Try.prog 19 #[.slice ao n cap, .int .i64 p] w fun e w' => e = .returned (.tuple #[.int .i64 0, .int .i64 p, .bool false]) ∧ w' = w := by
  refine (rget_any bs ao n cap p w hs hn hbs hp hnn).mono ?_
  rintro e w' ⟨h1, h2⟩
  have := Grain.getNum_none h
  rw [List.length_drop, ← hn] at this
  rw [this] at h1
  exact ⟨h1, h2⟩

theorem rget_some (bs : List Int) (ao : Option Addr) (n cap p : Nat) (w : World) (hs : Seg w ao (bcells bs)) (hn : n = bs.length) (hbs : Grain.AllB bs) (hp : p ≤ n) (hnn : n ≤ 4611686018427387904) {d : Int} {r : List Int}
    (h : Grain.getNum (bs.drop p) = some (d, r)) :
    Calls Try.prog 19 #[.slice ao n cap, .int .i64 p] w fun e w' => ∃ p' : Nat, e = .returned (.tuple #[.int .i64 d, .int .i64 p', .bool true]) ∧ w' = w ∧ r = bs.drop p' ∧ p < p' ∧ p' ≤ n := by
  refine (rget_any bs ao n cap p w hs hn hbs hp hnn).mono ?_
  rintro e w' ⟨h1, h2⟩
  obtain ⟨i, hi, _, hlt, rfl, rfl, _, _⟩ := Grain.getNum_some h
  rw [List.length_drop] at hlt
  rw [List.length_drop, ← hn] at hi
  rw [hi] at h1
  exact ⟨p + i + 1, h1, h2, by rw [List.drop_drop, Nat.add_assoc], by omega, by omega⟩

end Go.Proofs.Ytlepdjfkgingpaa
