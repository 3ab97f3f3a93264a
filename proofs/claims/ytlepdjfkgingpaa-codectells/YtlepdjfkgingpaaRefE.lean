/-
  The walk of the document's Parse.
-/
import Derived.Test.YtlepdjfkgingpaaRefA
import Derived.Test.YtlepdjfkgingpaaRefC
import Derived.Test.YtlepdjfkgingpaaMathE
namespace Go.Proofs.Ytlepdjfkgingpaa
open Go.RowKit Go.GrainU

/-- what is answered to what was read -/
def prsO (o : Option (List (Int × Int) × List Int)) : List (Int × Int) × Int :=
  match o with
  | some (l, []) => if (Grain.wrong l).1 = 0 then (l, 0) else ([], (Grain.wrong l).1)
  | _ => ([], 2)

/-- what Parse hands back -/
def PR (w : World) (o : Option (List (Int × Int) × List Int)) (e : Ending) (w' : World) : Prop :=
  ∃ a N c, e = .returned (.tuple #[.slice a N c, .int .i64 (prsO o).2]) ∧ w'.ownsRow w.heap.size 36 2 (.slice a N c) N (scells (prsO o).1) ∧ Below w.heap.size w w'

theorem PR_no {w w' : World} {o : Option (List (Int × Int) × List Int)} (h : ∀ l, o ≠ some (l, [])) (bel : Below w.heap.size w w') : PR w o (.returned (.tuple #[.slice none 0 0, .int .i64 2])) w' := by
  have e : prsO o = ([], 2) := by
    unfold prsO
    split
    · rename_i l; exact absurd rfl (h l)
    · rfl
  unfold PR
  rw [e]
  exact ⟨none, 0, 0, rfl, World.ownsRow_nil _ _ _ _, bel⟩

theorem PR_bad {w w' : World} {l : List (Int × Int)} (h : (Grain.wrong l).1 ≠ 0) (bel : Below w.heap.size w w') : PR w (some (l, [])) (.returned (.tuple #[.slice none 0 0, .int .i64 (Grain.wrong l).1])) w' := by
  have e : prsO (some (l, [])) = ([], (Grain.wrong l).1) := by simp [prsO, h]
  unfold PR
  rw [e]
  exact ⟨none, 0, 0, rfl, World.ownsRow_nil _ _ _ _, bel⟩

theorem PR_ok {w w' : World} {l : List (Int × Int)} {a : Option Addr} {N c : Nat} (h : (Grain.wrong l).1 = 0) (own : w'.ownsRow w.heap.size 36 2 (.slice a N c) N (scells l)) (bel : Below w.heap.size w w') : PR w (some (l, [])) (.returned (.tuple #[.slice a N c, .int .i64 0])) w' := by
  have e : prsO (some (l, [])) = (l, 0) := by simp [prsO, h]
  unfold PR
  rw [e]
  exact ⟨a, N, c, rfl, own, bel⟩

theorem own_form {w : World} {base e size n : Nat} {v : Value} {xs : List Value} (h : w.ownsRow base e size v n xs) : ∃ o c, v = .slice o n c ∧ Seg w o xs := by
  rcases h.2 with ⟨h0, h1⟩ | ⟨g, cap', cur, h0, _⟩
  · subst h1
    have hx : xs = [] := by have := h.1; simpa using this
    exact ⟨none, 0, h0, .inl hx⟩
  · subst h0
    exact ⟨_, _, rfl, own_seg h⟩

/-- what holds at the head of each round of the document's Parse -/
structure PInv (w : World) (bs : List Int) (n : Nat) (r0 : List Int) (k p : Nat) (L : List (Int × Int)) (v : Value) (wr : World) : Prop where
  at_ : ∃ pre, Grain.AtL n r0 k (bs.drop p) pre ∧ (k ≤ 501 → L = pre)
  len : L.length = k
  own : wr.ownsRow w.heap.size 36 2 v k (scells L)
  bel : Below w.heap.size w wr

theorem PInv.push {w : World} {bs : List Int} {n : Nat} {r0 : List Int} {k p p' : Nat} {L : List (Int × Int)} {v v' : Value} {wr w5 : World} {d h X Y : Int} {r1 : List Int}
    (I : PInv w bs n r0 k p L v wr) (hk : k < n) (h1 : Grain.getNum (bs.drop p) = some (d, r1)) (h2 : Grain.getNum r1 = some (h, bs.drop p'))
    (hX : k ≤ 500 → X = 2 * Grain.tp L k - Grain.yp L k + d) (hY : k ≤ 500 → Y = Grain.vp L k + h)
    (own : w5.ownsRow w.heap.size 36 2 v' (k + 1) (scells L ++ [.int .i64 X, .int .i64 Y])) (bel : Below w.heap.size w w5) : PInv w bs n r0 (k + 1) p' (L ++ [(X, Y)]) v' w5 := by
  obtain ⟨pre, ha, he⟩ := I.at_
  refine ⟨⟨_, ha.next hk h1 h2, fun h5 => ?_⟩, by simp [I.len], by rw [scells_append]; exact own, bel⟩
  have e := he (by omega)
  rw [hX (by omega), hY (by omega), e]

theorem At_bounds {n k : Nat} {r0 rs : List Int} {pre : List (Int × Int)} (a : Grain.AtL n r0 k rs pre) (hk : k ≤ 500) :
    -600000000000000000 ≤ Grain.tp pre k ∧ Grain.tp pre k ≤ 600000000000000000 ∧ -600000000000000000 ≤ Grain.yp pre k ∧ Grain.yp pre k ≤ 600000000000000000 ∧ -600000000000000000 ≤ Grain.vp pre k ∧ Grain.vp pre k ≤ 600000000000000000 := by
  have h1 := a.sb (by omega)
  have h2 := a.tb (by omega)
  have h3 := a.vb (by omega)
  rw [Grain.sp_yp] at h1
  omega

set_option maxRecDepth 100000 in
set_option maxHeartbeats 4000000 in
theorem rparse_loop (bs : List Int) (ao : Option Addr) (n0 cap : Nat) (w : World) (hs : Seg w ao (bcells bs)) (hn : n0 = bs.length) (hbs : Grain.AllB bs) (hnn : n0 ≤ 140737488355328) (n : Nat) (r : List Int)
    (hg : Grain.getNum bs = some ((n : Int), r)) (hle : (n : Int) ≤ (r.length : Int) / 2) :
    Calls Try.prog 12 #[.slice ao n0 cap] w fun e w' => PR w (Grain.rdAll n r 0 0 0) e w' := by
  obtain ⟨i0, hi, hz0, hz1, hz2⟩ := info_parts Try.info36
  obtain ⟨d0, d1⟩ := Grain.getNum_bd hg
  have HN := hide hn
  have HG := hide hg
  clear hn hg
  go_enter Try.func12, Try.ntmps12
  go_wp2_with fail
  refine (rget_some bs ao n0 cap 0 w hs HN.out hbs (by omega) (by omega) (by rw [List.drop_zero]; exact HG.out)).mono ?_
  rintro e w1 ⟨p1, rfl, hw1, hr1, _, hp1⟩
  rw [hw1]
  clear hw1
  have hq : 2 * (n : Int) ≤ (n0 : Int) - p1 := by rw [hr1, List.length_drop, ← HN.out] at hle; omega
  have HR1 := hide hr1
  clear hr1 hle
  go_wp2
  go_loopw [5, 7, 8] (fun at_ lst i wr => ∃ (k p : Nat) (L : List (Int × Int)), k ≤ n ∧ p ≤ n0 ∧ i = .int .i64 k ∧ at_ = .int .i64 p ∧ PInv w bs n r k p L lst wr) (fun _ _ i _ => n - (intOf i).toNat)
  case atStart => exact ⟨0, p1, [], Nat.zero_le _, hp1, rfl, rfl, ⟨[], by rw [← HR1.out]; exact Grain.AtL.start n r, fun _ => rfl⟩, rfl, World.ownsRow_nil _ _ _ _, Below.refl _ _⟩
  case round =>
    obtain ⟨k, p, L, hk, hp, rfl, rfl, I⟩ := hrel
    have hsw := hs.below I.bel
    have hsz := I.bel.size
    by_cases hlt : k < n
    · cases hg1 : Grain.getNum (bs.drop p) with
      | none =>
        obtain ⟨pre, ha, _⟩ := I.at_
        have hno := hide (Grain.At.no1 ha hlt hg1)
        have HG1 := hide hg1
        clear hg1
        go_wp2_with fail
        refine (rget_none bs ao n0 cap p _ hsw HN.out hbs hp (by omega) HG1.out).mono ?_
        rintro e w3 ⟨rfl, hw3⟩
        rw [hw3]; clear hw3
        go_wp2_with fail
        refine (rget_none bs ao n0 cap p _ hsw HN.out hbs hp (by omega) HG1.out).mono ?_
        rintro e w3 ⟨rfl, hw3⟩
        rw [hw3]; clear hw3
        go_wp2
        go_ret2
        rw [hno.out]
        exact PR_no (fun l h => by cases h) I.bel
      | some p1 =>
        obtain ⟨d, r1⟩ := p1
        have HG1 := hide hg1
        obtain ⟨d2, d3⟩ := Grain.getNum_bd hg1
        clear hg1
        go_wp2_with fail
        refine (rget_some bs ao n0 cap p _ hsw HN.out hbs hp (by omega) HG1.out).mono ?_
        rintro e w3 ⟨p2, rfl, hw3, hr2, _, hp2⟩
        rw [hw3]; clear hw3
        cases hg2 : Grain.getNum r1 with
        | none =>
          obtain ⟨pre, ha, _⟩ := I.at_
          have hno := hide (Grain.At.no2 ha hlt HG1.out hg2)
          have HG2 : Hid (Grain.getNum (bs.drop p2) = none) := by rw [hr2] at hg2; exact hg2
          clear hg2 hr2
          go_wp2_with fail
          refine (rget_none bs ao n0 cap p2 _ hsw HN.out hbs hp2 (by omega) HG2.out).mono ?_
          rintro e w3 ⟨rfl, hw3⟩
          rw [hw3]; clear hw3
          go_wp2
          go_ret2
          rw [hno.out]
          exact PR_no (fun l h => by cases h) I.bel
        | some p3 =>
          obtain ⟨hh, r3⟩ := p3
          have HG2 : Hid (Grain.getNum (bs.drop p2) = some (hh, r3)) := by rw [hr2] at hg2; exact hg2
          have HG2' := hide hg2
          obtain ⟨d4, d5⟩ := Grain.getNum_bd hg2
          clear hg2 hr2
          go_wp2_with fail
          refine (rget_some bs ao n0 cap p2 _ hsw HN.out hbs hp2 (by omega) HG2.out).mono ?_
          rintro e w3 ⟨p4, rfl, hw3, hr4, _, hp4⟩
          rw [hw3]; clear hw3
          have HR4 := hide hr4
          clear hr4
          have HG3 : Hid (Grain.getNum r1 = some (hh, bs.drop p4)) := by
            have := HG2'.out; rw [HR4.out] at this; exact this
          clear HG2' HG2 HR4
          have own0 := I.own
          rcases (show k = 0 ∨ k = 1 ∨ ∃ m, k = m + 2 from by
            rcases Nat.lt_or_ge k 2 with h | h
            · omega
            · exact .inr (.inr ⟨k - 2, by omega⟩)) with rfl | rfl | ⟨m, rfl⟩
          · go_wp2_with (at_builtin; refine wpList_append_lies _ rfl _ _ 22 rfl w.heap.size 36 i0 (.agg #[.int .i64 0, .int .i64 0]) 2 16 Try.underlying22 hi hz0 hz1 hz2 rfl (by decide) _ _ _ rfl (((own0.alloc _).alloc _).alloc _) ⟨wr.heap.size + 2, 0, none⟩ 1 1 [_, _] rfl rfl (news_two (by simp) _ _ _) (by simp [Value.oneCell']) (by decide) (by unfold maxLen; omega) (by omega) (by simp; omega) (wr.heap.size + 3) (by simp) ?_)
            intro g1 cp1 w5 own6 gr6 hat6 hlt6
            have bel6 : Below w.heap.size w w5 := (((I.bel.alloc hsz _).alloc (by simp; omega) _).alloc (by simp; omega) _).grown gr6 (by simp; omega) (fun j hj => (own0.lt j hj).1)
            have R := PInv.push I hlt HG1.out HG3.out (fun _ => by simp [Grain.tp, Grain.yp]) (fun _ => by simp [Grain.vp]) own6 bel6
            clear own6 gr6 hat6 own0 I
            go_wp2
            go_roundw
            case rel => exact ⟨0 + 1, p4, _, by omega, hp4, by go_num, rfl, R⟩
            case measure => simp [intOf]; omega
          · obtain ⟨pre, ha, he⟩ := I.at_
            have hLp := he (by omega)
            obtain ⟨q0, q1, q2, q3, q4, q5⟩ := At_bounds ha (by omega)
            rw [← hLp] at q0 q1 q2 q3 q4 q5
            clear hLp he ha
            have q0 : -600000000000000000 ≤ Grain.tm L 0 := q0
            have q1 : Grain.tm L 0 ≤ 600000000000000000 := q1
            have q4 : -600000000000000000 ≤ Grain.vl L 0 := q4
            have q5 : Grain.vl L 0 ≤ 600000000000000000 := q5
            obtain ⟨g, cp, rfl, hg1, hg2⟩ := own0.form (by omega)
            have hL := scells_at L 0 (by rw [I.len]; omega)
            have c0 : wr.cell? ⟨g, 0, none⟩ = some (.int .i64 (Grain.tm L 0)) := (own0.cellAt 0 (by omega)).trans hL.1
            have c1 : wr.cell? ⟨g, 1, none⟩ = some (.int .i64 (Grain.vl L 0)) := (own0.cellAt 1 (by omega)).trans hL.2
            clear hL
            go_wp2_with (at_builtin; refine wpList_append_lies _ rfl _ _ 22 rfl w.heap.size 36 i0 (.agg #[.int .i64 0, .int .i64 0]) 2 16 Try.underlying22 hi hz0 hz1 hz2 rfl (by decide) _ _ _ rfl (((own0.alloc _).alloc _).alloc _) ⟨wr.heap.size + 2, 0, none⟩ 1 1 [_, _] rfl rfl (news_two (by simp) _ _ _) (by simp [Value.oneCell']) (by decide) (by unfold maxLen; omega) (by omega) (by simp; omega) (wr.heap.size + 3) (by simp) ?_)
            intro g1 cp1 w5 own6 gr6 hat6 hlt6
            have bel6 : Below w.heap.size w w5 := (((I.bel.alloc hsz _).alloc (by simp; omega) _).alloc (by simp; omega) _).grown gr6 (by simp; omega) (fun j hj => (own0.lt j hj).1)
            have R := PInv.push I hlt HG1.out HG3.out (fun _ => by simp [Grain.tp, Grain.yp]) (fun _ => by simp [Grain.vp]) own6 bel6
            clear own6 gr6 hat6 own0 I
            go_wp2
            go_roundw
            case rel => exact ⟨1 + 1, p4, _, by omega, hp4, by go_num, rfl, R⟩
            case measure => simp [intOf]; omega
          · obtain ⟨g, cp, rfl, hg1, hg2⟩ := own0.form (by omega)
            have hL := scells_at L m (by rw [I.len]; omega)
            have hL1 := scells_at L (m + 1) (by rw [I.len]; omega)
            have c0 : wr.cell? ⟨g, m * 2, none⟩ = some (.int .i64 (Grain.tm L m)) := (own0.cellAt (m * 2) (by omega)).trans hL.1
            have c1 : wr.cell? ⟨g, m * 2 + 1, none⟩ = some (.int .i64 (Grain.vl L m)) := (own0.cellAt (m * 2 + 1) (by omega)).trans hL.2
            have c2 : wr.cell? ⟨g, (m + 1) * 2, none⟩ = some (.int .i64 (Grain.tm L (m + 1))) := (own0.cellAt ((m + 1) * 2) (by omega)).trans hL1.1
            have c3 : wr.cell? ⟨g, (m + 1) * 2 + 1, none⟩ = some (.int .i64 (Grain.vl L (m + 1))) := (own0.cellAt ((m + 1) * 2 + 1) (by omega)).trans hL1.2
            clear hL hL1
            by_cases h5 : m + 2 ≤ 500
            · obtain ⟨pre, ha, he⟩ := I.at_
              have hLp := he (by omega)
              obtain ⟨q0, q1, q2, q3, q4, q5⟩ := At_bounds ha (by omega)
              rw [← hLp] at q0 q1 q2 q3 q4 q5
              clear hLp he ha
              have q0 : -600000000000000000 ≤ Grain.tm L (m + 1) := q0
              have q1 : Grain.tm L (m + 1) ≤ 600000000000000000 := q1
              have q2 : -600000000000000000 ≤ Grain.tm L m := q2
              have q3 : Grain.tm L m ≤ 600000000000000000 := q3
              have q4 : -600000000000000000 ≤ Grain.vl L (m + 1) := q4
              have q5 : Grain.vl L (m + 1) ≤ 600000000000000000 := q5
              go_wp2_with (at_builtin; refine wpList_append_lies _ rfl _ _ 22 rfl w.heap.size 36 i0 (.agg #[.int .i64 0, .int .i64 0]) 2 16 Try.underlying22 hi hz0 hz1 hz2 rfl (by decide) _ _ _ rfl (((own0.alloc _).alloc _).alloc _) ⟨wr.heap.size + 2, 0, none⟩ 1 1 [_, _] rfl rfl (news_two (by simp) _ _ _) (by simp [Value.oneCell']) (by decide) (by unfold maxLen; omega) (by omega) (by simp; omega) (wr.heap.size + 3) (by simp) ?_)
              intro g1 cp1 w5 own6 gr6 hat6 hlt6
              have bel6 : Below w.heap.size w w5 := (((I.bel.alloc hsz _).alloc (by simp; omega) _).alloc (by simp; omega) _).grown gr6 (by simp; omega) (fun j hj => (own0.lt j hj).1)
              have R := PInv.push I hlt HG1.out HG3.out (fun _ => by simp [Grain.tp, Grain.yp]) (fun _ => by simp [Grain.vp]) own6 bel6
              clear own6 gr6 hat6 own0 I
              go_wp2
              go_roundw
              case rel => exact ⟨m + 2 + 1, p4, _, by omega, hp4, by go_num, rfl, R⟩
              case measure => simp [intOf]; omega
            · go_wp2_with (at_builtin; refine wpList_append_lies _ rfl _ _ 22 rfl w.heap.size 36 i0 (.agg #[.int .i64 0, .int .i64 0]) 2 16 Try.underlying22 hi hz0 hz1 hz2 rfl (by decide) _ _ _ rfl (((own0.alloc _).alloc _).alloc _) ⟨wr.heap.size + 2, 0, none⟩ 1 1 [_, _] rfl rfl (news_two (by simp) _ _ _) (by simp [Value.oneCell']) (by decide) (by unfold maxLen; omega) (by omega) (by simp; omega) (wr.heap.size + 3) (by simp) ?_)
              intro g1 cp1 w5 own6 gr6 hat6 hlt6
              have bel6 : Below w.heap.size w w5 := (((I.bel.alloc hsz _).alloc (by simp; omega) _).alloc (by simp; omega) _).grown gr6 (by simp; omega) (fun j hj => (own0.lt j hj).1)
              have R := PInv.push I hlt HG1.out HG3.out (fun h => absurd h h5) (fun h => absurd h h5) own6 bel6
              clear own6 gr6 hat6 own0 I
              go_wp2
              go_roundw
              case rel => exact ⟨m + 2 + 1, p4, _, by omega, hp4, by go_num, rfl, R⟩
              case measure => simp [intOf]; omega
    · have he : k = n := by omega
      subst he
      obtain ⟨pre, ha, hL⟩ := I.at_
      have hdone := hide (Grain.At.done ha)
      have hplen := hide ha.len
      have hW : Hid (Grain.wrong L = Grain.wrong pre) := by
        show Grain.wrong L = Grain.wrong pre
        by_cases h5 : k ≤ 501
        · rw [hL h5]
        · unfold Grain.wrong
          rw [if_pos (by rw [I.len]; omega), if_pos (by rw [ha.len]; omega)]
      by_cases hpe : p = n0
      · have hd0 : Hid (bs.drop p = []) := by
          show bs.drop p = []
          rw [hpe, HN.out, List.drop_length]
        have z1 : ((p : Int) != (n0 : Int)) = false := by rw [hpe]; simp
        clear hpe
        obtain ⟨a, c, rfl, hseg⟩ := own_form I.own
        have HL := hide I.len
        go_wp2_with fail
        refine (rwrong_any L a k c _ hseg HL.out.symm).mono ?_
        rw [hW.out]
        rintro e w2 ⟨rfl, hb2⟩
        have bel2 : Below w.heap.size w w2 := I.bel.trans (hb2.mono hsz)
        have own2 := own_below I.own hb2
        have hs2 := bel2.size
        by_cases hw : (Grain.wrong pre).1 = 0
        · have hk5 : k ≤ 500 := by have := (Grain.right_of hw).few; rw [hplen.out] at this; exact this
          have fin : Hid (∀ w', Below w.heap.size w w' → w'.ownsRow w.heap.size 36 2 (.slice a k c) k (scells L) → PR w (Grain.rdAll k r 0 0 0) (.returned (.tuple #[.slice a k c, .int .i64 0])) w') := by
            intro w' hb ho
            rw [hdone.out, hd0.out]
            rw [hL (by omega)] at ho
            exact PR_ok hw ho hb
          have z2 : ((Grain.wrong pre).1 != 0) = false := by simpa using hw
          clear hw hdone hplen hW hd0 hb2 I hL ha hseg HL
          go_wp2
          go_ret2
          exact fin.out _ (bel2.alloc hs2 _) (own2.alloc _)
        · have fin : Hid (∀ w', Below w.heap.size w w' → PR w (Grain.rdAll k r 0 0 0) (.returned (.tuple #[.slice none 0 0, .int .i64 (Grain.wrong pre).1])) w') := by
            intro w' hb
            rw [hdone.out, hd0.out]
            exact PR_bad hw hb
          have z2 : ((Grain.wrong pre).1 != 0) = true := by simpa using hw
          clear hw hdone hplen hW hd0 hb2 I hL ha hseg HL
          go_wp2
          go_quiet (fail)
          go_wp2
          go_ret2
          exact fin.out _ (below_drewN (bel2.alloc hs2 _) _)
      · have z1 : ((p : Int) != (n0 : Int)) = true := by simp; omega
        have hno : Hid (∀ l, (some (pre, bs.drop p) : Option (List (Int × Int) × List Int)) ≠ some (l, [])) := by
          intro l h
          simp at h
          have := HN.out
          omega
        clear hpe
        go_wp2
        go_ret2
        rw [hdone.out]
        exact PR_no hno.out I.bel

end Go.Proofs.Ytlepdjfkgingpaa
