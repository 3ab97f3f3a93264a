/-
  The walk of readSamples.
-/
import Derived.Test.YtlepdjfkgingpaaWalkD
import Derived.Laws.MakeOwn
namespace Go.Proofs.Ytlepdjfkgingpaa
open Go.RowKit Go.GrainU

theorem readNumber_none (bs : List Int) (ao : Option Addr) (n cap : Nat) (w : World) (hs : Seg w ao (bcells bs)) (hn : n = bs.length) (hc : n ≤ cap) (hm : cap ≤ maxLen) (hbs : Grain.AllB bs) (h : Grain.getNum bs = none) :
    Calls Try.prog 21 #[.slice ao n cap] w fun e w' => e = .returned (.tuple #[.int .i64 0, .slice none 0 0, .bool false]) ∧ Below w.heap.size w w' := by
  refine (readNumber_any bs ao n cap w w hs hs hn hc hm hbs.bt).mono ?_
  rintro e w' ⟨h1, h2⟩
  rw [hn, Grain.getNum_none h] at h1
  exact ⟨h1, h2⟩

theorem readNumber_some (bs : List Int) (ao : Option Addr) (n cap : Nat) (w0 w : World) (hs0 : Seg w0 ao (bcells bs)) (hb0 : Below w0.heap.size w0 w) (hn : n = bs.length) (hc : n ≤ cap) (hm : cap ≤ maxLen) (hbs : Grain.AllB bs) {d : Int} {r : List Int} (h : Grain.getNum bs = some (d, r)) :
    Calls Try.prog 21 #[.slice ao n cap] w fun e w' => ∃ ao' m c, e = .returned (.tuple #[.int .i64 d, .slice ao' m c, .bool true]) ∧ Below w.heap.size w w' ∧ Seg w0 ao' (bcells r) ∧ m = r.length ∧ m ≤ c ∧ c ≤ maxLen ∧ Grain.AllB r ∧ m < n := by
  refine (readNumber_any bs ao n cap w0 w hs0 (hs0.below hb0) hn hc hm hbs.bt).mono ?_
  rintro e w' ⟨h1, h2⟩
  obtain ⟨i, hi, _, hlt, rfl, rfl, _, _⟩ := Grain.getNum_some h
  rw [hn, hi] at h1
  obtain ⟨_, ao', rfl, hs'⟩ := h1
  exact ⟨ao', _, _, rfl, h2, hs', by simp, by omega, by omega, hbs.drop _, by omega⟩

theorem Try.info36 : (Try.prog.info? 36).map (fun i => (i.zero, i.size, i.bytes)) = some (some (.agg #[.int .i64 0, .int .i64 0]), 2, 16) := by kernel_rfl

/-- what holds at the head of each round of readSamples -/
structure RInv (w : World) (n : Nat) (r0 : List Int) (A k : Nat) (rs : List Int) (ao : Option Addr) (m c : Nat) (pre : List (Int × Int)) (t v s : Int) (g N cp : Nat) (X Y S : Int) (wr : World) : Prop where
  at_ : Grain.At n r0 k rs pre t v s
  seg : Seg w ao (bcells rs)
  len : m = rs.length
  cap : c ≤ maxLen
  bs : Grain.AllB rs
  own : wr.ownsRow w.heap.size 36 2 (.slice (some ⟨g, 0, none⟩) N cp) N (scells (pre.take 501))
  box : wr.heap[A]? = some (.cells #[.int .i64 X, .int .i64 Y] 36 (0, 0))
  ne : g ≠ A
  few : k ≤ 501 → X = t ∧ Y = v ∧ S = s
  bel : Below w.heap.size w wr

/-- what readSamples hands back -/
def RdS (w : World) (o : Option (List (Int × Int) × List Int)) (e : Ending) (w' : World) : Prop :=
  match o with
  | none => e = .returned (.tuple #[.slice none 0 0, .bool false]) ∧ Below w.heap.size w w'
  | some (l, q) => ∃ g N cp, e = .returned (.tuple #[.slice (some ⟨g, 0, none⟩) N cp, .bool (decide (q = []))]) ∧ w'.ownsRow w.heap.size 36 2 (.slice (some ⟨g, 0, none⟩) N cp) N (scells (l.take 501)) ∧ Below w.heap.size w w'

theorem RInv.push {w : World} {n : Nat} {r0 : List Int} {A k : Nat} {pre : List (Int × Int)} {X Y S : Int} {g N cp : Nat} {x y : Value} {w4 w5 : World} {r2 : List Int} {ao4 : Option Addr} {m4 c4 g1 cp1 : Nat}
    (NX : Grain.At n r0 (k + 1) r2 (pre ++ [(X, Y)]) X Y S) (seg : Seg w ao4 (bcells r2)) (len : m4 = r2.length) (cap : c4 ≤ maxLen) (bs : Grain.AllB r2)
    (own6 : w5.ownsRow w.heap.size 36 2 (.slice (some ⟨g1, 0, none⟩) (N + 1) cp1) (N + 1) (scells (pre.take 501) ++ [.int .i64 X, .int .i64 Y])) (hT : (pre ++ [(X, Y)]).take 501 = pre.take 501 ++ [(X, Y)])
    (box4 : w4.heap[A]? = some (.cells #[x, y] 36 (0, 0))) (ne : g ≠ A) (bel4 : Below w.heap.size w w4) (hA : w.heap.size ≤ A) (hg : w.heap.size ≤ g)
    (gr6 : (((w4.setCell ⟨A, 0, none⟩ (.int .i64 X)).setCell ⟨A, 1, none⟩ (.int .i64 Y)).alloc (.cells #[.int .i64 X, .int .i64 Y] 36)).grownBy w5 (Value.slice (some ⟨g, 0, none⟩) N cp).ownBlock)
    (hat : (Value.slice (some ⟨g, 0, none⟩) N cp).ownBlock = some g1 ∨ g1 = w4.heap.size + 1) :
    RInv w n r0 A (k + 1) r2 ao4 m4 c4 (pre ++ [(X, Y)]) X Y S g1 (N + 1) cp1 X Y S w5 := by
  have lt4 := lt_of_block box4
  have box5 := two_set box4 (.int .i64 X) (.int .i64 Y)
  have hsz : ((w4.setCell ⟨A, 0, none⟩ (.int .i64 X)).setCell ⟨A, 1, none⟩ (.int .i64 Y)).heap.size = w4.heap.size := by simp
  have hw := bel4.size
  refine ⟨NX, seg, len, cap, bs, ?_, ?_, ?_, fun _ => ⟨rfl, rfl, rfl⟩, ?_⟩
  · rw [hT, scells_append]; exact own6
  · rw [gr6.block A (by simp; omega) (by simp [Value.ownBlock]; omega), Below.heap_alloc _ _ _ (by rw [hsz]; exact lt4)]; exact box5
  · rcases hat with e | e
    · simp [Value.ownBlock] at e; omega
    · omega
  · exact ((((bel4.setCell hA _).setCell hA _).alloc (by rw [hsz]; omega) _).grown gr6 (by simp; omega) (fun j hj => by simp [Value.ownBlock] at hj; omega))

theorem RInv.skip {w : World} {n : Nat} {r0 : List Int} {A k : Nat} {pre : List (Int × Int)} {T V S X Y Z : Int} {g N cp : Nat} {x y : Value} {w4 : World} {r2 : List Int} {ao4 : Option Addr} {m4 c4 : Nat}
    (NX : Grain.At n r0 (k + 1) r2 (pre ++ [(T, V)]) T V S) (seg : Seg w ao4 (bcells r2)) (len : m4 = r2.length) (cap : c4 ≤ maxLen) (bs : Grain.AllB r2)
    (own4 : w4.ownsRow w.heap.size 36 2 (.slice (some ⟨g, 0, none⟩) N cp) N (scells (pre.take 501))) (hT : (pre ++ [(T, V)]).take 501 = pre.take 501)
    (box4 : w4.heap[A]? = some (.cells #[x, y] 36 (0, 0))) (ne : g ≠ A) (bel4 : Below w.heap.size w w4) (hA : w.heap.size ≤ A) (hk : 500 < k) :
    RInv w n r0 A (k + 1) r2 ao4 m4 c4 (pre ++ [(T, V)]) T V S g N cp X Y Z ((w4.setCell ⟨A, 0, none⟩ (.int .i64 X)).setCell ⟨A, 1, none⟩ (.int .i64 Y)) := by
  refine ⟨NX, seg, len, cap, bs, ?_, two_set box4 _ _, ne, fun h => by omega, (bel4.setCell hA _).setCell hA _⟩
  rw [hT]
  exact ownsRow_setCell_other (ownsRow_setCell_other own4 (by simp [Value.ownBlock]; omega) _) (by simp [Value.ownBlock]; omega) _

set_option maxHeartbeats 4000000 in
theorem readSamples_loop (bs : List Int) (ao : Option Addr) (n0 cap : Nat) (w : World) (hs : Seg w ao (bcells bs)) (hn : n0 = bs.length) (hc : n0 ≤ cap) (hm : cap ≤ maxLen) (hbs : Grain.AllB bs) (n : Nat) (r : List Int)
    (hg : Grain.getNum bs = some ((n : Int), r)) (hle : (n : Int) ≤ (r.length : Int) / 2) :
    Calls Try.prog 18 #[.slice ao n0 cap] w fun e w' => RdS w (Grain.rdAll n r 0 0 0) e w' := by
  obtain ⟨i0, hi, hz0, hz1, hz2⟩ := info_parts Try.info36
  have hn1 : n ≤ 9223372036854775807 := by
    obtain ⟨i, _, _, hlt, _, hr, _, _⟩ := Grain.getNum_some hg
    unfold maxLen at hm
    rw [hr] at hle; simp at hle; omega
  have HN := hide hn
  have HG := hide hg
  clear hn hg
  go_enter Try.func18, Try.ntmps18
  go_wp2_with fail
  refine (readNumber_some bs ao n0 cap w w hs (Below.refl _ _) HN.out hc hm hbs HG.out).mono ?_
  rintro e w1 ⟨ao1, m1, c1, rfl, hb1, hs1, hm1, hc1, hcm1, hB1, _⟩
  have hq : (n : Int) ≤ (m1 : Int) / 2 := by rw [hm1]; exact hle
  have hmm : m1 ≤ 9223372036854775807 := by unfold maxLen at hcm1; omega
  have HM1 := hide hm1
  clear hm1 HN HG hle
  have hsz1 := hb1.size
  by_cases h501 : 501 < n
  all_goals
    go_wp2_with (at_make; refine wpList_make_own _ rfl _ _ 22 rfl w.heap.size 36 i0 (.agg #[.int .i64 0, .int .i64 0]) 2 Try.underlying22 hi hz0 hz1 .i64 .i64 _ (min n 501) rfl rfl (by omega) (by rw [hz2]; omega) (by unfold maxLen; omega) (by omega) ?_; intro w2 hown2 hgr2)
    have hsz2 := hgr2.size
    have hl2 := (own_block hown2).2
    have I0 : RInv w n r w2.heap.size 0 r ao1 m1 c1 [] 0 0 0 w1.heap.size 0 (min n 501) 0 0 0 (w2.alloc (.cells #[.int .i64 0, .int .i64 0] 36)) :=
      ⟨Grain.At.start n r, hs1, HM1.out, hcm1, hB1, by simpa [scells] using hown2.alloc _, heap_alloc_new w2 _, by omega, fun _ => ⟨rfl, rfl, rfl⟩, ((hb1.trans (Below.grown (Below.refl _ _) hgr2 hsz1 (by simp))).alloc (by omega) _)⟩
    clear hown2 hgr2
    go_wp2
    go_loopw [5, 7, 9, 35] (fun rest lst st i wr => ∃ (k : Nat) (rs : List Int) (ao : Option Addr) (m c : Nat) (pre : List (Int × Int)) (t v s : Int) (g N cp : Nat) (X Y S : Int), k ≤ n ∧ m ≤ c ∧ i = .int .i64 k ∧ rest = .slice ao m c ∧ lst = .slice (some ⟨g, 0, none⟩) N cp ∧ st = .int .i64 S ∧
      RInv w n r w2.heap.size k rs ao m c pre t v s g N cp X Y S wr) (fun _ _ _ i _ => n - (intOf i).toNat)
    case atStart => exact ⟨0, r, ao1, m1, c1, [], 0, 0, 0, _, 0, _, 0, 0, 0, Nat.zero_le _, hc1, rfl, rfl, rfl, rfl, I0⟩
    case round =>
      clear I0
      obtain ⟨k, rs, ao2, m2, c2, pre, t, v, s, g, N, cp, X, Y, S, hk, hmc, rfl, rfl, rfl, rfl, I⟩ := hrel
      by_cases hlt : k < n
      · cases hg1 : Grain.getNum rs with
        | none =>
          have hno := hide (I.at_.no1 hlt hg1)
          go_wp2_with fail
          refine (readNumber_none rs ao2 m2 c2 wr (I.seg.below I.bel) I.len hmc I.cap I.bs hg1).mono ?_
          rintro e w3 ⟨rfl, hb3⟩
          clear hg1
          go_wp2
          go_ret2
          rw [hno.out]
          exact ⟨rfl, I.bel.trans (hb3.mono I.bel.size)⟩
        | some p1 =>
          obtain ⟨d, r1⟩ := p1
          have HG1 := hide hg1
          clear hg1
          go_wp2_with fail
          refine (readNumber_some rs ao2 m2 c2 w wr I.seg I.bel I.len hmc I.cap I.bs HG1.out).mono ?_
          rintro e w3 ⟨ao3, m3, c3, rfl, hb3, hs3, hm3, hc3, hcm3, hB3, _⟩
          have HM3 := hide hm3
          have bel3 := I.bel.trans (hb3.mono I.bel.size)
          clear hm3
          cases hg2 : Grain.getNum r1 with
          | none =>
            have hno := hide (I.at_.no2 hlt HG1.out hg2)
            go_wp2_with fail
            refine (readNumber_none r1 ao3 m3 c3 w3 (hs3.below bel3) HM3.out hc3 hcm3 hB3 hg2).mono ?_
            rintro e w4 ⟨rfl, hb4⟩
            clear hg2
            go_wp2
            go_ret2
            rw [hno.out]
            exact ⟨rfl, (I.bel.trans (hb3.mono I.bel.size)).trans (hb4.mono (Nat.le_trans I.bel.size hb3.size))⟩
          | some p2 =>
            obtain ⟨hh, r2⟩ := p2
            have HG2 := hide hg2
            clear hg2
            go_wp2_with fail
            refine (readNumber_some r1 ao3 m3 c3 w w3 hs3 bel3 HM3.out hc3 hcm3 hB3 HG2.out).mono ?_
            rintro e w4 ⟨ao4, m4, c4, rfl, hb4, hs4, hm4, hc4, hcm4, hB4, _⟩
            have HM4 := hide hm4
            clear hm4
            have NX := hide (I.at_.next hlt HG1.out HG2.out)
            have own4 := own_below (own_below I.own hb3) hb4
            have box4 := below_block hb4 (below_block hb3 I.box)
            have bel4 := (I.bel.trans (hb3.mono I.bel.size)).trans (hb4.mono (Nat.le_trans I.bel.size hb3.size))
            have ne4 := I.ne
            obtain ⟨x0, x1, x2, x3⟩ := two_cells box4
            have lt4 := lt_of_block box4
            by_cases h5 : k ≤ 500
            · obtain ⟨rfl, rfl, rfl⟩ := I.few (by omega)
              obtain ⟨s0, s1⟩ := I.at_.sb (by omega)
              obtain ⟨t0, t1⟩ := I.at_.tb (by omega)
              obtain ⟨v0, v1⟩ := I.at_.vb (by omega)
              obtain ⟨d0, d1⟩ := Grain.getNum_bd HG1.out
              obtain ⟨e0, e1⟩ := Grain.getNum_bd HG2.out
              have hN : N = k := by have h1 := own_slen I.own; have h2 := I.at_.len; simp at h1; omega
              have hN' : N ≤ 500 := by omega
              have HN := hide hN
              have HT := hide (Grain.take_snoc (pre := pre) (x := (X + (S + d), Y + hh)) (by rw [I.at_.len]; omega))
              have hgB := (own_block I.own).1
              have own5 := ownsRow_setCell_other (ownsRow_setCell_other own4 (a := ⟨w2.heap.size, 0, none⟩) (by simp [Value.ownBlock]; omega) (.int .i64 (X + (S + d)))) (a := ⟨w2.heap.size, 1, none⟩) (by simp [Value.ownBlock]; omega) (.int .i64 (Y + hh))
              clear I hB3 HG1 HG2 hb3 hb4 hN
              have hw4 := bel4.size
              go_wp2_with (at_builtin; refine wpList_append_lies _ rfl _ _ 22 rfl w.heap.size 36 i0 (.agg #[.int .i64 0, .int .i64 0]) 2 16 Try.underlying22 hi hz0 hz1 hz2 rfl (by decide) _ _ _ rfl (own5.alloc _) ⟨w4.heap.size, 0, none⟩ 1 1 [.int .i64 (X + (S + d)), .int .i64 (Y + hh)] rfl rfl (news_two (by simp) _ _ _) (by simp [Value.oneCell']) (by decide) (by unfold maxLen; omega) (by omega) (by simp; omega) (w4.heap.size + 1) (by simp) ?_)
              intro g1 cp1 w5 own6 gr6 hat6 hlt6
              have R := RInv.push NX.out hs4 HM4.out hcm4 hB4 own6 HT.out box4 ne4 bel4 (by omega) hgB gr6 hat6
              clear own6 gr6 hat6 own5 own4 box4 bel4 x0 x1 x2 x3 NX hs4 HT
              go_wp2
              go_roundw
              case rel => exact ⟨k + 1, r2, ao4, m4, c4, _, _, _, _, g1, N + 1, cp1, _, _, _, by omega, hc4, by go_num, rfl, rfl, rfl, R⟩
              case measure => simp [intOf]; omega
            · have hN : 501 ≤ N := by have h1 := own_slen I.own; have h2 := I.at_.len; simp at h1; omega
              have HT := hide (Grain.take_same (pre := pre) (x := (t + (s + d), v + hh)) (by rw [I.at_.len]; omega))
              clear I hB3 HG1 HG2 hb3 hb4
              first
                | (exfalso; omega)
                | (go_wp2
                   go_roundw
                   case rel => exact ⟨k + 1, r2, ao4, m4, c4, _, _, _, _, g, N, cp, _, _, _, by omega, hc4, by go_num, rfl, rfl, rfl, RInv.skip NX.out hs4 HM4.out hcm4 hB4 own4 HT.out box4 ne4 bel4 (by omega) (by omega)⟩
                   case measure => simp [intOf]; omega)
      · have he : k = n := by omega
        subst he
        have hdone := hide I.at_.done
        have hl := I.len
        have HB : Hid (decide (rs = []) = ((m2 : Int) == 0)) := by
          show decide (rs = []) = ((m2 : Int) == 0)
          rw [hl]; cases rs <;> simp <;> omega
        clear hl
        have FIN : Hid (∀ (b : Bool), b = ((m2 : Int) == 0) → RdS w (Grain.rdAll k r 0 0 0) (.returned (.tuple #[.slice (some ⟨g, 0, none⟩) N cp, .bool b])) wr) := fun b hb => by
          rw [hdone.out, hb]
          exact ⟨g, N, cp, by rw [HB.out], I.own, I.bel⟩
        clear hdone HB
        go_wp2
        go_ret2
        exact FIN.out _ rfl

end Go.Proofs.Ytlepdjfkgingpaa
