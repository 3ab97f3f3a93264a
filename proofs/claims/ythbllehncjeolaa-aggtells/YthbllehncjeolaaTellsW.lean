/-
  The walk of AggTells: the answers at once.
-/
import Derived.Test.YthbllehncjeolaaTellsA
import Derived.Test.YthbllehncjeolaaTellsB
namespace Go.Proofs.Ythbllehncjeolaa
open Go.RowKit Go.GrainU

/-- what the loop over the words keeps -/
structure TInv (w : World) (a : Grain.Sm) (x : ByteArray) (g cp : Nat) (wr : World) : Prop where
  own : wr.ownsRow w.heap.size 9 1 (.slice (some ⟨g, 0, none⟩) 9 cp) 9 (wsL x)
  box : SumAt wr w.heap.size a
  bel : Below w.heap.size w wr

theorem TInv.call {w wr w' : World} {a : Grain.Sm} {x : ByteArray} {g cp : Nat} (I : TInv w a x g cp wr) (hb : Below wr.heap.size wr w') : TInv w a x g cp w' :=
  ⟨own_below I.own hb, I.box.below hb, I.bel.trans (hb.mono I.bel.size)⟩

set_option maxHeartbeats 4000000 in
theorem tells_any (l : List (Int × Int)) (ao : Option Addr) (n cap : Nat) (a b : Grain.Sm) (x : ByteArray) (v : Int) (w : World) (hs : Seg w ao (scells l)) (hn : n = l.length) (hL : n ≤ 1152921504606846975)
    (hv : ∀ j, j < n → -9223372036854775808 ≤ Grain.vl l j ∧ Grain.vl l j ≤ 9223372036854775807) (t0 : -9223372036854775808 ≤ a.t) (t1 : a.t ≤ 9223372036854775807) (v0 : -9223372036854775808 ≤ v) (v1 : v ≤ 9223372036854775807) :
    Calls Try.prog 7 #[.slice ao n cap, .agg #[.int .i64 a.c, .int .i64 a.t, .int .i64 a.mn, .int .i64 a.mx, .int .i64 a.f, .int .i64 a.l, .int .i64 a.r], .agg #[.int .i64 b.c, .int .i64 b.t, .int .i64 b.mn, .int .i64 b.mx, .int .i64 b.f, .int .i64 b.l, .int .i64 b.r], .string x, .int .i64 v] w fun e w' => e = .returned (.bool true) ∧ Below w.heap.size w w' := by
  have Hn := hide hn
  have Hv := hide hv
  clear hn hv
  obtain ⟨W, hW, A, B, bel⟩ := two_sums w a b
  have HW := hide hW
  clear hW
  have HSB : Hid (∀ w' : World, Below W.heap.size W w' → w'.cell? ⟨w.heap.size, 0, none⟩ = some (.int .i64 a.c) ∧ w'.cell? ⟨w.heap.size, 1, none⟩ = some (.int .i64 a.t) ∧ w'.cell? ⟨w.heap.size, 2, none⟩ = some (.int .i64 a.mn) ∧ w'.cell? ⟨w.heap.size, 3, none⟩ = some (.int .i64 a.mx) ∧ w'.cell? ⟨w.heap.size, 4, none⟩ = some (.int .i64 a.f) ∧ w'.cell? ⟨w.heap.size, 5, none⟩ = some (.int .i64 a.l) ∧ w'.cell? ⟨w.heap.size, 6, none⟩ = some (.int .i64 a.r) ∧ w'.cell? ⟨w.heap.size + 1, 0, none⟩ = some (.int .i64 b.c) ∧ w'.cell? ⟨w.heap.size + 1, 1, none⟩ = some (.int .i64 b.t) ∧ w'.cell? ⟨w.heap.size + 1, 2, none⟩ = some (.int .i64 b.mn) ∧ w'.cell? ⟨w.heap.size + 1, 3, none⟩ = some (.int .i64 b.mx) ∧ w'.cell? ⟨w.heap.size + 1, 4, none⟩ = some (.int .i64 b.f) ∧ w'.cell? ⟨w.heap.size + 1, 5, none⟩ = some (.int .i64 b.l) ∧ w'.cell? ⟨w.heap.size + 1, 6, none⟩ = some (.int .i64 b.r)) := by
    intro w' hb
    have p := (A.below hb).cells
    have q := (B.below hb).cells
    exact ⟨p.1, p.2.1, p.2.2.1, p.2.2.2.1, p.2.2.2.2.1, p.2.2.2.2.2.1, p.2.2.2.2.2.2, q⟩
  have R0 : Below W.heap.size W W.drew := below_drewN (Below.refl _ W) 1
  have SW : Hid (∀ w' : World, Below W.heap.size W w' → Seg w' ao (scells l)) := fun w' hb => hs.below (bel.trans (hb.mono bel.size))
  go_enter Try.func7, Try.ntmps7
  go_wp2_with fail
  rw [← HW.out]
  go_region_held3 (fun w' => w'.cell? ⟨w.heap.size, 0, none⟩ = some (.int .i64 a.c) ∧ w'.cell? ⟨w.heap.size, 1, none⟩ = some (.int .i64 a.t) ∧ w'.cell? ⟨w.heap.size, 2, none⟩ = some (.int .i64 a.mn) ∧ w'.cell? ⟨w.heap.size, 3, none⟩ = some (.int .i64 a.mx) ∧ w'.cell? ⟨w.heap.size, 4, none⟩ = some (.int .i64 a.f) ∧ w'.cell? ⟨w.heap.size, 5, none⟩ = some (.int .i64 a.l) ∧ w'.cell? ⟨w.heap.size, 6, none⟩ = some (.int .i64 a.r) ∧ w'.cell? ⟨w.heap.size + 1, 0, none⟩ = some (.int .i64 b.c) ∧ w'.cell? ⟨w.heap.size + 1, 1, none⟩ = some (.int .i64 b.t) ∧ w'.cell? ⟨w.heap.size + 1, 2, none⟩ = some (.int .i64 b.mn) ∧ w'.cell? ⟨w.heap.size + 1, 3, none⟩ = some (.int .i64 b.mx) ∧ w'.cell? ⟨w.heap.size + 1, 4, none⟩ = some (.int .i64 b.f) ∧ w'.cell? ⟨w.heap.size + 1, 5, none⟩ = some (.int .i64 b.l) ∧ w'.cell? ⟨w.heap.size + 1, 6, none⟩ = some (.int .i64 b.r))
    (first | exact HSB.out _ (by assumption) | exact HSB.out _ (below_alloc' (by assumption) _))
    (first
      | (go_at_call 17; refine (of_len l ao n cap _ (SW.out _ (by assumption)) Hn.out hL).mono ?_; rintro e w1 ⟨J, HJ, rfl, hb1⟩; have R1 := below_step hb1 (by assumption))
      | (go_at_call_of 18 (Value.slice ao n cap); refine (rof_k l ao n cap _ (SW.out _ (by assumption)) Hn.out hL Hv.out J HJ.out).mono ?_; rintro e w2 ⟨rfl, hb2⟩; have R2 := below_step hb2 (by assumption))
      | (go_at_call 19; refine (join_let a b _).mono ?_; rintro e w3 ⟨K, HK, rfl, hb3⟩; have R3 := below_step hb3 (by assumption))
      | (go_at_call 20; refine (rjoin_k a b _ K HK.out).mono ?_; rintro e w4 ⟨rfl, hb4⟩; have R4 := below_step hb4 (by assumption))
      | (go_at_call 21; refine (one_k v _).mono ?_; rintro e w5 ⟨rfl, hb5⟩; have R5 := below_step hb5 (by first | assumption | exact below_alloc' (by assumption) _))
      | (go_at_call 18; refine (rone_k v _ _ (by first | exact seg_new _ _ _ | exact (seg_new _ _ _).below hb5) v0 v1).mono ?_; rintro e w6 ⟨rfl, hb6⟩; have R6 := below_step hb6 (by first | assumption | exact below_alloc' (by assumption) _)))
  all_goals
    have bel6 := bel.trans (R6.mono bel.size)
    have hs6 := bel6.size
    have A6 := A.below R6
    obtain ⟨i0, hi, hz0, hz1, hz2⟩ := info_parts Try.infoString
    clear HSB SW R0 R1 R2 R3 R4 R5 R6 hb1 hb2 hb3 hb4 hb5 hb6 HJ HK A B HW bel
    go_wp2_with fail
    refine (words_any _).mono ?_
    rintro e w7 ⟨g, rfl, hg, hw7⟩
    have bel7 : Below w.heap.size w w7 := by rw [hw7]; exact bel6.alloc hs6 _
    have A7 : SumAt w7 w.heap.size a := by rw [hw7]; exact A6.alloc _
    have own7 : w7.ownsRow w.heap.size 9 1 (.slice (some ⟨g, 0, none⟩) 8 8) 8 [.string ⟨#[97, 118, 103]⟩, .string ⟨#[99, 111, 117, 110, 116]⟩, .string ⟨#[102, 105, 114, 115, 116]⟩, .string ⟨#[108, 97, 115, 116]⟩, .string ⟨#[109, 97, 120]⟩, .string ⟨#[109, 105, 110]⟩, .string ⟨#[114, 105, 115, 101]⟩, .string ⟨#[115, 117, 109]⟩] := by
      rw [hw7, hg]; exact World.ownsRow_lit _ _ 8 hs6 (by unfold maxLen; omega) rfl
    have hs7 := bel7.size
    clear hg hw7 bel6 A6
    go_wp2_with (at_builtin; refine wpList_append_lies _ rfl _ _ 44 rfl w.heap.size 9 i0 (.string ⟨#[]⟩) 1 16 Try.underlying44 hi hz0 hz1 hz2 rfl (by decide) _ _ _ rfl (own7.alloc _) ⟨w7.heap.size, 0, none⟩ 1 1 [.string x] rfl rfl (World.news_of_block (heap_alloc_new w7 (.cells #[.string x] 9))) (by simp [Value.oneCell']) (by decide) (by unfold maxLen; omega) (by omega) (by simp; omega) (w7.heap.size + 1) (by simp) ?_)
    intro g1 cp1 w8 own8 gr8 hat8 hlt8
    have own9 : w8.ownsRow w.heap.size 9 1 (.slice (some ⟨g1, 0, none⟩) 9 cp1) 9 (wsL x) := own8
    have bel8 : Below w.heap.size w w8 := (bel7.alloc hs7 _).grown gr8 (by simp; omega) (fun j hj => (own7.lt j hj).1)
    have A8 : SumAt w8 w.heap.size a := by
      have hne : w.heap.size ≠ g := by
        intro e
        have := own_ne own7 A7 (by decide)
        exact this e
      have h1 := A7.alloc (.cells #[.string x] 9)
      unfold SumAt at h1 ⊢
      rw [gr8.block _ (lt_of_block h1) (by simpa [Value.ownBlock] using hne)]
      exact h1
    clear own7 own8 gr8 hat8 A7 bel7
    go_wp2
    go_loopw [45] (fun i wr => ∃ (k : Nat), k ≤ 9 ∧ i = .int .i64 k ∧ TInv w a x g1 cp1 wr) (fun i _ => 9 - (intOf i).toNat)
    case atStart => exact ⟨0, Nat.zero_le _, rfl, ⟨own9, A8, bel8⟩⟩
    case round =>
      obtain ⟨k, hk, rfl, I⟩ := hrel
      by_cases hlt : k < 9
      · obtain ⟨y, hy, hy8⟩ := ws_at x a k hlt
        have cy : wr.cell? ⟨g1, k, none⟩ = some (.string y) := (I.own.cellAt k (by omega)).trans hy
        obtain ⟨q, z, hqz⟩ : ∃ q z, resa y a = (q, z) := ⟨_, _, rfl⟩
        have HQ := hide hqz
        have Hz : Hid (k < 8 → 1 ≤ a.c → z = true) := by
          intro h1 h2
          have := hy8 h1
          have e : resa y a = resw y a := by unfold resa; rw [if_neg (by omega)]
          rw [← e, hqz] at this
          exact this
        obtain ⟨p0, p1, p2, p3, p4, p5, p6⟩ := I.box.cells
        clear hy hy8 hqz own9 A8 bel8
        go_wp2_with fail
        refine (value_q a y q z HQ.out _ t0 t1).mono ?_
        rintro e wA ⟨rfl, hbA⟩
        have IA := I.call hbA
        obtain ⟨r0, r1, r2, r3, r4, r5, r6⟩ := IA.box.cells
        clear hbA I p0 p1 p2 p3 p4 p5 p6 cy
        go_wp2_with fail
        refine (word_q a y q z HQ.out _ t0 t1).mono ?_
        rintro e wB ⟨rfl, hbB⟩
        have IB := IA.call hbB
        have sB := IB.box.cells.1
        clear hbB IA r0 r1 r2 r3 r4 r5 r6 HQ
        cases z
        · by_cases h8 : k < 8
          · have hc : a.c ≤ 0 := by
              rcases (show a.c ≤ 0 ∨ 1 ≤ a.c from by omega) with h' | h'
              · exact h'
              · exact absurd (Hz.out h8 h') (by decide)
            clear Hz
            go_wp2
            go_roundw
            case rel => exact ⟨k + 1, by omega, by go_num, IB⟩
            case measure => simp [intOf]; omega
          · clear Hz
            go_wp2
            go_roundw
            case rel => exact ⟨k + 1, by omega, by go_num, IB⟩
            case measure => simp [intOf]; omega
        · clear Hz
          go_wp2
          all_goals
            go_roundw
            case rel => exact ⟨k + 1, by omega, by go_num, IB⟩
            case measure => simp [intOf]; omega
      · have he : k = 9 := by omega
        subst he
        have belZ := I.bel
        clear I own9 A8 bel8
        go_wp2
        go_ret
        exact ⟨rfl, belZ⟩

end Go.Proofs.Ythbllehncjeolaa
