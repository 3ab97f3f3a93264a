/-
  The walk of Up: the buckets of samples.
-/
import Derived.Test.YtcgcefnfelmmkaaRollPutB
namespace Go.Proofs.Ytcgcefnfelmmkaa
open Go.RowKit Go.GrainU

set_option maxHeartbeats 400000 in
theorem up_no (ao : Option Addr) (n cap : Nat) (tier : Int) (w : World) (h : stepOf tier = 0) :
    Calls Try.prog 14 #[.slice ao n cap, .int .i64 tier] w fun e w' => e = .returned (.slice none 0 0) ∧ w' = w := by
  go_enter Try.func14, Try.ntmps14
  go_wp2_with (go_at_call 35; refine (step_any tier _).mono ?_; rintro e w1 ⟨rfl, rfl⟩; rw [h])
  go_ret
  exact ⟨rfl, rfl⟩

/-- behind a step of Up's: all but the row, and what is new, is as it was -/
theorem up_keep {wr V : World} {x y : Value} {t : TypeId} {r : Option Nat} (hV : V = wr.alloc (.cells #[x, y] t)) (hr : ∀ k, r = some k → k < wr.heap.size) :
    ∀ w' : World, V.grownBy w' r → w'.cell? ⟨wr.heap.size, 0, none⟩ = some x ∧ w'.cell? ⟨wr.heap.size, 1, none⟩ = some y := by
  intro w' h
  subst hV
  have hb := h.block wr.heap.size (by simp) (fun e => by have := hr _ e.symm; omega)
  rw [heap_alloc_new] at hb
  exact ⟨(two_cells hb).1, (two_cells hb).2.1⟩

set_option maxHeartbeats 2000000 in
theorem up_big (l : List (Int × Int)) (ao : Option Addr) (n cap : Nat) (tier st : Int) (w : World) (hs : Seg w ao (scells l)) (hn : n = l.length) (hL : n ≤ 1000000) (ht : ∀ j, j < l.length → 0 ≤ Grain.tm l j ∧ Grain.tm l j ≤ 1000000) (h : stepOf tier = st) (hst : st = 10 ∨ st = 60) :
    Calls Try.prog 14 #[.slice ao n cap, .int .i64 tier] w fun e w' => ∃ bo N c, e = .returned (.slice bo N c) ∧ w'.ownsRow w.heap.size 67 8 (.slice bo N c) N (kcells (Grain.up l st)) ∧ Below w.heap.size w w' := by
  have HN := hide hn
  clear hn
  have hst0 : (st == 0) = false := by rcases hst with e | e <;> simp [e]
  have HST := hide hst
  clear hst
  go_enter Try.func14, Try.ntmps14
  go_wp2_with (go_at_call 35; refine (step_any tier _).mono ?_; intro e w1 hh; rw [hh.1, hh.2, h]; clear hh)
  go_loopw [6, 15] (fun out i wr => ∃ (k N c : Nat) (bo : Option Addr), k ≤ n ∧ i = .int .i64 k ∧ out = .slice bo N c ∧ N ≤ k ∧ wr.ownsRow w.heap.size 67 8 (.slice bo N c) N (kcells (Grain.up (l.take k) st)) ∧ Below w.heap.size w wr) (fun _ i _ => n - (intOf i).toNat)
  case atStart => exact ⟨0, 0, 0, none, Nat.zero_le _, rfl, rfl, Nat.le_refl _, World.ownsRow_nil _ _ _ _, Below.refl _ _⟩
  case round =>
    obtain ⟨k, N, c, bo, hk, rfl, rfl, hNk, own, bel⟩ := hrel
    have hsz := bel.size
    by_cases hlt : k < n
    · have hkl : k < l.length := by rw [← HN.out]; exact hlt
      obtain ⟨b, off, rfl, hcell⟩ := hs.sample hkl
      have hb : b < w.heap.size := World.block_lt_of_cell? w ⟨b, off + k * 2, none⟩ (hcell k hkl).1
      obtain ⟨t, htm⟩ : ∃ t, t = Grain.tm l k := ⟨_, rfl⟩
      obtain ⟨v, hvl⟩ : ∃ v, v = Grain.vl l k := ⟨_, rfl⟩
      have c0 : wr.cell? ⟨b, off + k * 2, none⟩ = some (.int .i64 t) := by rw [htm]; exact (bel.cell (by exact hb)).trans (hcell k hkl).1
      have c1 : wr.cell? ⟨b, off + k * 2 + 1, none⟩ = some (.int .i64 v) := by rw [hvl]; exact (bel.cell (by exact hb)).trans (hcell k hkl).2
      have ht0 : 0 ≤ t := by rw [htm]; exact (ht k hkl).1
      have ht1 : t ≤ 1000000 := by rw [htm]; exact (ht k hkl).2
      have HU : Hid (Grain.up (l.take (k + 1)) st = Grain.put (Grain.up (l.take k) st) (Grain.beg t st) (Grain.one v)) := by rw [htm, hvl]; exact Grain.up_take st hkl
      clear htm hvl hcell hkl
      obtain ⟨V, hV⟩ : ∃ V, V = wr.alloc (.cells #[.int .i64 t, .int .i64 v] 29) := ⟨_, rfl⟩
      have own1 : V.ownsRow w.heap.size 67 8 (.slice bo N c) N (kcells (Grain.up (l.take k) st)) := by rw [hV]; exact own.alloc _
      have bel1 : Below w.heap.size w V := by rw [hV]; exact bel.alloc hsz _
      have HS := hide (up_keep (r := (Value.slice bo N c).ownBlock) hV (fun j hj => (own.lt j hj).2))
      have R0 : V.grownBy V (Value.slice bo N c).ownBlock := World.grownBy.refl _ _
      obtain ⟨x0, x1⟩ := HS.out V R0
      have HV := hide hV
      have hszV := bel1.size
      clear hV
      go_wp2_with fail
      rw [← HV.out]
      go_region_held3 (fun w' => w'.cell? ⟨wr.heap.size, 0, none⟩ = some (.int .i64 t) ∧ w'.cell? ⟨wr.heap.size, 1, none⟩ = some (.int .i64 v)) (first | go_keep | exact HS.out _ (by assumption))
        (first
          | (go_at_call 37; refine (begin_any _ _ _ ht0 ht1 HST.out).mono ?_; intro e w1 hh; rw [hh.1, hh.2]; clear hh)
          | (go_at_call 38; refine (one_any _ _).mono ?_; rintro e w1 ⟨rfl, hb1⟩; have hb1' : Below V.heap.size V w1 := (below_drewN (Below.refl _ V) 1).trans hb1; have R1 : V.grownBy w1 (Value.slice bo N c).ownBlock := grown_weak (grown_of_below hb1'); have own2 := own_below own1 hb1'; have bel2 : Below w.heap.size w w1 := bel1.trans (hb1'.mono hszV))
          | (go_at_call 36; refine (put_any _ _ _ w.heap.size N c bo _ own2 bel2.size (by omega)).mono ?_; rintro e w3 ⟨g3, N3, c3, rfl, own3, gr3⟩; have R3 := grown_trans R1 gr3 (fun j hj => .inl hj); have bel3 : Below w.heap.size w w3 := bel2.grown gr3 bel2.size (fun j hj => (own.lt j hj).1)))
      all_goals
        rw [← HU.out] at own3
        have hN3 : N3 ≤ k + 1 := by
          have e1 := own_klen own3
          have e2 := (Grain.up_fit st (l.take (k + 1)) (by rw [List.length_take]; omega)).len
          rw [List.length_take] at e2
          omega
        clear HU HS HV R0 R1 R3 own own1 own2 gr3 hb1 hb1' bel bel1 bel2 x0 x1 hszV hsz c0 c1
        go_wp2
        go_roundw
        case rel => exact ⟨k + 1, N3, c3, _, by omega, by go_num, rfl, hN3, own3, bel3⟩
        case measure => simp [intOf]; omega
    · have he : k = n := by omega
      subst he
      have HT := hide (List.take_of_length_le (i := k) (l := l) (by rw [← HN.out]; omega))
      rw [HT.out] at own
      clear HT HN
      go_wp2
      go_ret
      exact ⟨bo, N, c, rfl, own, bel⟩

theorem up_yes (l : List (Int × Int)) (ao : Option Addr) (n cap : Nat) (tier st : Int) (w : World) (hs : Seg w ao (scells l)) (hn : n = l.length) (hL : n ≤ 1000) (ht : ∀ j, j < l.length → 0 ≤ Grain.tm l j ∧ Grain.tm l j ≤ 1000000) (h : stepOf tier = st) (hst : st = 10 ∨ st = 60) :
    Calls Try.prog 14 #[.slice ao n cap, .int .i64 tier] w fun e w' => ∃ bo N c, e = .returned (.slice bo N c) ∧ w'.ownsRow w.heap.size 67 8 (.slice bo N c) N (kcells (Grain.up l st)) ∧ Below w.heap.size w w' :=
  up_big l ao n cap tier st w hs hn (by omega) ht h hst

end Go.Proofs.Ytcgcefnfelmmkaa
