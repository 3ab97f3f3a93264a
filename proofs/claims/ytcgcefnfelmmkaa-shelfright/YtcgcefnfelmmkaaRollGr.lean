/-
  The walk of Greater: coarse buckets of fine ones.
-/
import Derived.Test.YtcgcefnfelmmkaaRollUp
namespace Go.Proofs.Ytcgcefnfelmmkaa
open Go.RowKit Go.GrainU

/-- the eight cells of a block that holds a bucket -/
def At8 (w : World) (B : Nat) (k : Grain.Bk) : Prop :=
  w.cell? ⟨B, 0, none⟩ = some (.int .i64 k.a) ∧ w.cell? ⟨B, 1, none⟩ = some (.int .i64 k.s.c) ∧ w.cell? ⟨B, 2, none⟩ = some (.int .i64 k.s.t) ∧ w.cell? ⟨B, 3, none⟩ = some (.int .i64 k.s.mn) ∧
  w.cell? ⟨B, 4, none⟩ = some (.int .i64 k.s.mx) ∧ w.cell? ⟨B, 5, none⟩ = some (.int .i64 k.s.f) ∧ w.cell? ⟨B, 6, none⟩ = some (.int .i64 k.s.l) ∧ w.cell? ⟨B, 7, none⟩ = some (.int .i64 k.s.r)

/-- a bucket as a block -/
def ko (k : Grain.Bk) : Obj := .cells #[.int .i64 k.a, .int .i64 k.s.c, .int .i64 k.s.t, .int .i64 k.s.mn, .int .i64 k.s.mx, .int .i64 k.s.f, .int .i64 k.s.l, .int .i64 k.s.r] 67

theorem eight_cells {w : World} {B : Nat} {k : Grain.Bk} (h : w.heap[B]? = some (ko k)) : At8 w B k := by
  unfold ko at h
  simp [At8, World.cell?, h]

/-- behind a step: all but the row, and what is new, is as it was -/
theorem gr_keep {wr V : World} {k : Grain.Bk} {r : Option Nat} (hV : V = wr.alloc (ko k)) (hr : ∀ j, r = some j → j < wr.heap.size) :
    ∀ w' : World, V.grownBy w' r → At8 w' wr.heap.size k := by
  intro w' h
  subst hV
  have hb := h.block wr.heap.size (by simp) (fun e => by have := hr _ e.symm; omega)
  rw [heap_alloc_new] at hb
  exact eight_cells hb

set_option maxHeartbeats 4000000 in
theorem great_any (B : List Grain.Bk) (ao : Option Addr) (n cap : Nat) (w : World) (hs : Seg w ao (kcells B)) (hn : n = B.length) (hL : n ≤ 1000) (ht : ∀ j, j < B.length → 0 ≤ (Grain.bk B j).a ∧ (Grain.bk B j).a ≤ 1000000) :
    Calls Try.prog 31 #[.slice ao n cap] w fun e w' => ∃ bo N c, e = .returned (.slice bo N c) ∧ w'.ownsRow w.heap.size 67 8 (.slice bo N c) N (kcells (Grain.great B)) ∧ Below w.heap.size w w' := by
  have HN := hide hn
  clear hn
  go_enter Try.func31, Try.ntmps31
  go_wp2
  go_loopw [3, 8] (fun out i wr => ∃ (k N c : Nat) (bo : Option Addr), k ≤ n ∧ i = .int .i64 k ∧ out = .slice bo N c ∧ N ≤ k ∧ wr.ownsRow w.heap.size 67 8 (.slice bo N c) N (kcells (Grain.great (B.take k))) ∧ Below w.heap.size w wr) (fun _ i _ => n - (intOf i).toNat)
  case atStart => exact ⟨0, 0, 0, none, Nat.zero_le _, rfl, rfl, Nat.le_refl _, World.ownsRow_nil _ _ _ _, Below.refl _ _⟩
  case round =>
    obtain ⟨k, N, c, bo, hk, rfl, rfl, hNk, own, bel⟩ := hrel
    have hsz := bel.size
    by_cases hlt : k < n
    · have hkl : k < B.length := by rw [← HN.out]; exact hlt
      obtain ⟨b, off, rfl, hb, hcell⟩ := seg_bucket hs hkl
      obtain ⟨K, hK⟩ : ∃ K, K = Grain.bk B k := ⟨_, rfl⟩
      have hc := (hcell k hkl).below bel hb
      rw [← hK] at hc
      obtain ⟨c0, c1, c2, c3, c4, c5, c6, c7⟩ := hc
      have ht0 : 0 ≤ K.a := by rw [hK]; exact (ht k hkl).1
      have ht1 : K.a ≤ 1000000 := by rw [hK]; exact (ht k hkl).2
      have HU : Hid (Grain.great (B.take (k + 1)) = Grain.put (Grain.great (B.take k)) (Grain.beg K.a 60) K.s) := by rw [hK]; exact Grain.great_take hkl
      clear hK hcell hkl
      obtain ⟨V, hV⟩ : ∃ V, V = wr.alloc (ko K) := ⟨_, rfl⟩
      have own1 : V.ownsRow w.heap.size 67 8 (.slice bo N c) N (kcells (Grain.great (B.take k))) := by rw [hV]; exact own.alloc _
      have bel1 : Below w.heap.size w V := by rw [hV]; exact bel.alloc hsz _
      have HS := hide (gr_keep (r := (Value.slice bo N c).ownBlock) hV (fun j hj => (own.lt j hj).2))
      have R0 : V.grownBy V (Value.slice bo N c).ownBlock := World.grownBy.refl _ _
      have R1 : V.grownBy V.drew (Value.slice bo N c).ownBlock := ⟨rfl, rfl, rfl, Nat.le_refl _, fun _ _ _ => rfl⟩
      obtain ⟨x0, x1, x2, x3, x4, x5, x6, x7⟩ := HS.out V R0
      have own2 : V.drew.ownsRow w.heap.size 67 8 (.slice bo N c) N (kcells (Grain.great (B.take k))) := own_below own1 (below_drewN (Below.refl _ V) 1)
      have bel2 : Below w.heap.size w V.drew := below_drewN bel1 1
      have HV : Hid (V = wr.alloc (.cells #[.int .i64 K.a, .int .i64 K.s.c, .int .i64 K.s.t, .int .i64 K.s.mn, .int .i64 K.s.mx, .int .i64 K.s.f, .int .i64 K.s.l, .int .i64 K.s.r] 67)) := hV
      have hszV := bel1.size
      clear hV
      go_wp2_with fail
      rw [← HV.out]
      go_region_held3 (fun w' => w'.cell? ⟨wr.heap.size, 0, none⟩ = some (.int .i64 K.a) ∧ w'.cell? ⟨wr.heap.size, 1, none⟩ = some (.int .i64 K.s.c) ∧ w'.cell? ⟨wr.heap.size, 2, none⟩ = some (.int .i64 K.s.t) ∧ w'.cell? ⟨wr.heap.size, 3, none⟩ = some (.int .i64 K.s.mn) ∧
  w'.cell? ⟨wr.heap.size, 4, none⟩ = some (.int .i64 K.s.mx) ∧ w'.cell? ⟨wr.heap.size, 5, none⟩ = some (.int .i64 K.s.f) ∧ w'.cell? ⟨wr.heap.size, 6, none⟩ = some (.int .i64 K.s.l) ∧ w'.cell? ⟨wr.heap.size, 7, none⟩ = some (.int .i64 K.s.r)) (first | go_keep | exact HS.out _ (by assumption))
        (first
          | (go_at_call 37; refine (begin_any _ _ _ ht0 ht1 (.inr rfl)).mono ?_; intro e w1 hh; rw [hh.1, hh.2]; clear hh)
          | (go_at_call 36; refine (put_any _ _ K.s w.heap.size N c bo _ own2 bel2.size (by omega)).mono ?_; rintro e w3 ⟨g3, N3, cp3, rfl, own3, gr3⟩; have R3 := grown_trans R1 gr3 (fun j hj => .inl hj); have bel3 : Below w.heap.size w w3 := bel2.grown gr3 bel2.size (fun j hj => (own.lt j hj).1)))
      all_goals
        rw [← HU.out] at own3
        have hN3 : N3 ≤ k + 1 := by
          have e1 := own_klen own3
          have e2 := Grain.great_len (B.take (k + 1))
          rw [List.length_take] at e2
          omega
        clear HU HS HV R0 R1 R3 own own1 own2 gr3 bel bel1 bel2 x0 x1 x2 x3 x4 x5 x6 x7 hszV hsz c0 c1 c2 c3 c4 c5 c6 c7
        go_wp2
        go_roundw
        case rel => exact ⟨k + 1, N3, cp3, _, by omega, by go_num, rfl, hN3, own3, bel3⟩
        case measure => simp [intOf]; omega
    · have he : k = n := by omega
      subst he
      have HT := hide (List.take_of_length_le (i := k) (l := B) (by rw [← HN.out]; omega))
      rw [HT.out] at own
      clear HT HN
      go_wp2
      go_ret
      exact ⟨bo, N, c, rfl, own, bel⟩

end Go.Proofs.Ytcgcefnfelmmkaa
