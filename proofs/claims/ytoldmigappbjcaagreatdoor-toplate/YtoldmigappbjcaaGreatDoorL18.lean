import Derived.Test.YtoldmigappbjcaaGreatDoorL15
import Derived.Test.YtoldmigappbjcaaGreatDoorL16
import Derived.Test.YtoldmigappbjcaaGreatDoorL17
namespace Go.Proofs.YtoldmigappbjcaaGreatDoor
open Go.RowKit Go.GrainU
theorem up_keep {wr V : World} {x y : Value} {t : TypeId} {r : Option Nat} (hV : V = wr.alloc (.cells #[x, y] t)) (hr : ∀ k, r = some k → k < wr.heap.size) :
  ∀ w' : World, V.grownBy w' r → w'.cell? ⟨wr.heap.size, 0, none⟩ = some x ∧ w'.cell? ⟨wr.heap.size, 1, none⟩ = some y := by
 intro w' h
 subst hV
 have hb := h.block wr.heap.size (by simp) (fun e => by have := hr _ e.symm; omega)
 rw [heap_alloc_new] at hb
 exact ⟨(two_cells hb).1, (two_cells hb).2.1⟩
set_option maxHeartbeats 2000000 in
theorem up_big (l : List (Int × Int)) (ao : Option Addr) (n cap : Nat) (tier st : Int) (w : World) (hs : Seg w ao (scells l)) (hn : n = l.length) (hL : n ≤ 1000000) (ht : ∀ j, j < l.length → 0 ≤ Grain.tm l j ∧ Grain.tm l j ≤ 1000000) (h : stepOf tier = st) (hst : st = 10 ∨ st = 60) :
  Calls Tryz.prog 135 #[.slice ao n cap, .int .i64 tier] w fun e w' => ∃ bo N c, e = .returned (.slice bo N c) ∧ w'.ownsRow w.heap.size 145 8 (.slice bo N c) N (kcells (Grain.up l st)) ∧ Below w.heap.size w w' := by
 have HN := hide hn
 clear hn
 have hst0 : (st == 0) = false := by rcases hst with e | e <;> simp [e]
 have HST := hide hst
 clear hst
 go_enter Tryz.func135, Tryz.ntmps135
 go_wp2_with (go_at_call 76; refine (step_any tier _).mono ?_; intro e w1 hh; rw [hh.1, hh.2, h]; clear hh)
 go_loopw [6, 15] (fun out i wr => ∃ (k N c : Nat) (bo : Option Addr), k ≤ n ∧ i = .int .i64 k ∧ out = .slice bo N c ∧ N ≤ k ∧ wr.ownsRow w.heap.size 145 8 (.slice bo N c) N (kcells (Grain.up (l.take k) st)) ∧ Below w.heap.size w wr) (fun _ i _ => n - (intOf i).toNat)
 case atStart => exact ⟨0, 0, 0, none, Nat.zero_le _, rfl, rfl, Nat.le_refl _, World.ownsRow_nil _ _ _ _, Below.refl _ _⟩
 case round =>
  obtain ⟨k, N, c, bo, hk, rfl, rfl, hNk, own, bel⟩ := hrel
  have hsz := bel.size
  by_cases hlt : k < n
  ·have hkl : k < l.length := by rw [← HN.out]; exact hlt
   obtain ⟨b, off, rfl, hcell⟩ := hs.sample hkl
   have hb : b < w.heap.size := World.block_lt_of_cell? w ⟨b, off + k * 2, none⟩ (hcell k hkl).1
   obtain ⟨t, htm⟩ : ∃ t, t = Grain.tm l k := ⟨_, rfl⟩
   obtain ⟨v, hvl⟩ : ∃ v, v = Grain.vl l k := ⟨_, rfl⟩
   have c0 : wr.cell? ⟨b, off + k * 2, none⟩ = some (.int .i64 t) := by rw [htm]; exact (bel.cell (by exact hb)).trans (hcell k hkl).1
   have c1 : wr.cell? ⟨b, off + k * 2 + 1, none⟩ = some (.int .i64 v) := by rw [hvl]; exact (bel.cell (by exact hb)).trans (hcell k hkl).2
   have ht0 : 0 ≤ t := by rw [htm]; exact (ht k hkl).1
   have ht1 : t ≤ 1000000 := by rw [htm]; exact (ht k hkl).2
   have HU : Hid (Grain.up (l.take (k + 1)) st = Grain.put (Grain.up (l.take k) st) (Grain.beg t st) (Grain.one v)) := by rw [htm, hvl]; exact Grain.up_take st hkl
   clear htm hvl hcell hkl
   obtain ⟨V, hV⟩ : ∃ V, V = wr.alloc (.cells #[.int .i64 t, .int .i64 v] 34) := ⟨_, rfl⟩
   have own1 : V.ownsRow w.heap.size 145 8 (.slice bo N c) N (kcells (Grain.up (l.take k) st)) := by rw [hV]; exact own.alloc _
   have bel1 : Below w.heap.size w V := by rw [hV]; exact bel.alloc hsz _
   have HS := hide (up_keep (r := (Value.slice bo N c).ownBlock) hV (fun j hj => (own.lt j hj).2))
   have R0 : V.grownBy V (Value.slice bo N c).ownBlock := World.grownBy.refl _ _
   obtain ⟨x0, x1⟩ := HS.out V R0
   have HV := hide hV
   have hszV := bel1.size
   clear hV
   go_wp2_with fail
   rw [← HV.out]
   go_region_held3 (fun w' => w'.cell? ⟨wr.heap.size, 0, none⟩ = some (.int .i64 t) ∧ w'.cell? ⟨wr.heap.size, 1, none⟩ = some (.int .i64 v)) (first | go_keep | exact HS.out _ (by assumption))
    (first
     | (go_at_call 179; refine (begin_any _ _ _ ht0 ht1 HST.out).mono ?_; intro e w1 hh; rw [hh.1, hh.2]; clear hh)
     | (go_at_call 56; refine (one_any _ _).mono ?_; rintro e w1 ⟨rfl, hb1⟩; have hb1' : Below V.heap.size V w1 := (below_drewN (Below.refl _ V) 1).trans hb1; have R1 : V.grownBy w1 (Value.slice bo N c).ownBlock := grown_weak (grown_of_below hb1'); have own2 := own_below own1 hb1'; have bel2 : Below w.heap.size w w1 := bel1.trans (hb1'.mono hszV))
     | (go_at_call 178; refine (put_any _ _ _ w.heap.size N c bo _ own2 bel2.size (by omega)).mono ?_; rintro e w3 ⟨g3, N3, c3, rfl, own3, gr3⟩; have R3 := grown_trans R1 gr3 (fun j hj => .inl hj); have bel3 : Below w.heap.size w w3 := bel2.grown gr3 bel2.size (fun j hj => (own.lt j hj).1)))
   all_goals
    rw [← HU.out] at own3
    have hN3 : N3 ≤ k + 1 := by
     have e1 := own_klen own3
     have e2 := (Grain.up_fit st (l.take (k + 1)) (by rw [List.length_take]; omega)).len
     rw [List.length_take] at e2
     omega
    clear HU HS HV R0 R1 R3 own own1 own2 gr3 hb1 hb1' bel bel1 bel2 x0 x1 hszV hsz c0 c1
    go_wp2
    go_roundw
    case rel => exact ⟨k + 1, N3, c3, _, by omega, by go_num, rfl, hN3, own3, bel3⟩
    case measure => simp [intOf]; omega
  ·have he : k = n := by omega
   subst he
   have HT := hide (List.take_of_length_le (i := k) (l := l) (by rw [← HN.out]; omega))
   rw [HT.out] at own
   clear HT HN
   go_wp2
   go_ret
   exact ⟨bo, N, c, rfl, own, bel⟩
theorem up_yes (l : List (Int × Int)) (ao : Option Addr) (n cap : Nat) (tier st : Int) (w : World) (hs : Seg w ao (scells l)) (hn : n = l.length) (hL : n ≤ 1000) (ht : ∀ j, j < l.length → 0 ≤ Grain.tm l j ∧ Grain.tm l j ≤ 1000000) (h : stepOf tier = st) (hst : st = 10 ∨ st = 60) :
  Calls Tryz.prog 135 #[.slice ao n cap, .int .i64 tier] w fun e w' => ∃ bo N c, e = .returned (.slice bo N c) ∧ w'.ownsRow w.heap.size 145 8 (.slice bo N c) N (kcells (Grain.up l st)) ∧ Below w.heap.size w w' :=
 up_big l ao n cap tier st w hs hn (by omega) ht h hst
open Go.RowKit Go.GrainU
def At8 (w : World) (B : Nat) (k : Grain.Bk) : Prop :=
 w.cell? ⟨B, 0, none⟩ = some (.int .i64 k.a) ∧ w.cell? ⟨B, 1, none⟩ = some (.int .i64 k.s.c) ∧ w.cell? ⟨B, 2, none⟩ = some (.int .i64 k.s.t) ∧ w.cell? ⟨B, 3, none⟩ = some (.int .i64 k.s.mn) ∧
 w.cell? ⟨B, 4, none⟩ = some (.int .i64 k.s.mx) ∧ w.cell? ⟨B, 5, none⟩ = some (.int .i64 k.s.f) ∧ w.cell? ⟨B, 6, none⟩ = some (.int .i64 k.s.l) ∧ w.cell? ⟨B, 7, none⟩ = some (.int .i64 k.s.r)
def ko (k : Grain.Bk) : Obj := .cells #[.int .i64 k.a, .int .i64 k.s.c, .int .i64 k.s.t, .int .i64 k.s.mn, .int .i64 k.s.mx, .int .i64 k.s.f, .int .i64 k.s.l, .int .i64 k.s.r] 145
theorem eight_cells {w : World} {B : Nat} {k : Grain.Bk} (h : w.heap[B]? = some (ko k)) : At8 w B k := by
 unfold ko at h
 simp [At8, World.cell?, h]
theorem gr_keep {wr V : World} {k : Grain.Bk} {r : Option Nat} (hV : V = wr.alloc (ko k)) (hr : ∀ j, r = some j → j < wr.heap.size) :
  ∀ w' : World, V.grownBy w' r → At8 w' wr.heap.size k := by
 intro w' h
 subst hV
 have hb := h.block wr.heap.size (by simp) (fun e => by have := hr _ e.symm; omega)
 rw [heap_alloc_new] at hb
 exact eight_cells hb
set_option maxHeartbeats 4000000 in
theorem great_any (B : List Grain.Bk) (ao : Option Addr) (n cap : Nat) (w : World) (hs : Seg w ao (kcells B)) (hn : n = B.length) (hL : n ≤ 1000) (ht : ∀ j, j < B.length → 0 ≤ (Grain.bk B j).a ∧ (Grain.bk B j).a ≤ 1000000) :
    Calls Tryz.prog 138 #[.slice ao n cap] w fun e w' => ∃ bo N c, e = .returned (.slice bo N c) ∧ w'.ownsRow w.heap.size 145 8 (.slice bo N c) N (kcells (Grain.great B)) ∧ Below w.heap.size w w' := by
  have HN := hide hn
  clear hn
  go_enter Tryz.func138, Tryz.ntmps138
  go_wp2
  go_loopw [3, 8] (fun out i wr => ∃ (k N c : Nat) (bo : Option Addr), k ≤ n ∧ i = .int .i64 k ∧ out = .slice bo N c ∧ N ≤ k ∧ wr.ownsRow w.heap.size 145 8 (.slice bo N c) N (kcells (Grain.great (B.take k))) ∧ Below w.heap.size w wr) (fun _ i _ => n - (intOf i).toNat)
  case atStart => exact ⟨0, 0, 0, none, Nat.zero_le _, rfl, rfl, Nat.le_refl _, World.ownsRow_nil _ _ _ _, Below.refl _ _⟩
  case round =>
    obtain ⟨k, N, c, bo, hk, rfl, rfl, hNk, own, bel⟩ := hrel
    have hsz := bel.size
    by_cases hlt : k < n
    · have hkl : k < B.length := by rw [← HN.out]; exact hlt
      obtain ⟨b, off, rfl, hb, hcell⟩ := seg_bucket hs hkl
      obtain ⟨K, hK⟩ : ∃ K, K = Grain.bk B k := ⟨_, rfl⟩
      have hc := (hcell k hkl).below bel hb
      rw [← hK] at hc
      obtain ⟨c0, c1, c2, c3, c4, c5, c6, c7⟩ := hc
      have ht0 : 0 ≤ K.a := by rw [hK]; exact (ht k hkl).1
      have ht1 : K.a ≤ 1000000 := by rw [hK]; exact (ht k hkl).2
      have HU : Hid (Grain.great (B.take (k + 1)) = Grain.put (Grain.great (B.take k)) (Grain.beg K.a 60) K.s) := by rw [hK]; exact Grain.great_take hkl
      clear hK hcell hkl
      obtain ⟨V, hV⟩ : ∃ V, V = wr.alloc (ko K) := ⟨_, rfl⟩
      have own1 : V.ownsRow w.heap.size 145 8 (.slice bo N c) N (kcells (Grain.great (B.take k))) := by rw [hV]; exact own.alloc _
      have bel1 : Below w.heap.size w V := by rw [hV]; exact bel.alloc hsz _
      have HS := hide (gr_keep (r := (Value.slice bo N c).ownBlock) hV (fun j hj => (own.lt j hj).2))
      have R0 : V.grownBy V (Value.slice bo N c).ownBlock := World.grownBy.refl _ _
      have R1 : V.grownBy V.drew (Value.slice bo N c).ownBlock := ⟨rfl, rfl, rfl, Nat.le_refl _, fun _ _ _ => rfl⟩
      obtain ⟨x0, x1, x2, x3, x4, x5, x6, x7⟩ := HS.out V R0
      have own2 : V.drew.ownsRow w.heap.size 145 8 (.slice bo N c) N (kcells (Grain.great (B.take k))) := own_below own1 (below_drewN (Below.refl _ V) 1)
      have bel2 : Below w.heap.size w V.drew := below_drewN bel1 1
      have HV : Hid (V = wr.alloc (.cells #[.int .i64 K.a, .int .i64 K.s.c, .int .i64 K.s.t, .int .i64 K.s.mn, .int .i64 K.s.mx, .int .i64 K.s.f, .int .i64 K.s.l, .int .i64 K.s.r] 145)) := hV
      have hszV := bel1.size
      clear hV
      go_wp2_with fail
      rw [← HV.out]
      go_region_held3 (fun w' => w'.cell? ⟨wr.heap.size, 0, none⟩ = some (.int .i64 K.a) ∧ w'.cell? ⟨wr.heap.size, 1, none⟩ = some (.int .i64 K.s.c) ∧ w'.cell? ⟨wr.heap.size, 2, none⟩ = some (.int .i64 K.s.t) ∧ w'.cell? ⟨wr.heap.size, 3, none⟩ = some (.int .i64 K.s.mn) ∧
  w'.cell? ⟨wr.heap.size, 4, none⟩ = some (.int .i64 K.s.mx) ∧ w'.cell? ⟨wr.heap.size, 5, none⟩ = some (.int .i64 K.s.f) ∧ w'.cell? ⟨wr.heap.size, 6, none⟩ = some (.int .i64 K.s.l) ∧ w'.cell? ⟨wr.heap.size, 7, none⟩ = some (.int .i64 K.s.r)) (first | go_keep | exact HS.out _ (by assumption))
        (first
          | (go_at_call 179; refine (begin_any _ _ _ ht0 ht1 (.inr rfl)).mono ?_; intro e w1 hh; rw [hh.1, hh.2]; clear hh)
          | (go_at_call 178; refine (put_any _ _ K.s w.heap.size N c bo _ own2 bel2.size (by omega)).mono ?_; rintro e w3 ⟨g3, N3, cp3, rfl, own3, gr3⟩; have R3 := grown_trans R1 gr3 (fun j hj => .inl hj); have bel3 : Below w.heap.size w w3 := bel2.grown gr3 bel2.size (fun j hj => (own.lt j hj).1)))
      all_goals
        rw [← HU.out] at own3
        have hN3 : N3 ≤ k + 1 := by
          have e1 := own_klen own3
          have e2 := Grain.great_len (B.take (k + 1))
          rw [List.length_take] at e2
          omega
        clear HU HS HV R0 R1 R3 own own1 own2 gr3 bel bel1 bel2 x0 x1 x2 x3 x4 x5 x6 x7 hszV hsz c0 c1 c2 c3 c4 c5 c6 c7
        go_wp2
        go_roundw
        case rel => exact ⟨k + 1, N3, cp3, _, by omega, by go_num, rfl, hN3, own3, bel3⟩
        case measure => simp [intOf]; omega
    · have he : k = n := by omega
      subst he
      have HT := hide (List.take_of_length_le (i := k) (l := B) (by rw [← HN.out]; omega))
      rw [HT.out] at own
      clear HT HN
      go_wp2
      go_ret
      exact ⟨bo, N, c, rfl, own, bel⟩
open Go.RowKit Go.GrainU
def kv (k : Grain.Bk) : Value := .agg #[.int .i64 k.a, .int .i64 k.s.c, .int .i64 k.s.t, .int .i64 k.s.mn, .int .i64 k.s.mx, .int .i64 k.s.f, .int .i64 k.s.l, .int .i64 k.s.r]
set_option maxHeartbeats 1000000 in
theorem kinRange_any (k : Grain.Bk) (st : Int) (w : World) (hst : st = 10 ∨ st = 60) :
  Calls Tryz.prog 77 #[kv k, .int .i64 st] w fun e w' => e = .returned (.bool (Grain.inRB k st)) ∧ Below w.heap.size w w' := by
 obtain ⟨a, s⟩ := k
 obtain ⟨sc, s1, s2, s3, s4, s5, s6⟩ := s
 simp only [kv]
 by_cases h0 : 0 ≤ a
 ·by_cases h1 : a ≤ 1000000
  ·rcases hst with rfl | rfl
   all_goals
    go_enter Tryz.func77, Tryz.ntmps77
    go_wp2
    all_goals
     go_ret
     refine ⟨ret_bool ?_, (Below.refl _ _).alloc (Nat.le_refl _) _⟩
     rw [Bool.eq_iff_iff]
     simp [Grain.inRB]
     omega
  ·go_enter Tryz.func77, Tryz.ntmps77
   go_wp2
   go_ret
   refine ⟨ret_bool ?_, (Below.refl _ _).alloc (Nat.le_refl _) _⟩
   rw [Bool.eq_iff_iff]
   simp [Grain.inRB]
   omega
 ·go_enter Tryz.func77, Tryz.ntmps77
  go_wp2
  go_ret
  refine ⟨ret_bool ?_, (Below.refl _ _).alloc (Nat.le_refl _) _⟩
  rw [Bool.eq_iff_iff]
  simp [Grain.inRB]
  omega
theorem kstep_cases (tier : Int) : stepOf tier = 0 ∨ (stepOf tier = 10 ∨ stepOf tier = 60) := by
 unfold stepOf
 split
 ·exact .inr (.inl rfl)
 ·split
  ·exact .inr (.inr rfl)
  ·exact .inl rfl
set_option maxHeartbeats 2000000 in
theorem kwrong_any (B : List Grain.Bk) (ao : Option Addr) (n cap : Nat) (tier : Int) (w : World) (hs : Seg w ao (kcells B)) (hn : n = B.length) :
  Calls Tryz.prog 46 #[.slice ao n cap, .int .i64 tier] w fun e w' => e = .returned (.agg #[.int .i64 (Grain.wrongB B (stepOf tier)).1, .int .i64 (Grain.wrongB B (stepOf tier)).2]) ∧ Below w.heap.size w w' := by
 obtain ⟨st, hst⟩ : ∃ st, st = stepOf tier := ⟨_, rfl⟩
 have hc := kstep_cases tier
 rw [← hst] at hc ⊢
 have HST := hide hst
 clear hst
 rcases hc with hc | hc
 ·subst hc
  have hw : Grain.wrongB B 0 = (1, 0) := by simp [Grain.wrongB]
  rw [hw]; clear hw
  go_enter Tryz.func46, Tryz.ntmps46
  go_wp2_with (go_at_call 76; refine (step_any tier _).mono ?_; intro e w1 hh; rw [hh.1, hh.2, ← HST.out]; clear hh)
  exact bodyPost_ret (v := .agg #[.int .i64 1, .int .i64 0]) (by simp [results, Tryz.results46, go_sem]) rfl ⟨rfl, by go_grown⟩
 ·have hst0 : (st == 0) = false := by rcases hc with e | e <;> simp [e]
  have hst1 : st ≠ 0 := by rcases hc with e | e <;> simp [e]
  have HC := hide hc
  clear hc
  by_cases h5 : 500 < n
  ·have hw : Grain.wrongB B st = (5, 0) := by simp [Grain.wrongB, hst1, ← hn, h5]
   rw [hw]; clear hw hn
   have hd : decide ((500 : Int) < (n : Int)) = true := by simp; omega
   go_enter Tryz.func46, Tryz.ntmps46
   go_wp2_with (go_at_call 76; refine (step_any tier _).mono ?_; intro e w1 hh; rw [hh.1, hh.2, ← HST.out]; clear hh)
   exact bodyPost_ret (v := .agg #[.int .i64 5, .int .i64 0]) (by simp [results, Tryz.results46, go_sem]) rfl ⟨rfl, by go_grown⟩
  ·have hw : Grain.wrongB B st = Grain.wrongBF B st n 0 := by simp [Grain.wrongB, hst1, ← hn, h5]
   rw [hw]; clear hw
   have HN := hide hn
   clear hn
   have hd : decide ((500 : Int) < (n : Int)) = false := by simp; omega
   go_enter Tryz.func46, Tryz.ntmps46
   go_wp2_with (go_at_call 76; refine (step_any tier _).mono ?_; intro e w1 hh; rw [hh.1, hh.2, ← HST.out]; clear hh)
   go_loopw [19] (fun i wr => ∃ k : Nat, k ≤ n ∧ i = .int .i64 k ∧ Hid (Grain.wrongBF B st n 0 = Grain.wrongBF B st (n - k) k) ∧ wr.heap[w.heap.size]? = some (.cells #[.int .i64 0, .int .i64 0] 43 (0, 0)) ∧ Below w.heap.size w wr) (fun i _ => n - (intOf i).toNat)
   case atStart => exact ⟨0, Nat.zero_le _, rfl, rfl, heap_alloc_new w _, by go_grown⟩
   case round =>
    obtain ⟨k, hk, rfl, HW, hres, hbel⟩ := hrel
    by_cases hlt : k < n
    ·have hkl : k < B.length := by rw [← HN.out]; exact hlt
     obtain ⟨b, off, rfl, hb, hcell⟩ := seg_bucket hs hkl
     obtain ⟨K, hK⟩ : ∃ K, K = Grain.bk B k := ⟨_, rfl⟩
     have q := (hcell k hkl).below hbel hb
     rw [← hK] at q
     obtain ⟨c0, c1, c2, c3, c4, c5, c6, c7⟩ := q
     have hB : w.heap.size < wr.heap.size := lt_of_block hres
     have HK := hide hK
     clear hK
     go_wp2_with fail
     refine (kinRange_any K st _ HC.out).mono ?_
     rintro e w1 ⟨rfl, hb1⟩
     obtain ⟨hc1, hf1⟩ := bcell hb1
     have hres1 : w1.heap[w.heap.size]? = some (.cells #[.int .i64 0, .int .i64 0] 43 (0, 0)) := by
      rw [hb1.block _ (by simp; omega), Below.heap_alloc _ _ _ hB]; exact hres
     have hbel1 : Below w.heap.size w w1 := (hbel.alloc (by omega) _).trans (hb1.mono (by simp; omega))
     obtain ⟨r0, r1, r2, r3⟩ := two_cells hres1
     have x0 : w1.cell? ⟨wr.heap.size, 0, none⟩ = some (.int .i64 K.a) := by
      rw [hc1 _ _ (by simp)]; exact (eight_cells (k := K) (heap_alloc_new wr _)).1
     clear hc1 hf1 hb1 c0 c1 c2 c3 c4 c5 c6 c7 hres hbel
     cases hin : Grain.inRB K st
     ·have hw : Hid (Grain.wrongBF B st n 0 = (3, (k : Int))) := by
       show Grain.wrongBF B st n 0 = (3, (k : Int))
       have hbad : Grain.badB B st k = 3 := by unfold Grain.badB; rw [← HK.out, hin]; simp
       rw [HW.out, show n - k = (n - k - 1) + 1 from by omega, Grain.wrongBF_no (by rw [hbad]; decide), hbad]
      clear HW hin
      go_wp2
      exact bodyPost_ret (v := .agg #[.int .i64 3, .int .i64 k]) (by simp [results, Tryz.results46, go_sem, r0, r1]) rfl ⟨by rw [hw.out], (hbel1.setCell (Nat.le_refl _) _).setCell (Nat.le_refl _) _⟩
     ·rcases Nat.eq_zero_or_pos k with hk0 | hk0
      ·subst hk0
       have hg : decide ((0 : Int) < ((0 : Nat) : Int)) = false := by decide
       have hg' : decide ((0 : Int) < 0) = false := by decide
       have hw : Hid (Grain.wrongBF B st n 0 = Grain.wrongBF B st (n - (0 + 1)) (0 + 1)) := by
        show Grain.wrongBF B st n 0 = Grain.wrongBF B st (n - (0 + 1)) (0 + 1)
        have hbad : Grain.badB B st 0 = 0 := by unfold Grain.badB; rw [← HK.out, hin]; simp
        rw [HW.out, show n - 0 = (n - (0 + 1)) + 1 from by omega, Grain.wrongBF_ok hbad]
       clear HW hin
       go_wp2
       go_quiet (fail)
       go_wp2
       go_roundw
       case rel => exact ⟨0 + 1, by omega, by go_num, hw, hres1, below_drewN hbel1 _⟩
       case measure => simp [intOf]; omega
      ·obtain ⟨m, rfl⟩ : ∃ m, k = m + 1 := ⟨k - 1, by omega⟩
       have hg : decide ((0 : Int) < ((m + 1 : Nat) : Int)) = true := by simp
       have hg' : decide ((0 : Int) < (m : Int) + 1) = true := by simp
       obtain ⟨M, hM⟩ : ∃ M, M = (Grain.bk B m).a := ⟨_, rfl⟩
       have hw2 : Hid (K.a ≤ M → Grain.wrongBF B st n 0 = (2, ((m : Int) + 1))) := by
        intro hle
        have hbad : Grain.badB B st (m + 1) = 2 := by
         unfold Grain.badB
         rw [← HK.out, hin, if_neg (by simp), if_pos ⟨by omega, by simpa [← hM] using hle⟩]
        rw [HW.out, show n - (m + 1) = (n - (m + 1) - 1) + 1 from by omega, Grain.wrongBF_no (by rw [hbad]; decide), hbad]
        simp
       have hw : Hid (M < K.a → Grain.wrongBF B st n 0 = Grain.wrongBF B st (n - (m + 1 + 1)) (m + 1 + 1)) := by
        intro hle
        have hbad : Grain.badB B st (m + 1) = 0 := by
         unfold Grain.badB
         rw [← HK.out, hin, if_neg (by simp), if_neg (by simp [← hM]; omega)]
        rw [HW.out, show n - (m + 1) = (n - (m + 1 + 1)) + 1 from by omega, Grain.wrongBF_ok hbad]
       have p0 : w1.cell? ⟨b, off + m * 8, none⟩ = some (.int .i64 M) := by
        rw [hM]; exact ((hcell m (by omega)).below hbel1 hb).1
       clear HW hin hM hcell
       go_wp2
       go_quiet (fail)
       go_wp2
       ·exact bodyPost_ret (v := .agg #[.int .i64 2, .int .i64 ((m : Int) + 1)]) (by simp [results, Tryz.results46, go_sem, r0, r1]) rfl ⟨by rw [hw2.out (by assumption)], ((below_drewN hbel1 _).setCell (Nat.le_refl _) _).setCell (Nat.le_refl _) _⟩
       ·go_roundw
        case rel => exact ⟨m + 1 + 1, by omega, by go_num, hw.out (by assumption), hres1, below_drewN hbel1 _⟩
        case measure => simp [intOf]; omega
    ·obtain ⟨r0, r1, r2, r3⟩ := two_cells hres
     have he : k = n := by omega
     subst he
     have hw : Hid (Grain.wrongBF B st k 0 = (0, 0)) := by
      show Grain.wrongBF B st k 0 = (0, 0)
      rw [HW.out]; simp [Grain.wrongBF]
     clear HW
     go_wp2
     exact bodyPost_ret (v := .agg #[.int .i64 0, .int .i64 0]) (by simp [results, Tryz.results46, go_sem, r0, r1]) rfl ⟨by rw [hw.out], (hbel.setCell (Nat.le_refl _) _).setCell (Nat.le_refl _) _⟩
open Go.RowKit Go.GrainU
set_option maxRecDepth 20000 in
set_option maxHeartbeats 1000000 in
theorem kidx_any (l : List Grain.Bk) (p : Grain.Bk → Bool) (F : Nat) (caps : Array Value) (ao : Option Addr) (n c : Nat) (w : World) (ha : Seg w ao (kcells l)) (hn : n = l.length) (hc : n ≤ 9223372036854775807)
  (hE : Hid (∀ (args : Array Value) (W : World), (callFunc F args).run Tryz.prog W = .ok (.enter F args) W))
  (hF : ∀ W K, Below w.heap.size w W → Calls Tryz.prog F (#[kv K] ++ caps) W fun e W' => e = .returned (.bool (p K)) ∧ Below W.heap.size W W') :
  Calls Tryz.prog 162 #[.slice ao n c, .func (.func F) #[] caps] w fun e w' => (∃ i, e = .returned (.int .i64 i) ∧ decide (0 ≤ i) = l.any fun x => p x) ∧ Below w.heap.size w w' := by
 have HN := hide hn
 have HF := hide hF
 clear hn hF
 go_enter Tryz.func162, Tryz.ntmps162
 go_wp2
 go_loopw [8] (fun i wr => ∃ k : Nat, k ≤ n ∧ i = .int .i64 k ∧ Hid ((l.any fun x => p x) = (l.drop k).any fun x => p x) ∧ Below w.heap.size w wr) (fun i _ => n - (intOf i).toNat)
 case atStart => exact ⟨0, Nat.zero_le _, rfl, rfl, Below.refl _ _⟩
 case round =>
  obtain ⟨k, hk, rfl, HW, bel⟩ := hrel
  have hsz := bel.size
  by_cases hlt : k < n
  ·have hkl : k < l.length := by rw [← HN.out]; exact hlt
   obtain ⟨b, off, rfl, hb, hcell⟩ := seg_bucket ha hkl
   obtain ⟨K, hK⟩ : ∃ K, K = Grain.bk l k := ⟨_, rfl⟩
   have q := (hcell k hkl).below bel hb
   rw [← hK] at q
   obtain ⟨c0, c1, c2, c3, c4, c5, c6, c7⟩ := q
   have HS : Hid ((l.any fun x => p x) = (p K || (l.drop (k + 1)).any fun x => p x)) := by
    show _ = _
    rw [HW.out, List.drop_eq_getElem_cons hkl, List.any_cons, hK, Grain.bk_get hkl]
   clear hK hcell hkl HW
   go_wp2_with fail
   rw [hE.out, Oper.upon_enter]
   refine (HF.out wr K bel).mono ?_
   rintro e w1 ⟨rfl, hb1⟩
   have bel1 : Below w.heap.size w w1 := bel.trans (hb1.mono hsz)
   clear hb1 bel c0 c1 c2 c3 c4 c5 c6 c7
   cases hp : p K
   ·have hw : Hid ((l.any fun x => p x) = (l.drop (k + 1)).any fun x => p x) := by show _ = _; rw [HS.out, hp]; rfl
    clear HS hp
    go_wp2
    go_roundw
    case rel => exact ⟨k + 1, by omega, by go_num, hw, bel1⟩
    case measure => simp [intOf]; omega
   ·have hw : Hid ((l.any fun x => p x) = true) := by show _ = _; rw [HS.out, hp]; rfl
    clear HS hp
    go_wp2
    go_ret
    exact ⟨⟨_, rfl, by rw [hw.out]; simp⟩, bel1⟩
  ·have he : k = n := by omega
   subst he
   have hw : Hid ((l.any fun x => p x) = false) := by
    show _ = _
    rw [HW.out, List.drop_eq_nil_of_le (by rw [← HN.out]; omega)]; rfl
   clear HW
   go_wp2
   go_ret
   exact ⟨⟨_, rfl, by rw [hw.out]; rfl⟩, bel⟩
set_option maxHeartbeats 400000 in
theorem kcont_any (l : List Grain.Bk) (p : Grain.Bk → Bool) (F : Nat) (caps : Array Value) (ao : Option Addr) (n c : Nat) (w : World) (ha : Seg w ao (kcells l)) (hn : n = l.length) (hc : n ≤ 9223372036854775807)
  (hE : Hid (∀ (args : Array Value) (W : World), (callFunc F args).run Tryz.prog W = .ok (.enter F args) W))
  (hF : ∀ W K, Below w.heap.size w W → Calls Tryz.prog F (#[kv K] ++ caps) W fun e W' => e = .returned (.bool (p K)) ∧ Below W.heap.size W W') :
  Calls Tryz.prog 118 #[.slice ao n c, .func (.func F) #[] caps] w fun e w' => e = .returned (.bool (l.any fun x => p x)) ∧ Below w.heap.size w w' := by
 have HF := hide hF
 have HN := hide hn
 clear hF hn
 go_enter Tryz.func118, Tryz.ntmps118
 go_wp2_with fail
 refine (kidx_any l p F caps ao n c w ha HN.out hc hE HF.out).mono ?_
 rintro e w1 ⟨⟨i, rfl, hi⟩, hb1⟩
 have HI := hide hi
 clear hi
 go_wp2
 go_ret
 exact ⟨by rw [← HI.out]; rfl, hb1⟩
set_option maxRecDepth 20000 in
set_option maxHeartbeats 2000000 in
theorem kkept_any (l : List Grain.Bk) (p : Grain.Bk → Bool) (F : Nat) (caps : Array Value) (ao : Option Addr) (n c : Nat) (w : World) (hs : Seg w ao (kcells l)) (hn : n = l.length) (hL : n ≤ 1000000)
  (hE : Hid (∀ (args : Array Value) (W : World), (callFunc F args).run Tryz.prog W = .ok (.enter F args) W))
  (hF : ∀ W K, Below w.heap.size w W → Calls Tryz.prog F (#[kv K] ++ caps) W fun e W' => e = .returned (.bool (p K)) ∧ Below W.heap.size W W') :
  Calls Tryz.prog 136 #[.slice ao n c, .func (.func F) #[] caps] w fun e w' => ∃ co N d, e = .returned (.slice co N d) ∧ w'.ownsRow w.heap.size 145 8 (.slice co N d) N (kcells (l.filter fun x => p x)) ∧ Below w.heap.size w w' := by
 obtain ⟨i0, hi, hz0, hz1, hz2⟩ := sinfo_parts Tryz.infoBucket
 have HN := hide hn
 have HF := hide hF
 clear hn hF
 go_enter Tryz.func136, Tryz.ntmps136
 go_wp2
 go_loopw [5, 10] (fun out i wr => ∃ (k N d : Nat) (co : Option Addr), k ≤ n ∧ i = .int .i64 k ∧ out = .slice co N d ∧ N ≤ k ∧ wr.ownsRow w.heap.size 145 8 (.slice co N d) N (kcells ((l.take k).filter fun x => p x)) ∧ Below w.heap.size w wr) (fun _ i _ => n - (intOf i).toNat)
 case atStart => exact ⟨0, 0, 0, none, Nat.zero_le _, rfl, rfl, Nat.le_refl _, World.ownsRow_nil _ _ _ _, Below.refl _ _⟩
 case round =>
  obtain ⟨k, N, d, co, hk, rfl, rfl, hNk, own, bel⟩ := hrel
  have hsz := bel.size
  by_cases hlt : k < n
  ·have hkl : k < l.length := by rw [← HN.out]; exact hlt
   obtain ⟨b, off, rfl, hbl, hcell⟩ := seg_bucket hs hkl
   obtain ⟨K, hK⟩ : ∃ K, K = Grain.bk l k := ⟨_, rfl⟩
   have q := (hcell k hkl).below bel hbl
   rw [← hK] at q
   obtain ⟨c0, c1, c2, c3, c4, c5, c6, c7⟩ := q
   have HU : Hid (((l.take (k + 1)).filter fun x => p x) = if p K = true then ((l.take k).filter fun x => p x) ++ [K] else (l.take k).filter fun x => p x) := by
    show _ = _
    rw [filter_take _ hkl, hK, Grain.bk_get hkl]
   clear hK hcell hkl
   obtain ⟨V, hV⟩ : ∃ V, V = wr.alloc (ko K) := ⟨_, rfl⟩
   obtain ⟨X, hX⟩ : ∃ X, X = wr.heap.size := ⟨_, rfl⟩
   have F1 : V.heap[X]? = some (ko K) := by rw [hV, hX]; exact heap_alloc_new wr _
   have own1 : V.ownsRow w.heap.size 145 8 (.slice co N d) N (kcells ((l.take k).filter fun x => p x)) := by rw [hV]; exact own.alloc _
   have bel1 : Below w.heap.size w V := by rw [hV]; exact bel.alloc hsz _
   have hs1 := bel1.size
   have HV : Hid (V = wr.alloc (.cells #[.int .i64 K.a, .int .i64 K.s.c, .int .i64 K.s.t, .int .i64 K.s.mn, .int .i64 K.s.mx, .int .i64 K.s.f, .int .i64 K.s.l, .int .i64 K.s.r] 145)) := hV
   have HX := hide hX
   clear hV own
   go_wp2_with fail
   rw [hE.out, Oper.upon_enter, ← HV.out, ← HX.out]
   refine (HF.out V K bel1).mono ?_
   rintro e w1 ⟨rfl, hb1⟩
   have F2 : w1.heap[X]? = some (ko K) := below_block hb1 F1
   have own2 := own_below own1 hb1
   have bel2 : Below w.heap.size w w1 := bel1.trans (hb1.mono hs1)
   have hs2 := bel2.size
   obtain ⟨p0, p1, p2, p3, p4, p5, p6, p7⟩ := eight_cells F2
   clear hb1 own1 bel1 bel HV HX F1 hX c0 c1 c2 c3 c4 c5 c6 c7 hsz hs1
   cases hh : p K with
   | true =>
    have HE : Hid (((l.take (k + 1)).filter fun x => p x) = ((l.take k).filter fun x => p x) ++ [K]) := by
     show _ = _
     rw [HU.out, if_pos hh]
    clear HU hh
    go_wp2_with (at_builtin; refine wpList_append_lies _ rfl _ _ 57 rfl w.heap.size 145 i0 (.agg #[.int .i64 0, .int .i64 0, .int .i64 0, .int .i64 0, .int .i64 0, .int .i64 0, .int .i64 0, .int .i64 0]) 8 64 Tryz.underlying57 hi hz0 hz1 hz2 rfl (by decide) _ _ _ rfl (own2.alloc _) ⟨w1.heap.size, 0, none⟩ 1 1 (kc K) rfl rfl (World.news_of_block (cs := #[.int .i64 K.a, .int .i64 K.s.c, .int .i64 K.s.t, .int .i64 K.s.mn, .int .i64 K.s.mx, .int .i64 K.s.f, .int .i64 K.s.l, .int .i64 K.s.r]) (t := 145) (fr := (0, 0)) (by simpa using heap_alloc_new w1 _)) (by simp [kc, Value.oneCell']) (by decide) (by unfold maxLen; omega) (by omega) (by simp; omega) (w1.heap.size + 1) (by simp) ?_)
    intro g' cp' w5 own5 gr5 hat5 hlt5
    have own6 : w5.ownsRow w.heap.size 145 8 (.slice (some ⟨g', 0, none⟩) (N + 1) cp') (N + 1) (kcells ((l.take (k + 1)).filter fun x => p x)) := by
     rw [HE.out, kcells_snoc]; exact own5
    have bel5 : Below w.heap.size w w5 := (bel2.alloc hs2 _).grown gr5 (by simp; omega) (fun j hj => (own2.lt j hj).1)
    clear own5 gr5 hat5 hlt5 own2 HE
    go_wp2
    go_roundw
    case rel => exact ⟨k + 1, N + 1, cp', _, by omega, by go_num, rfl, by omega, own6, bel5⟩
    case measure => simp [intOf]; omega
   | false =>
    have HE : Hid (((l.take (k + 1)).filter fun x => p x) = (l.take k).filter fun x => p x) := by
     show _ = _
     rw [HU.out, if_neg (by rw [hh]; decide)]
    clear HU hh
    rw [← HE.out] at own2
    go_wp2
    go_roundw
    case rel => exact ⟨k + 1, N, d, co, by omega, by go_num, rfl, by omega, own2, bel2⟩
    case measure => simp [intOf]; omega
  ·have he : k = n := by omega
   subst he
   have HT := hide (List.take_of_length_le (i := k) (l := l) (by rw [← HN.out]; omega))
   rw [HT.out] at own
   clear HT HN
   go_wp2
   go_ret
   exact ⟨co, N, d, rfl, own, bel⟩
set_option maxHeartbeats 1000000 in
theorem kcopy_any (l : List Grain.Bk) (ao : Option Addr) (n c : Nat) (w : World) (hs : Seg w ao (kcells l)) (hn : n = l.length) (hL : n * 64 ≤ 140737488355328) (hnil : ao = none → n = 0 ∧ c = 0) :
  Calls Tryz.prog 177 #[.slice ao n c] w fun e w' => ∃ co N d, e = .returned (.slice co N d) ∧ w'.ownsRow w.heap.size 145 8 (.slice co N d) N (kcells l) ∧ Below w.heap.size w w' := by
 obtain ⟨i0, hi, hz0, hz1, hz2⟩ := sinfo_parts Tryz.infoBucket
 have HN := hide hn
 have HL := hide hL
 have HZ := hide hnil
 clear hn hL hnil
 go_enter Tryz.func177, Tryz.ntmps177
 go_wp2_with (at_builtin; refine append_seg rfl _ _ 57 rfl w.heap.size 145 i0 (.agg #[.int .i64 0, .int .i64 0, .int .i64 0, .int .i64 0, .int .i64 0, .int .i64 0, .int .i64 0, .int .i64 0]) 8 64 Tryz.underlying57 hi hz0 hz1 hz2 rfl (by decide) _ 0 [] rfl (World.ownsRow_nil _ _ _ _) ao n c (kcells l) rfl HZ.out hs ?qc1 (kcells_one l) ?qc4 ?qc5 (Nat.le_refl _) ?_)
 case qc1 => rw [kcells_length, HN.out]
 case qc4 => have := HL.out; unfold maxLen; omega
 case qc5 => have := HL.out; omega
 intro v' w1 own gr
 obtain ⟨ao', c', rfl, _, _⟩ := own_open own
 have bel1 : Below w.heap.size w w1 := (Below.refl _ _).grown gr (Nat.le_refl _) (fun j hj => by simp [Value.ownBlock] at hj)
 have own2 : w1.ownsRow w.heap.size 145 8 (.slice ao' (0 + n) c') (0 + n) (kcells l) := by simpa using own
 clear own gr
 go_wp2
 go_ret
 exact ⟨ao', n, c', rfl, by simpa using own2, bel1⟩
end Go.Proofs.YtoldmigappbjcaaGreatDoor
