/-
  match, ended walked.
-/
import Derived.Test.YtfgablhgjbjbkadGreatDoorRG
import Derived.Test.YtfgablhgjbjbkadGreatDoorExI
namespace Go.GrainU
open Go.RowKit

theorem Rd.far {t : TypeId} {w : World} {B : Nat} {s : ByteArray} {st : St} (h : Rd t w B s st) {X o : Nat} {v : Value} (hX : B ≠ X) : Rd t (w.setCell ⟨X, o, none⟩ v) B s st :=
  ⟨h.suf, by rw [setCell_far hX]; exact h.blk⟩

theorem grown_far {w w' : World} {r : Option Nat} (h : w.grownBy w' r) {X o : Nat} {v : Value} (hX : w.heap.size ≤ X) : w.grownBy (w'.setCell ⟨X, o, none⟩ v) r :=
  ⟨h.os, h.tape, h.output, by simpa using h.size, fun k hk hne => by rw [setCell_far (by omega)]; exact h.block k hk hne⟩

/-- a block that the call made, in a later world -/
theorem grown_block {w w' : World} {B X : Nat} (h : w.grownBy w' (some B)) {o : Obj} (hb : w.heap[X]? = some o) (hX : X ≠ B) : w'.heap[X]? = some o := by
  have hl : X < w.heap.size := by
    rcases Nat.lt_or_ge X w.heap.size with e | e
    · exact e
    · rw [Array.getElem?_eq_none (by exact e)] at hb; cases hb
  rw [h.block X hl (fun e => hX (Option.some.inj e))]
  exact hb

theorem thaw3 {w : World} {B : Nat} {x0 x1 x2 : Value} {t : TypeId} (h : w.heap[B]? = some (.cells #[x0, x1, x2] t (0, 0))) :
    w.frozen? ⟨B, 0, none⟩ = false ∧ w.frozen? ⟨B, 1, none⟩ = false ∧ w.frozen? ⟨B, 2, none⟩ = false := by
  simp [World.frozen?, h]

theorem thaw7 {w : World} {B : Nat} {x0 x1 x2 x3 x4 x5 x6 : Value} {t : TypeId} (h : w.heap[B]? = some (.cells #[x0, x1, x2, x3, x4, x5, x6] t (0, 0))) :
    w.frozen? ⟨B, 0, none⟩ = false ∧ w.frozen? ⟨B, 1, none⟩ = false ∧ w.frozen? ⟨B, 2, none⟩ = false ∧ w.frozen? ⟨B, 3, none⟩ = false ∧ w.frozen? ⟨B, 4, none⟩ = false ∧ w.frozen? ⟨B, 5, none⟩ = false ∧ w.frozen? ⟨B, 6, none⟩ = false := by
  simp [World.frozen?, h]

end Go.GrainU
namespace Go.Proofs.YtfgablhgjbjbkadGreatDoor
open Go.RowKit Go.GrainU

set_option maxHeartbeats 2000000 in
theorem pmatch_read (s : ByteArray) (st : St) (B : Nat) (w : World) (h : Rd 43 w B s st) (hs : s.size ≤ 2000) :
    Calls Tryz.prog 87 #[.pointer (some ⟨B, 0, none⟩)] w fun e w' => ((∃ m r, mtc st.r = .ok (m, r) ∧ e = .returned (.agg #[.int .i64 m.kind, .string m.key, .string m.val]) ∧ Rd 43 w' B s ⟨r, st.n⟩) ∨ ∃ f, mtc st.r = .error f ∧ e = .panicked [thr s f]) ∧ w.grownBy w' (some B) := by
  have hB := h.lt
  obtain ⟨X, hX⟩ : ∃ X, X = w.heap.size := ⟨_, rfl⟩
  obtain ⟨W, hW⟩ : ∃ W, W = w.alloc (.cells #[.int .i64 0, .string ⟨#[]⟩, .string ⟨#[]⟩] 46) := ⟨_, rfl⟩
  have RW : Rd 43 W B s st := by rw [hW]; exact h.alloc _
  have gW : w.grownBy W (some B) := by rw [hW]; exact grown_trans (World.grownBy.refl _ _) (World.grownBy_alloc _ _ none) (fun _ hk => by cases hk)
  have FX : W.heap[X]? = some (.cells #[.int .i64 0, .string ⟨#[]⟩, .string ⟨#[]⟩] 46 (0, 0)) := by rw [hW, hX]; exact heap_alloc_new w _
  have hXB : X ≠ B := by omega
  have HF := hide FX
  have HW := hide hW
  have HX := hide hX
  have HG := hide gW
  clear hW hX FX gW h
  have A1 := hide (accept_any [33] s st B W RW hs)
  unfold lit at A1
  cases ha : acc [33] st.r with
  | some r1 =>
    rw [ha] at A1
    simp only [Option.getD_some, Option.isSome_some] at A1
    have HM : Hid (mtc st.r = match wrd r1 with | .error e => .error e | .ok (k, r2) => .ok (⟨4, lit k, lit []⟩, r2)) := by show _ = _; simp only [mtc, ha]; rfl
    clear ha
    go_enter Tryz.func87, Tryz.ntmps87
    go_wp2_with fail
    rw [← HW.out, ← HX.out]
    refine A1.out.mono ?_
    rintro e w1 ⟨rfl, h1, g1⟩
    go_wp2_with fail
    refine (word_any s ⟨r1, st.n⟩ B w1 h1 hs).mono ?_
    rintro e w2 ⟨⟨x, r, hx, rfl, h2⟩ | ⟨f, hf, rfl⟩, g2⟩
    · have HE : Hid (mtc st.r = .ok (⟨4, lit x, lit []⟩, r)) := by show _ = _; rw [HM.out, hx]
      have F2 := grown_block g2 (grown_block g1 HF.out hXB) hXB
      obtain ⟨z0, z1, z2⟩ := three_cells7 F2
      obtain ⟨u0, u1, u2⟩ := thaw3 F2
      have G2 := grown_trans (grown_trans HG.out g1 (fun _ hk => .inl hk)) g2 (fun _ hk => .inl hk)
      have RF := ((h2.far (X := X) (o := 0) (v := .int .i64 4) (Ne.symm hXB)).far (X := X) (o := 1) (v := .string (lit x)) (Ne.symm hXB)).far (X := X) (o := 2) (v := .string ⟨#[]⟩) (Ne.symm hXB)
      have GF := grown_far (grown_far (grown_far G2 (X := X) (o := 0) (v := .int .i64 4) (by rw [HX.out]; exact Nat.le_refl _)) (X := X) (o := 1) (v := .string (lit x)) (by rw [HX.out]; exact Nat.le_refl _)) (X := X) (o := 2) (v := .string ⟨#[]⟩) (by rw [HX.out]; exact Nat.le_refl _)
      clear hx HM F2 g1 g2 h1 RW
      go_wp2
      exact bodyPost_ret (v := .agg #[.int .i64 4, .string (lit x), .string ⟨#[]⟩]) (by simp [results, Tryz.results87, go_sem, z0, z1, z2]) rfl ⟨.inl ⟨⟨4, lit x, lit []⟩, r, HE.out, rfl, RF⟩, GF⟩
    · have HE : Hid (mtc st.r = .error f) := by show _ = _; rw [HM.out, hf]
      have G2 := grown_trans (grown_trans HG.out g1 (fun _ hk => .inl hk)) g2 (fun _ hk => .inl hk)
      clear hf HM
      go_wp2_with fail
      exact ⟨rfl, .inr ⟨_, HE.out, rfl⟩, G2⟩
  | none =>
    rw [ha] at A1
    simp only [Option.getD_none, Option.isSome_none] at A1
    have HM : Hid (mtc st.r = match wrd st.r with
      | .error e => .error e
      | .ok (k, r2) => match acc [61] r2 with
        | some r3 => match wrd r3 with
          | .error e => .error e
          | .ok (v, r4) => .ok (⟨1, lit k, lit v⟩, r4)
        | none => match acc [33, 61] r2 with
          | some r3 => match wrd r3 with
            | .error e => .error e
            | .ok (v, r4) => .ok (⟨2, lit k, lit v⟩, r4)
          | none => .ok (⟨3, lit k, lit []⟩, r2)) := by show _ = _; simp only [mtc, ha]; rfl
    clear ha
    go_enter Tryz.func87, Tryz.ntmps87
    go_wp2_with fail
    rw [← HW.out, ← HX.out]
    refine A1.out.mono ?_
    rintro e w1 ⟨rfl, h1, g1⟩
    go_wp2_with fail
    refine (word_any s ⟨st.r, st.n⟩ B w1 h1 hs).mono ?_
    rintro e w2 ⟨⟨x, r, hx, rfl, h2⟩ | ⟨f, hf, rfl⟩, g2⟩
    · rw [hx] at HM
      simp only at HM
      have G2 := grown_trans (grown_trans HG.out g1 (fun _ hk => .inl hk)) g2 (fun _ hk => .inl hk)
      have F2 := grown_block g2 (grown_block g1 HF.out hXB) hXB
      have A2 := hide (accept_any [61] s ⟨r, st.n⟩ B w2 h2 hs)
      unfold lit at A2
      clear hx g1 g2 h1 RW
      cases hb : acc [61] r with
      | some r3 =>
        rw [hb] at A2 HM
        simp only [Option.getD_some, Option.isSome_some] at A2 HM
        clear hb
        go_wp2_with fail
        refine A2.out.mono ?_
        rintro e w3 ⟨rfl, h3, g3⟩
        go_wp2_with fail
        refine (word_any s ⟨r3, st.n⟩ B w3 h3 hs).mono ?_
        rintro e w4 ⟨⟨y, r4, hy, rfl, h4⟩ | ⟨f, hf, rfl⟩, g4⟩
        · have HE : Hid (mtc st.r = .ok (⟨1, lit x, lit y⟩, r4)) := by show _ = _; rw [HM.out, hy]
          have G4 := grown_trans (grown_trans G2 g3 (fun _ hk => .inl hk)) g4 (fun _ hk => .inl hk)
          have FF := grown_block g4 (grown_block g3 F2 hXB) hXB
          clear hy HM F2 G2 g3 g4 h3 h2
          obtain ⟨z0, z1, z2⟩ := three_cells7 FF
          obtain ⟨u0, u1, u2⟩ := thaw3 FF
          have RF := ((h4.far (X := X) (o := 0) (v := .int .i64 1) (Ne.symm hXB)).far (X := X) (o := 1) (v := .string (lit x)) (Ne.symm hXB)).far (X := X) (o := 2) (v := .string (lit y)) (Ne.symm hXB)
          have GF := grown_far (grown_far (grown_far G4 (X := X) (o := 0) (v := .int .i64 1) (by rw [HX.out]; exact Nat.le_refl _)) (X := X) (o := 1) (v := .string (lit x)) (by rw [HX.out]; exact Nat.le_refl _)) (X := X) (o := 2) (v := .string (lit y)) (by rw [HX.out]; exact Nat.le_refl _)
          clear FF
          go_wp2
          exact bodyPost_ret (v := .agg #[.int .i64 1, .string (lit x), .string (lit y)]) (by simp [results, Tryz.results87, go_sem, z0, z1, z2]) rfl ⟨.inl ⟨⟨1, lit x, lit y⟩, _, HE.out, rfl, RF⟩, GF⟩
        · have HE : Hid (mtc st.r = .error f) := by show _ = _; rw [HM.out, hf]
          have G4 := grown_trans (grown_trans G2 g3 (fun _ hk => .inl hk)) g4 (fun _ hk => .inl hk)
          clear hf HM
          go_wp2_with fail
          exact ⟨rfl, .inr ⟨_, HE.out, rfl⟩, G4⟩
      | none =>
        rw [hb] at A2 HM
        simp only [Option.getD_none, Option.isSome_none] at A2 HM
        clear hb
        go_wp2_with fail
        refine A2.out.mono ?_
        rintro e w3 ⟨rfl, h3, g3⟩
        have A3 := hide (accept_any [33, 61] s ⟨r, st.n⟩ B w3 h3 hs)
        unfold lit at A3
        have G3 := grown_trans G2 g3 (fun _ hk => .inl hk)
        have F3 := grown_block g3 F2 hXB
        clear G2 F2 g3 h2
        cases hc : acc [33, 61] r with
        | some r3 =>
          rw [hc] at A3 HM
          simp only [Option.getD_some, Option.isSome_some] at A3 HM
          clear hc
          go_wp2_with fail
          refine A3.out.mono ?_
          rintro e w4 ⟨rfl, h4, g4⟩
          go_wp2_with fail
          refine (word_any s ⟨r3, st.n⟩ B w4 h4 hs).mono ?_
          rintro e w5 ⟨⟨y, r4, hy, rfl, h5⟩ | ⟨f, hf, rfl⟩, g5⟩
          · have HE : Hid (mtc st.r = .ok (⟨2, lit x, lit y⟩, r4)) := by show _ = _; rw [HM.out, hy]
            have G5 := grown_trans (grown_trans G3 g4 (fun _ hk => .inl hk)) g5 (fun _ hk => .inl hk)
            have FF := grown_block g5 (grown_block g4 F3 hXB) hXB
            clear hy HM F3 G3 g4 g5 h3 h4
            obtain ⟨z0, z1, z2⟩ := three_cells7 FF
            obtain ⟨u0, u1, u2⟩ := thaw3 FF
            have RF := ((h5.far (X := X) (o := 0) (v := .int .i64 2) (Ne.symm hXB)).far (X := X) (o := 1) (v := .string (lit x)) (Ne.symm hXB)).far (X := X) (o := 2) (v := .string (lit y)) (Ne.symm hXB)
            have GF := grown_far (grown_far (grown_far G5 (X := X) (o := 0) (v := .int .i64 2) (by rw [HX.out]; exact Nat.le_refl _)) (X := X) (o := 1) (v := .string (lit x)) (by rw [HX.out]; exact Nat.le_refl _)) (X := X) (o := 2) (v := .string (lit y)) (by rw [HX.out]; exact Nat.le_refl _)
            clear FF
            go_wp2
            exact bodyPost_ret (v := .agg #[.int .i64 2, .string (lit x), .string (lit y)]) (by simp [results, Tryz.results87, go_sem, z0, z1, z2]) rfl ⟨.inl ⟨⟨2, lit x, lit y⟩, _, HE.out, rfl, RF⟩, GF⟩
          · have HE : Hid (mtc st.r = .error f) := by show _ = _; rw [HM.out, hf]
            have G5 := grown_trans (grown_trans G3 g4 (fun _ hk => .inl hk)) g5 (fun _ hk => .inl hk)
            clear hf HM
            go_wp2_with fail
            exact ⟨rfl, .inr ⟨_, HE.out, rfl⟩, G5⟩
        | none =>
          rw [hc] at A3 HM
          simp only [Option.getD_none, Option.isSome_none] at A3 HM
          clear hc
          go_wp2_with fail
          refine A3.out.mono ?_
          rintro e w4 ⟨rfl, h4, g4⟩
          have HE : Hid (mtc st.r = .ok (⟨3, lit x, lit []⟩, r)) := HM.out
          have G4 := grown_trans G3 g4 (fun _ hk => .inl hk)
          have FF := grown_block g4 F3 hXB
          clear HM F3 G3 g4 h3
          obtain ⟨z0, z1, z2⟩ := three_cells7 FF
          obtain ⟨u0, u1, u2⟩ := thaw3 FF
          have RF := ((h4.far (X := X) (o := 0) (v := .int .i64 3) (Ne.symm hXB)).far (X := X) (o := 1) (v := .string (lit x)) (Ne.symm hXB)).far (X := X) (o := 2) (v := .string ⟨#[]⟩) (Ne.symm hXB)
          have GF := grown_far (grown_far (grown_far G4 (X := X) (o := 0) (v := .int .i64 3) (by rw [HX.out]; exact Nat.le_refl _)) (X := X) (o := 1) (v := .string (lit x)) (by rw [HX.out]; exact Nat.le_refl _)) (X := X) (o := 2) (v := .string ⟨#[]⟩) (by rw [HX.out]; exact Nat.le_refl _)
          clear FF
          go_wp2
          exact bodyPost_ret (v := .agg #[.int .i64 3, .string (lit x), .string ⟨#[]⟩]) (by simp [results, Tryz.results87, go_sem, z0, z1, z2]) rfl ⟨.inl ⟨⟨3, lit x, lit []⟩, _, HE.out, rfl, RF⟩, GF⟩
    · have HE : Hid (mtc st.r = .error f) := by show _ = _; rw [HM.out, hf]
      have G2 := grown_trans (grown_trans HG.out g1 (fun _ hk => .inl hk)) g2 (fun _ hk => .inl hk)
      clear hf HM
      go_wp2_with fail
      exact ⟨rfl, .inr ⟨_, HE.out, rfl⟩, G2⟩

end Go.Proofs.YtfgablhgjbjbkadGreatDoor
