import Derived.Test.YtoldmigappbjcaaGreatDoorL07
namespace Go.GrainU
open Go.RowKit
def cut (b : Nat) (w : World) : World := { w with heap := w.heap.mapIdx fun i o => if i < b then .cells #[] 0 (0, 0) else o }
theorem cut_size (b : Nat) (w : World) : (cut b w).heap.size = w.heap.size := by simp [cut]
theorem cut_far {b k : Nat} {w : World} (h : b ≤ k) : (cut b w).heap[k]? = w.heap[k]? := by
 simp only [cut, Array.getElem?_mapIdx]
 cases w.heap[k]? with
 | none => rfl
 | some o => simp [show ¬ k < b from by omega]
theorem cut_near {b k : Nat} {w : World} (h : k < b) (hk : k < w.heap.size) : (cut b w).heap[k]? = some (.cells #[] 0 (0, 0)) := by
 simp only [cut, Array.getElem?_mapIdx, Array.getElem?_eq_getElem hk]
 simp [h]
theorem cut_cell {b k o : Nat} {w : World} (h : b ≤ k) : (cut b w).cell? ⟨k, o, none⟩ = w.cell? ⟨k, o, none⟩ := by
 simp [World.cell?, cut_far h]
theorem cut_none {b k o : Nat} {w : World} {v : Value} (h : (cut b w).cell? ⟨k, o, none⟩ = some v) : b ≤ k := by
 rcases Nat.lt_or_ge k b with e | e
 ·have hl := World.block_lt_of_cell? _ _ h
  rw [cut_size] at hl
  simp [World.cell?, cut_near e hl] at h
 ·exact e
theorem rseg_cut {b : Nat} {w : World} {ao : Option Addr} {xs : List Value} (h : Seg w ao xs) (hne : ∀ k off, ao = some ⟨k, off, none⟩ → b ≤ k) : Seg (cut b w) ao xs := by
 rcases h with h | ⟨k, off, rfl, h⟩
 ·exact .inl h
 ·exact .inr ⟨k, off, rfl, fun j hj => by rw [cut_cell (hne k off rfl)]; exact h j hj⟩
theorem seg_low {b b' : Nat} {w : World} {ao : Option Addr} {xs : List Value} (hb : b' ≤ b) (h : Seg (cut b w) ao xs) : Seg (cut b' w) ao xs := by
 rcases h with h | ⟨k, off, rfl, h⟩
 ·exact .inl h
 ·cases xs with
  | nil => exact .inl rfl
  | cons x r =>
   have hk : b ≤ k := by
    have := h 0 (by simp)
    simp only [Nat.add_zero, List.getElem?_cons_zero] at this
    exact cut_none this
   exact .inr ⟨k, off, rfl, fun j hj => by rw [cut_cell (by omega), ← cut_cell hk]; exact h j hj⟩
theorem cut_zero (w : World) : cut 0 w = w := by
 unfold cut
 congr 1
 apply Array.ext
 ·simp
 ·intro i h1 h2; simp
theorem ET.In.low {b b' : Nat} {w : World} (hb : b' ≤ b) : ∀ t : ET, t.In (cut b w) → t.In (cut b' w) := by
 refine ET.ind ?_
 intro h s kids ih hin
 simp only [ET.In] at hin ⊢
 obtain ⟨⟨a, c, e⟩, d, f⟩ := hin
 exact ⟨⟨seg_low hb a, seg_low hb c, seg_low hb e⟩, d, inL_of fun k hk => ih k hk (inL_mem f k hk)⟩
theorem ET.In.whole {b : Nat} {w : World} {t : ET} (h : t.In (cut b w)) : t.In w := by
 have := ET.In.low (Nat.zero_le b) t h
 rw [cut_zero] at this
 exact this
theorem cut_below {b : Nat} {w w' : World} (ho : w'.os = w.os) (ht : w'.tape = w.tape) (hp : w'.output = w.output) (hsz : w.heap.size ≤ w'.heap.size) (hk : ∀ k, b ≤ k → k < w.heap.size → w'.heap[k]? = w.heap[k]?) :
  Below (cut b w).heap.size (cut b w) (cut b w') := by
 refine ⟨ho, ht, hp, by rw [cut_size, cut_size]; exact hsz, fun k hl => ?_⟩
 rw [cut_size] at hl
 rcases Nat.lt_or_ge k b with e | e
 ·rw [cut_near e hl, cut_near e (by omega)]
 ·rw [cut_far e, cut_far e]
  exact hk k e hl
theorem ET.In.grown {b B : Nat} {w w' : World} {t : ET} (h : t.In (cut b w)) (g : w.grownBy w' (some B)) (hB : B < b) : t.In (cut b w') :=
 ET.In.below (cut_below g.os g.tape g.output g.size fun k hb hk => g.block k hk (fun e => by have := Option.some.inj e; omega)) t h
theorem ET.In.far {b X o : Nat} {w : World} {t : ET} {v : Value} (h : t.In (cut b w)) (hX : X < b) : t.In (cut b (w.setCell ⟨X, o, none⟩ v)) :=
 ET.In.below (cut_below (w := w) (w' := w.setCell ⟨X, o, none⟩ v) rfl rfl rfl (by simp) fun k hb hk => setCell_far (by omega)) t h
theorem own_cut {b : Nat} {w : World} {base e size n c : Nat} {co : Option Addr} {xs : List Value} (h : w.ownsRow base e size (.slice co n c) n xs) (hb : b ≤ base) : Seg (cut b w) co xs ∧ n ≤ c := by
 obtain ⟨ao, c', hv, sg, hc⟩ := own_open h
 simp at hv
 obtain ⟨rfl, rfl⟩ := hv
 refine ⟨rseg_cut sg fun k off e => ?_, hc⟩
 have := (h.lt k (by rw [e]; rfl)).1
 omega
open Go.RowKit
theorem set7 {w : World} {B : Nat} {x0 x1 x2 x3 x4 x5 x6 : Value} {t : TypeId} (h : w.heap[B]? = some (.cells #[x0, x1, x2, x3, x4, x5, x6] t (0, 0))) (y : Value) :
  (w.setCell ⟨B, 2, none⟩ y).heap[B]? = some (.cells #[x0, x1, y, x3, x4, x5, x6] t (0, 0)) ∧ (w.setCell ⟨B, 4, none⟩ y).heap[B]? = some (.cells #[x0, x1, x2, x3, y, x5, x6] t (0, 0)) ∧ (w.setCell ⟨B, 5, none⟩ y).heap[B]? = some (.cells #[x0, x1, x2, x3, x4, y, x6] t (0, 0)) ∧ (w.setCell ⟨B, 6, none⟩ y).heap[B]? = some (.cells #[x0, x1, x2, x3, x4, x5, y] t (0, 0)) := by
 simp [World.setCell, Array.getElem?_modify, h]
theorem rown_far {w : World} {base e size n X o : Nat} {v u : Value} {xs : List Value} (h : w.ownsRow base e size v n xs) (hX : X < base) : (w.setCell ⟨X, o, none⟩ u).ownsRow base e size v n xs := by
 refine ⟨h.1, ?_⟩
 rcases h.2 with h0 | ⟨b, cap, cur, hv, hb, hblk, rest⟩
 ·exact .inl h0
 ·exact .inr ⟨b, cap, cur, hv, hb, by rw [setCell_far (by omega)]; exact hblk, rest⟩
theorem lstF_fit {α : Type} {part : List UInt8 → Except Flt (α × List UInt8)} {Q : α → Prop} (hp : ∀ r a r', part r = .ok (a, r') → Q a) {most : Nat} : ∀ (k : Nat) (l : List α) (r : List UInt8) (l' : List α) (r' : List UInt8), (∀ a ∈ l, Q a) → lstF part most k l r = .ok (l', r') → (∀ a ∈ l', Q a) ∧ l'.length ≤ l.length + k := by
 intro k
 induction k with
 | zero => intro l r l' r' hl h; simp [lstF] at h; rw [← h.1]; exact ⟨hl, Nat.le_refl _⟩
 | succ k ih =>
  intro l r l' r' hl h
  cases ha : acc [44] r with
  | none => rw [lstF_none ha] at h; simp at h; rw [← h.1]; exact ⟨hl, by omega⟩
  | some r1 =>
   by_cases hm : l.length = most
   ·rw [lstF_full ha hm] at h; cases h
   ·cases hq : part r1 with
    | error f => rw [lstF_err ha hm hq] at h; cases h
    | ok x =>
     obtain ⟨a, r2⟩ := x
     rw [lstF_ok ha hm hq] at h
     have := ih (l ++ [a]) r2 l' r' (fun b hb => by
      rcases List.mem_append.1 hb with e | e
      ·exact hl b e
      ·rw [List.mem_singleton.1 e]; exact hp r1 a r2 hq) h
     rw [List.length_append] at this
     exact ⟨this.1, by have := this.2; simp at this; omega⟩
theorem lst_fit {α : Type} {part : List UInt8 → Except Flt (α × List UInt8)} {Q : α → Prop} (hp : ∀ r a r', part r = .ok (a, r') → Q a) {most : Nat} {r : List UInt8} {l : List α} {r' : List UInt8} (h : lst part most r = .ok (l, r')) : (∀ a ∈ l, Q a) ∧ l.length ≤ most + 1 := by
 unfold lst at h
 cases hq : part r with
 | error f => rw [hq] at h; cases h
 | ok x =>
  obtain ⟨a, r2⟩ := x
  rw [hq] at h
  have := lstF_fit hp most [a] r2 l r' (fun b hb => by rw [List.mem_singleton.1 hb]; exact hp r a r2 hq) h
  exact ⟨this.1, by have := this.2; simp at this; omega⟩
theorem wrd_len {r x r' : List UInt8} (h : wrd r = .ok (x, r')) : x.length ≤ 12 := by
 unfold wrd at h
 split at h
 ·cases h
 ·split at h
  ·cases h
  ·rename_i h2
   injection h with h
   have h3 : (anyW r).1.length = x.length := by rw [h]
   omega
theorem mtc_fit {r r' : List UInt8} {m : Mt} (h : mtc r = .ok (m, r')) : m.key.size ≤ 140737488355328 ∧ m.val.size ≤ 140737488355328 := by
 have key : ∀ k : List UInt8, k.length ≤ 12 → (lit k).size ≤ 140737488355328 := fun k hk => by rw [lit_size]; omega
 unfold mtc at h
 cases ha : acc [33] r with
 | some r1 =>
  rw [ha] at h
  simp only at h
  cases hw : wrd r1 with
  | error f => rw [hw] at h; cases h
  | ok x =>
   obtain ⟨x, r2⟩ := x
   rw [hw] at h
   simp at h
   rw [← h.1]
   exact ⟨key x (wrd_len hw), key [] (by simp)⟩
 | none =>
  rw [ha] at h
  simp only at h
  cases hw : wrd r with
  | error f => rw [hw] at h; cases h
  | ok x =>
   obtain ⟨x, r2⟩ := x
   rw [hw] at h
   simp only at h
   cases hb : acc [61] r2 with
   | some r3 =>
    rw [hb] at h
    simp only at h
    cases hy : wrd r3 with
    | error f => rw [hy] at h; cases h
    | ok y =>
     obtain ⟨y, r4⟩ := y
     rw [hy] at h
     simp at h
     rw [← h.1]
     exact ⟨key x (wrd_len hw), key y (wrd_len hy)⟩
   | none =>
    rw [hb] at h
    simp only at h
    cases hc : acc [33, 61] r2 with
    | some r3 =>
     rw [hc] at h
     simp only at h
     cases hy : wrd r3 with
     | error f => rw [hy] at h; cases h
     | ok y =>
      obtain ⟨y, r4⟩ := y
      rw [hy] at h
      simp at h
      rw [← h.1]
      exact ⟨key x (wrd_len hw), key y (wrd_len hy)⟩
    | none =>
     rw [hc] at h
     simp at h
     rw [← h.1]
     exact ⟨key x (wrd_len hw), key [] (by simp)⟩
theorem own_mlen {w : World} {base e N : Nat} {v : Value} {l : List Mt} (h : w.ownsRow base e 3 v N (mcells l)) : N = l.length := by
 have := h.1; rw [mcells_length] at this; omega
end Go.GrainU
namespace Go.Proofs.YtoldmigappbjcaaGreatDoor
open Go.RowKit Go.GrainU
set_option maxHeartbeats 4000000 in
theorem window_any (wd : ByteArray) (s : ByteArray) (st : St) (B : Nat) (w0 w : World) (h : Rd 95 w B s st) (hs : s.size ≤ 2000) (hn : st.n ≤ 1000) (hv : ErrV w0) (hb0 : Below w0.heap.size w0 w) (hB0 : w0.heap.size ≤ B) (hwd : wd.size ≤ 100) :
  Calls Tryz.prog 191 #[.pointer (some ⟨B, 0, none⟩), .string wd] w fun e w' => ((∃ t q, wnd wd st = .ok (ET.ex t, q) ∧ e = .returned (eval t) ∧ t.In (cut w.heap.size w') ∧ Rd 95 w' B s q) ∨ ∃ f, wnd wd st = .error f ∧ e = .panicked [thr s f]) ∧ w.grownBy w' (some B) := by
 have hB := h.lt
 obtain ⟨X, hX⟩ : ∃ X, X = w.heap.size := ⟨_, rfl⟩
 obtain ⟨V, hV⟩ : ∃ V, V = (w.alloc (.cells #[.int .i64 0, .int .i64 0, .int .i64 0, .string ⟨#[]⟩, .slice none 0 0, .slice none 0 0, .slice none 0 0] 41)).alloc (.cells #[.int .i64 2, .int .i64 0, .int .i64 0, .string wd, .slice none 0 0, .slice none 0 0, .slice none 0 0] 41) := ⟨_, rfl⟩
 have R0 : Rd 95 V B s st := by rw [hV]; exact (h.alloc _).alloc _
 have G0 : w.grownBy V (some B) := by rw [hV]; exact grown_trans (grown_trans (World.grownBy.refl _ _) (World.grownBy_alloc _ _ none) (fun _ hk => by cases hk)) (World.grownBy_alloc _ _ none) (fun _ hk => by cases hk)
 have FX0 : V.heap[X]? = some (.cells #[.int .i64 0, .int .i64 0, .int .i64 0, .string ⟨#[]⟩, .slice none 0 0, .slice none 0 0, .slice none 0 0] 41 (0, 0)) := by
  rw [hV, hX, Below.heap_alloc _ _ _ (by simp)]; exact heap_alloc_new w _
 have FY0 : V.heap[X + 1]? = some (.cells #[.int .i64 2, .int .i64 0, .int .i64 0, .string wd, .slice none 0 0, .slice none 0 0, .slice none 0 0] 41 (0, 0)) := by
  have := heap_alloc_new (w.alloc (.cells #[.int .i64 0, .int .i64 0, .int .i64 0, .string ⟨#[]⟩, .slice none 0 0, .slice none 0 0, .slice none 0 0] 41)) (.cells #[.int .i64 2, .int .i64 0, .int .i64 0, .string wd, .slice none 0 0, .slice none 0 0, .slice none 0 0] 41)
  rw [hV, hX]; simpa using this
 have hXB : X ≠ B := by omega
 have hYB : X + 1 ≠ B := by omega
 have hV2 : X + 1 < V.heap.size := by rw [hV, hX]; simp
 have HV := hide hV
 have HX := hide hX
 have HEV := hide hv
 have HB0 := hide hb0
 have hXw : w.heap.size ≤ X := by omega
 clear hV hX h hv hb0
 go_enter Tryz.func191, Tryz.ntmps191
 go_wp2_with fail
 rw [← HV.out, ← HX.out]
 have E1 := hide (expect_any [40] s st B V R0 hs)
 unfold lit at E1
 refine E1.out.mono ?_
 rintro e w1 ⟨⟨r1, hx, rfl, R1⟩ | ⟨f, hf, rfl⟩, g⟩
 rotate_left
 ·have HE : Hid (wnd wd st = .error f) := by show _ = _; simp only [wnd, hf]
  have G := grown_trans G0 g (fun _ hk => .inl hk)
  clear hf
  go_wp2_with fail
  exact ⟨rfl, .inr ⟨_, HE.out, rfl⟩, G⟩
 have Q1 := hide hx
 have G1 := grown_trans G0 g (fun _ hk => .inl hk)
 have FX1 := grown_block g FX0 hXB
 have FY1 := grown_block g FY0 hYB
 clear hx g E1 G0 FX0 FY0 R0
 go_wp2_with fail
 have E2 := hide (expect_any [123] s ⟨r1, st.n⟩ B w1 R1 hs)
 unfold lit at E2
 refine E2.out.mono ?_
 rintro e w2 ⟨⟨r2, hx, rfl, R2⟩ | ⟨f, hf, rfl⟩, g⟩
 rotate_left
 ·have HE : Hid (wnd wd st = .error f) := by show _ = _; simp only [wnd, Q1.out, hf]
  have G := grown_trans G1 g (fun _ hk => .inl hk)
  clear hf
  go_wp2_with fail
  exact ⟨rfl, .inr ⟨_, HE.out, rfl⟩, G⟩
 have Q2 := hide hx
 have G2 := grown_trans G1 g (fun _ hk => .inl hk)
 have FX2 := grown_block g FX1 hXB
 have FY2 := grown_block g FY1 hYB
 clear hx g E2 G1 FX1 FY1 R1
 have A2 := hide (accept_any [125] s ⟨r2, st.n⟩ B w2 R2 hs)
 unfold lit at A2
 go_wp2_with fail
 cases ha : acc [125] r2 with
 | some r3 =>
  have Q3 : Hid (wnM r2 = .ok ([], r3)) := by show _ = _; simp only [wnM, ha]
  rw [ha] at A2
  simp only [Option.getD_some, Option.isSome_some] at A2
  clear ha
  refine A2.out.mono ?_
  rintro e w3 ⟨rfl, R3, g⟩
  have G3 := grown_trans G2 g (fun _ hk => .inl hk)
  have FX3 := grown_block g FX2 hXB
  have FY3 := grown_block g FY2 hYB
  clear g G2 FX2 FY2 R2 A2
  go_wp2_with fail
  have E4 := hide (expect_any [91] s ⟨r3, st.n⟩ B w3 R3 hs)
  unfold lit at E4
  refine E4.out.mono ?_
  rintro e w4 ⟨⟨r4, hx, rfl, R4⟩ | ⟨f, hf, rfl⟩, g⟩
  rotate_left
  ·have HE : Hid (wnd wd st = .error f) := by show _ = _; simp only [wnd, Q1.out, Q2.out, Q3.out, hf]
   have G := grown_trans G3 g (fun _ hk => .inl hk)
   clear hf
   go_wp2_with fail
   exact ⟨rfl, .inr ⟨_, HE.out, rfl⟩, G⟩
  have Q4 := hide hx
  have G4 := grown_trans G3 g (fun _ hk => .inl hk)
  have FX4 := grown_block g FX3 hXB
  have FY4 := grown_block g FY3 hYB
  clear hx g E4 G3 FX3 FY3 R3
  go_wp2_with fail
  refine (number_any 1 100000 s ⟨r4, st.n⟩ B w0 w4 R4 hs HEV.out (HB0.out.grown G4 HB0.out.size (fun j hj => by cases hj; exact hB0)) hB0).mono ?_
  rintro e w5 ⟨⟨nn, r5, hx, rfl, R5⟩ | ⟨f, hf, rfl⟩, g⟩
  rotate_left
  ·have HE : Hid (wnd wd st = .error f) := by show _ = _; simp only [wnd, Q1.out, Q2.out, Q3.out, Q4.out, hf]
   have G := grown_trans G4 g (fun _ hk => .inl hk)
   clear hf
   go_wp2_with fail
   exact ⟨rfl, .inr ⟨_, HE.out, rfl⟩, G⟩
  have Q5 := hide hx
  have G5 := grown_trans G4 g (fun _ hk => .inl hk)
  have FX5 := grown_block g FX4 hXB
  have FY5 := grown_block g FY4 hYB
  clear hx g G4 FX4 FY4 R4
  obtain ⟨y0, y1, y2, y3, y4, y5, y6⟩ := seven_cells FY5
  obtain ⟨u0, u1, u2, u3, u4, u5, u6⟩ := thaw7 FY5
  obtain ⟨w6, hw6⟩ : ∃ v, v = w5.setCell ⟨X + 1, 2, none⟩ (.int .i64 nn) := ⟨_, rfl⟩
  have R6 : Rd 95 w6 B s ⟨r5, st.n⟩ := by rw [hw6]; exact R5.far (Ne.symm hYB)
  have G6 : w.grownBy w6 (some B) := by rw [hw6]; exact grown_far G5 (by omega)
  have FX6 : w6.heap[X]? = some (.cells #[.int .i64 0, .int .i64 0, .int .i64 0, .string ⟨#[]⟩, .slice none 0 0, .slice none 0 0, .slice none 0 0] 41 (0, 0)) := by rw [hw6, setCell_far (by omega)]; exact FX5
  have FY6 : w6.heap[X + 1]? = some (.cells #[.int .i64 2, .int .i64 0, .int .i64 nn, .string wd, .slice none 0 0, .slice none 0 0, .slice none 0 0] 41 (0, 0)) := by rw [hw6]; exact (set7 FY5 (.int .i64 nn)).1
  have HW6 := hide hw6
  clear hw6 G5 FX5 FY5 R5
  go_wp2_with fail
  rw [← HW6.out]
  clear y0 y1 y2 y3 y4 y5 y6 u0 u1 u2 u3 u4 u5 u6
  have E7 := hide (expect_any [93] s ⟨r5, st.n⟩ B w6 R6 hs)
  unfold lit at E7
  refine E7.out.mono ?_
  rintro e w7 ⟨⟨r7, hx, rfl, R7⟩ | ⟨f, hf, rfl⟩, g⟩
  rotate_left
  ·have HE : Hid (wnd wd st = .error f) := by show _ = _; simp only [wnd, Q1.out, Q2.out, Q3.out, Q4.out, Q5.out, hf]
   have G := grown_trans G6 g (fun _ hk => .inl hk)
   clear hf
   go_wp2_with fail
   exact ⟨rfl, .inr ⟨_, HE.out, rfl⟩, G⟩
  have Q7 := hide hx
  have G7 := grown_trans G6 g (fun _ hk => .inl hk)
  have FX7 := grown_block g FX6 hXB
  have FY7 := grown_block g FY6 hYB
  clear hx g E7 G6 FX6 FY6 R6
  go_wp2_with fail
  have E8 := hide (expect_any [41] s ⟨r7, st.n⟩ B w7 R7 hs)
  unfold lit at E8
  refine E8.out.mono ?_
  rintro e w8 ⟨⟨r8, hx, rfl, R8⟩ | ⟨f, hf, rfl⟩, g⟩
  rotate_left
  ·have HE : Hid (wnd wd st = .error f) := by show _ = _; simp only [wnd, Q1.out, Q2.out, Q3.out, Q4.out, Q5.out, Q7.out, hf]
   have G := grown_trans G7 g (fun _ hk => .inl hk)
   clear hf
   go_wp2_with fail
   exact ⟨rfl, .inr ⟨_, HE.out, rfl⟩, G⟩
  have Q8 := hide hx
  have G8 := grown_trans G7 g (fun _ hk => .inl hk)
  have FX8 := grown_block g FX7 hXB
  have FY8 := grown_block g FY7 hYB
  clear hx g E8 G7 FX7 FY7 R7
  obtain ⟨y0, y1, y2, y3, y4, y5, y6⟩ := seven_cells FY8
  obtain ⟨tt, htt⟩ : ∃ tt : ET, tt = .node ⟨2, 0, nn, wd, [], []⟩ ⟨none, 0, none, 0, none, 0⟩ [] := ⟨_, rfl⟩
  have HEND := hide (ended_any tt s ⟨r8, st.n⟩ B w8 R8 hn)
  have hev : eval tt = .agg #[.int .i64 2, .int .i64 0, .int .i64 nn, .string wd, .slice none 0 0, .slice none 0 0, .slice none 0 0] := by rw [htt]; rfl
  have hex : tt.ex = .mk ⟨2, 0, nn, wd, [], []⟩ [] := by rw [htt]; simp [ET.ex, exL]
  have HFIN : Hid (wnd wd st = fin tt.ex ⟨r8, st.n⟩) := by show _ = _; rw [hex]; simp only [wnd, Q1.out, Q2.out, Q3.out, Q4.out, Q5.out, Q7.out, Q8.out]
  have HIN : Hid (∀ v : World, tt.In (cut w.heap.size v)) := by
   intro v
   rw [htt]
   simp only [ET.In]
   exact ⟨⟨.inl rfl, .inl rfl, .inl rfl⟩, ⟨by simp, by simp, by simp, by show wd.size ≤ _; omega, fun m hm => by (cases hm), fun b hb => by (cases hb), Nat.le_refl _, fun m hm => by (cases hm)⟩, by simp [InL]⟩
  rw [hev] at HEND
  clear htt hex
  go_wp2_with fail
  refine HEND.out.mono ?_
  rintro e w9 ⟨⟨hx, rfl, R9⟩ | ⟨hf, rfl⟩, g⟩
  ·have HE : Hid (wnd wd st = .ok (tt.ex, ⟨r8, st.n + 1⟩)) := by show _ = _; rw [HFIN.out, hx]
   have G9 := grown_trans G8 g (fun _ hk => .inl hk)
   have FX9 := grown_block g FX8 hXB
   obtain ⟨z0, z1, z2, z3, z4, z5, z6⟩ := seven_cells FX9
   obtain ⟨u0, u1, u2, u3, u4, u5, u6⟩ := thaw7 FX9
   have RF := ((((((R9.far (X := X) (o := 0) (v := .int .i64 2) (Ne.symm hXB)).far (X := X) (o := 1) (v := .int .i64 0) (Ne.symm hXB)).far (X := X) (o := 2) (v := .int .i64 nn) (Ne.symm hXB)).far (X := X) (o := 3) (v := .string wd) (Ne.symm hXB)).far (X := X) (o := 4) (v := .slice none 0 0) (Ne.symm hXB)).far (X := X) (o := 5) (v := .slice none 0 0) (Ne.symm hXB)).far (X := X) (o := 6) (v := .slice none 0 0) (Ne.symm hXB)
   have GF := grown_far (grown_far (grown_far (grown_far (grown_far (grown_far (grown_far G9 (X := X) (o := 0) (v := .int .i64 2) hXw) (X := X) (o := 1) (v := .int .i64 0) hXw) (X := X) (o := 2) (v := .int .i64 nn) hXw) (X := X) (o := 3) (v := .string wd) hXw) (X := X) (o := 4) (v := .slice none 0 0) hXw) (X := X) (o := 5) (v := .slice none 0 0) hXw) (X := X) (o := 6) (v := .slice none 0 0) hXw
   have INF := HIN.out ((((((((w9.setCell ⟨X, 0, none⟩ (.int .i64 2)).setCell ⟨X, 1, none⟩ (.int .i64 0)).setCell ⟨X, 2, none⟩ (.int .i64 nn)).setCell ⟨X, 3, none⟩ (.string wd)).setCell ⟨X, 4, none⟩ (.slice none 0 0)).setCell ⟨X, 5, none⟩ (.slice none 0 0)).setCell ⟨X, 6, none⟩ (.slice none 0 0))) 
   have HRF := hide RF
   have HGF := hide GF
   have HINF := hide INF
   clear RF GF INF hx g G9 FX9 R9 HIN HFIN HEND
   go_wp2
   exact bodyPost_ret (v := .agg #[.int .i64 2, .int .i64 0, .int .i64 nn, .string wd, .slice none 0 0, .slice none 0 0, .slice none 0 0]) (by simp [results, Tryz.results191, go_sem, z0, z1, z2, z3, z4, z5, z6]) rfl ⟨.inl ⟨tt, _, HE.out, by rw [hev], HINF.out, HRF.out⟩, HGF.out⟩
  ·have HE : Hid (wnd wd st = .error (4, r8.length)) := by show _ = _; rw [HFIN.out, hf]
   have G := grown_trans G8 g (fun _ hk => .inl hk)
   clear hf
   go_wp2_with fail
   exact ⟨rfl, .inr ⟨_, HE.out, rfl⟩, G⟩
 | none =>
  have HA := hide ha
  rw [ha] at A2
  simp only [Option.getD_none, Option.isSome_none] at A2
  clear ha
  refine A2.out.mono ?_
  rintro e w3 ⟨rfl, R3, g⟩
  have G3 := grown_trans G2 g (fun _ hk => .inl hk)
  have FX3 := grown_block g FX2 hXB
  have FY3 := grown_block g FY2 hYB
  have hV3 : X + 1 < w3.heap.size := by
   rcases Nat.lt_or_ge (X + 1) w3.heap.size with e | e
   ·exact e
   ·rw [Array.getElem?_eq_none (by exact e)] at FY3; cases FY3
  clear g G2 FX2 FY2 R2 A2
  obtain ⟨OB, hOBe⟩ : ∃ OB, OB = w3.heap.size := ⟨_, rfl⟩
  have hOB : B < OB := by rw [hOBe]; exact R3.lt
  have hXO : X + 1 < OB := by rw [hOBe]; exact hV3
  have hXX : X < OB := by omega
  have hwO : w.heap.size ≤ OB := by omega
  have HL := hide (listm_any s ⟨r2, st.n⟩ B w3 R3 hs)
  rw [← hOBe] at HL
  have HOBe := hide hOBe
  clear hOBe hV3
  go_wp2_with fail
  refine HL.out.mono ?_
  rintro e w4 ⟨⟨l, r4, co, N, c, hx, rfl, OW4, R4⟩ | ⟨f, hf, rfl⟩, g⟩
  rotate_left
  ·have HE : Hid (wnd wd st = .error f) := by show _ = _; simp only [wnd, Q1.out, Q2.out, wnM, HA.out, hf]
   have G := grown_trans G3 g (fun _ hk => .inl hk)
   clear hf
   go_wp2_with fail
   exact ⟨rfl, .inr ⟨_, HE.out, rfl⟩, G⟩
  have QL := hide hx
  have HLN := hide (own_mlen OW4)
  obtain ⟨fit, hlen⟩ := lst_fit (Q := fun m => m.key.size ≤ 140737488355328 ∧ m.val.size ≤ 140737488355328) (fun _ _ _ hh => mtc_fit hh) hx
  have HFIT := hide fit
  have hN6 : N ≤ 6 := by rw [HLN.out]; exact hlen
  have G4 := grown_trans G3 g (fun _ hk => .inl hk)
  have FX4 := grown_block g FX3 hXB
  have FY4 := grown_block g FY3 hYB
  clear hx g G3 FX3 FY3 R3 HL fit hlen
  obtain ⟨y0, y1, y2, y3, y4, y5, y6⟩ := seven_cells FY4
  obtain ⟨u0, u1, u2, u3, u4, u5, u6⟩ := thaw7 FY4
  obtain ⟨w5, hw5⟩ : ∃ v, v = w4.setCell ⟨X + 1, 4, none⟩ (.slice co N c) := ⟨_, rfl⟩
  have R5 : Rd 95 w5 B s ⟨r4, st.n⟩ := by rw [hw5]; exact R4.far (Ne.symm hYB)
  have G5 : w.grownBy w5 (some B) := by rw [hw5]; exact grown_far G4 (by omega)
  have FX5 : w5.heap[X]? = some (.cells #[.int .i64 0, .int .i64 0, .int .i64 0, .string ⟨#[]⟩, .slice none 0 0, .slice none 0 0, .slice none 0 0] 41 (0, 0)) := by rw [hw5, setCell_far (by omega)]; exact FX4
  have FY5 : w5.heap[X + 1]? = some (.cells #[.int .i64 2, .int .i64 0, .int .i64 0, .string wd, .slice co N c, .slice none 0 0, .slice none 0 0] 41 (0, 0)) := by rw [hw5]; exact (set7 FY4 (.slice co N c)).2.1
  have OW5 : w5.ownsRow OB 183 3 (.slice co N c) N (mcells l) := by rw [hw5]; exact rown_far OW4 hXO
  have HW5 := hide hw5
  clear hw5 G4 FX4 FY4 R4 OW4
  go_wp2_with fail
  rw [← HW5.out]
  clear y0 y1 y2 y3 y4 y5 y6 u0 u1 u2 u3 u4 u5 u6
  have E6 := hide (expect_any [125] s ⟨r4, st.n⟩ B w5 R5 hs)
  unfold lit at E6
  refine E6.out.mono ?_
  rintro e w6 ⟨⟨r6, hx, rfl, R6⟩ | ⟨f, hf, rfl⟩, g⟩
  rotate_left
  ·have HE : Hid (wnd wd st = .error f) := by show _ = _; simp only [wnd, Q1.out, Q2.out, wnM, HA.out, QL.out, hf]
   have G := grown_trans G5 g (fun _ hk => .inl hk)
   clear hf
   go_wp2_with fail
   exact ⟨rfl, .inr ⟨_, HE.out, rfl⟩, G⟩
  have Q6 := hide hx
  have G6 := grown_trans G5 g (fun _ hk => .inl hk)
  have FX6 := grown_block g FX5 hXB
  have FY6 := grown_block g FY5 hYB
  have OW6 := own_grown OW5 g hOB
  clear hx g E6 G5 FX5 FY5 R5
  clear OW5
  have QM : Hid (wnM r2 = .ok (l, r6)) := by show _ = _; simp only [wnM, HA.out, QL.out, Q6.out]
  go_wp2_with fail
  have E7 := hide (expect_any [91] s ⟨r6, st.n⟩ B w6 R6 hs)
  unfold lit at E7
  refine E7.out.mono ?_
  rintro e w7 ⟨⟨r7, hx, rfl, R7⟩ | ⟨f, hf, rfl⟩, g⟩
  rotate_left
  ·have HE : Hid (wnd wd st = .error f) := by show _ = _; simp only [wnd, Q1.out, Q2.out, QM.out, hf]
   have G := grown_trans G6 g (fun _ hk => .inl hk)
   clear hf
   go_wp2_with fail
   exact ⟨rfl, .inr ⟨_, HE.out, rfl⟩, G⟩
  have Q7 := hide hx
  have G7 := grown_trans G6 g (fun _ hk => .inl hk)
  have FX7 := grown_block g FX6 hXB
  have FY7 := grown_block g FY6 hYB
  have OW7 := own_grown OW6 g hOB
  clear hx g E7 G6 FX6 FY6 R6
  clear OW6
  go_wp2_with fail
  refine (number_any 1 100000 s ⟨r7, st.n⟩ B w0 w7 R7 hs HEV.out (HB0.out.grown G7 HB0.out.size (fun j hj => by cases hj; exact hB0)) hB0).mono ?_
  rintro e w8 ⟨⟨nn, r8, hx, rfl, R8⟩ | ⟨f, hf, rfl⟩, g⟩
  rotate_left
  ·have HE : Hid (wnd wd st = .error f) := by show _ = _; simp only [wnd, Q1.out, Q2.out, QM.out, Q7.out, hf]
   have G := grown_trans G7 g (fun _ hk => .inl hk)
   clear hf
   go_wp2_with fail
   exact ⟨rfl, .inr ⟨_, HE.out, rfl⟩, G⟩
  have Q8 := hide hx
  have G8 := grown_trans G7 g (fun _ hk => .inl hk)
  have FX8 := grown_block g FX7 hXB
  have FY8 := grown_block g FY7 hYB
  have OW8 := own_grown OW7 g hOB
  clear hx g G7 FX7 FY7 R7
  clear OW7
  obtain ⟨y0, y1, y2, y3, y4, y5, y6⟩ := seven_cells FY8
  obtain ⟨u0, u1, u2, u3, u4, u5, u6⟩ := thaw7 FY8
  obtain ⟨w9, hw9⟩ : ∃ v, v = w8.setCell ⟨X + 1, 2, none⟩ (.int .i64 nn) := ⟨_, rfl⟩
  have R9 : Rd 95 w9 B s ⟨r8, st.n⟩ := by rw [hw9]; exact R8.far (Ne.symm hYB)
  have G9 : w.grownBy w9 (some B) := by rw [hw9]; exact grown_far G8 (by omega)
  have FX9 : w9.heap[X]? = some (.cells #[.int .i64 0, .int .i64 0, .int .i64 0, .string ⟨#[]⟩, .slice none 0 0, .slice none 0 0, .slice none 0 0] 41 (0, 0)) := by rw [hw9, setCell_far (by omega)]; exact FX8
  have FY9 : w9.heap[X + 1]? = some (.cells #[.int .i64 2, .int .i64 0, .int .i64 nn, .string wd, .slice co N c, .slice none 0 0, .slice none 0 0] 41 (0, 0)) := by rw [hw9]; exact (set7 FY8 (.int .i64 nn)).1
  have OW9 : w9.ownsRow OB 183 3 (.slice co N c) N (mcells l) := by rw [hw9]; exact rown_far OW8 hXO
  have HW9 := hide hw9
  clear hw9 G8 FX8 FY8 R8
  clear OW8
  go_wp2_with fail
  rw [← HW9.out]
  clear y0 y1 y2 y3 y4 y5 y6 u0 u1 u2 u3 u4 u5 u6
  have E10 := hide (expect_any [93] s ⟨r8, st.n⟩ B w9 R9 hs)
  unfold lit at E10
  refine E10.out.mono ?_
  rintro e w10 ⟨⟨r10, hx, rfl, R10⟩ | ⟨f, hf, rfl⟩, g⟩
  rotate_left
  ·have HE : Hid (wnd wd st = .error f) := by show _ = _; simp only [wnd, Q1.out, Q2.out, QM.out, Q7.out, Q8.out, hf]
   have G := grown_trans G9 g (fun _ hk => .inl hk)
   clear hf
   go_wp2_with fail
   exact ⟨rfl, .inr ⟨_, HE.out, rfl⟩, G⟩
  have Q10 := hide hx
  have G10 := grown_trans G9 g (fun _ hk => .inl hk)
  have FX10 := grown_block g FX9 hXB
  have FY10 := grown_block g FY9 hYB
  have OW10 := own_grown OW9 g hOB
  clear hx g E10 G9 FX9 FY9 R9
  clear OW9
  go_wp2_with fail
  have E11 := hide (expect_any [41] s ⟨r10, st.n⟩ B w10 R10 hs)
  unfold lit at E11
  refine E11.out.mono ?_
  rintro e w11 ⟨⟨r11, hx, rfl, R11⟩ | ⟨f, hf, rfl⟩, g⟩
  rotate_left
  ·have HE : Hid (wnd wd st = .error f) := by show _ = _; simp only [wnd, Q1.out, Q2.out, QM.out, Q7.out, Q8.out, Q10.out, hf]
   have G := grown_trans G10 g (fun _ hk => .inl hk)
   clear hf
   go_wp2_with fail
   exact ⟨rfl, .inr ⟨_, HE.out, rfl⟩, G⟩
  have Q11 := hide hx
  have G11 := grown_trans G10 g (fun _ hk => .inl hk)
  have FX11 := grown_block g FX10 hXB
  have FY11 := grown_block g FY10 hYB
  have OW11 := own_grown OW10 g hOB
  clear hx g E11 G10 FX10 FY10 R10
  clear OW10
  obtain ⟨y0, y1, y2, y3, y4, y5, y6⟩ := seven_cells FY11
  obtain ⟨tt, htt⟩ : ∃ tt : ET, tt = .node ⟨2, 0, nn, wd, l, []⟩ ⟨co, c, none, 0, none, 0⟩ [] := ⟨_, rfl⟩
  have HEND := hide (ended_any tt s ⟨r11, st.n⟩ B w11 R11 hn)
  have hev : eval tt = .agg #[.int .i64 2, .int .i64 0, .int .i64 nn, .string wd, .slice co N c, .slice none 0 0, .slice none 0 0] := by rw [htt]; show Value.agg _ = _; rw [HLN.out]; rfl
  have hex : tt.ex = .mk ⟨2, 0, nn, wd, l, []⟩ [] := by rw [htt]; simp [ET.ex, exL]
  have HFIN : Hid (wnd wd st = fin tt.ex ⟨r11, st.n⟩) := by show _ = _; rw [hex]; simp only [wnd, Q1.out, Q2.out, QM.out, Q7.out, Q8.out, Q10.out, Q11.out]
  have HIN : Hid (∀ v : World, v.ownsRow OB 183 3 (.slice co N c) N (mcells l) → tt.In (cut w.heap.size v)) := by
   intro v ow
   rw [htt]
   simp only [ET.In]
   exact ⟨⟨(own_cut ow hwO).1, .inl rfl, .inl rfl⟩, ⟨by rw [← HLN.out]; omega, by simp, by simp, by show wd.size ≤ _; omega, fun m hm => by have := HFIT.out m hm; omega, fun b hb => by (cases hb), Nat.le_refl _, HFIT.out⟩, by simp [InL]⟩
  rw [hev] at HEND
  clear htt hex
  go_wp2_with fail
  refine HEND.out.mono ?_
  rintro e w12 ⟨⟨hx, rfl, R12⟩ | ⟨hf, rfl⟩, g⟩
  ·have HE : Hid (wnd wd st = .ok (tt.ex, ⟨r11, st.n + 1⟩)) := by show _ = _; rw [HFIN.out, hx]
   have G12 := grown_trans G11 g (fun _ hk => .inl hk)
   have FX12 := grown_block g FX11 hXB
   obtain ⟨z0, z1, z2, z3, z4, z5, z6⟩ := seven_cells FX12
   obtain ⟨u0, u1, u2, u3, u4, u5, u6⟩ := thaw7 FX12
   have RF := ((((((R12.far (X := X) (o := 0) (v := .int .i64 2) (Ne.symm hXB)).far (X := X) (o := 1) (v := .int .i64 0) (Ne.symm hXB)).far (X := X) (o := 2) (v := .int .i64 nn) (Ne.symm hXB)).far (X := X) (o := 3) (v := .string wd) (Ne.symm hXB)).far (X := X) (o := 4) (v := .slice co N c) (Ne.symm hXB)).far (X := X) (o := 5) (v := .slice none 0 0) (Ne.symm hXB)).far (X := X) (o := 6) (v := .slice none 0 0) (Ne.symm hXB)
   have GF := grown_far (grown_far (grown_far (grown_far (grown_far (grown_far (grown_far G12 (X := X) (o := 0) (v := .int .i64 2) hXw) (X := X) (o := 1) (v := .int .i64 0) hXw) (X := X) (o := 2) (v := .int .i64 nn) hXw) (X := X) (o := 3) (v := .string wd) hXw) (X := X) (o := 4) (v := .slice co N c) hXw) (X := X) (o := 5) (v := .slice none 0 0) hXw) (X := X) (o := 6) (v := .slice none 0 0) hXw
   have INF := HIN.out ((((((((w12.setCell ⟨X, 0, none⟩ (.int .i64 2)).setCell ⟨X, 1, none⟩ (.int .i64 0)).setCell ⟨X, 2, none⟩ (.int .i64 nn)).setCell ⟨X, 3, none⟩ (.string wd)).setCell ⟨X, 4, none⟩ (.slice co N c)).setCell ⟨X, 5, none⟩ (.slice none 0 0)).setCell ⟨X, 6, none⟩ (.slice none 0 0))) (rown_far (rown_far (rown_far (rown_far (rown_far (rown_far (rown_far (own_grown OW11 g hOB) hXX) hXX) hXX) hXX) hXX) hXX) hXX)
   have HRF := hide RF
   have HGF := hide GF
   have HINF := hide INF
   clear RF GF INF hx g G12 FX12 R12 HIN HFIN HEND
   go_wp2
   exact bodyPost_ret (v := .agg #[.int .i64 2, .int .i64 0, .int .i64 nn, .string wd, .slice co N c, .slice none 0 0, .slice none 0 0]) (by simp [results, Tryz.results191, go_sem, z0, z1, z2, z3, z4, z5, z6]) rfl ⟨.inl ⟨tt, _, HE.out, by rw [hev], HINF.out, HRF.out⟩, HGF.out⟩
  ·have HE : Hid (wnd wd st = .error (4, r11.length)) := by show _ = _; rw [HFIN.out, hf]
   have G := grown_trans G11 g (fun _ hk => .inl hk)
   clear hf
   go_wp2_with fail
   exact ⟨rfl, .inr ⟨_, HE.out, rfl⟩, G⟩
end Go.Proofs.YtoldmigappbjcaaGreatDoor
