/-
  Lists of matches, and of words, walked.
-/
import Derived.Test.YtfgablhgjbjbkadGreatDoorRK
import Derived.Deep.AppendLies
namespace Go.GrainU
open Go.RowKit

/-- how long a slice is -/
def slen : Value → Nat
  | .slice _ n _ => n
  | _ => 0

theorem own_grown {w w' : World} {base e size n B : Nat} {v : Value} {xs : List Value} (h : w.ownsRow base e size v n xs) (g : w.grownBy w' (some B)) (hB : B < base) : w'.ownsRow base e size v n xs := by
  refine ⟨h.1, ?_⟩
  rcases h.2 with h0 | ⟨b, cap, cur, hv, hb, hblk, rest⟩
  · exact .inl h0
  · exact .inr ⟨b, cap, cur, hv, hb, grown_block g hblk (by omega), rest⟩

theorem Rd.app {t : TypeId} {w w' : World} {B base e size n : Nat} {v : Value} {xs : List Value} {s : ByteArray} {st : St} (h : Rd t w B s st) (hB : B < base) (own : w.ownsRow base e size v n xs) (g : w.grownBy w' v.ownBlock) : Rd t w' B s st :=
  ⟨h.suf, by rw [g.block B h.lt (fun e => by have := (own.lt B e.symm).1; omega)]; exact h.blk⟩

theorem news_three {W : World} {B : Nat} (hB : W.heap.size = B) (x y z : Value) (t : TypeId) : ∀ j u, [x, y, z][j]? = some u → (W.alloc (.cells #[x, y, z] t)).cell? ((⟨B, 0, none⟩ : Addr).add j) = some u := by
  intro j u hj
  subst hB
  have := three_cells7 (heap_alloc_new W (.cells #[x, y, z] t))
  match j, hj with
  | 0, hj => simp at hj; rw [← hj]; exact this.1
  | 1, hj => simp at hj; rw [← hj]; exact this.2.1
  | 2, hj => simp at hj; rw [← hj]; exact this.2.2
  | j + 3, hj => simp at hj

theorem mcells_snoc (l : List Mt) (m : Mt) : mcells (l ++ [m]) = mcells l ++ [.int .i64 m.kind, .string m.key, .string m.val] := by
  induction l with
  | nil => rfl
  | cons x r ih => simp [mcells, ih]

theorem lstF_none {α : Type} {part : List UInt8 → Except Flt (α × List UInt8)} {most k : Nat} {l : List α} {r : List UInt8} (h : acc [44] r = none) : lstF part most (k + 1) l r = .ok (l, r) := by unfold lstF; rw [h]
theorem lstF_full {α : Type} {part : List UInt8 → Except Flt (α × List UInt8)} {most k : Nat} {l : List α} {r r1 : List UInt8} (h : acc [44] r = some r1) (hl : l.length = most) : lstF part most (k + 1) l r = .error (5, r1.length) := by unfold lstF; rw [h]; simp [hl]
theorem lstF_err {α : Type} {part : List UInt8 → Except Flt (α × List UInt8)} {most k : Nat} {l : List α} {r r1 : List UInt8} {f : Flt} (h : acc [44] r = some r1) (hl : l.length ≠ most) (hp : part r1 = .error f) : lstF part most (k + 1) l r = .error f := by unfold lstF; rw [h]; simp [hl, hp]
theorem lstF_ok {α : Type} {part : List UInt8 → Except Flt (α × List UInt8)} {most k : Nat} {l : List α} {r r1 r2 : List UInt8} {a : α} (h : acc [44] r = some r1) (hl : l.length ≠ most) (hp : part r1 = .ok (a, r2)) : lstF part most (k + 1) l r = lstF part most k (l ++ [a]) r2 := by
  rw [lstF]
  rw [h]
  simp [hl, hp]

end Go.GrainU
namespace Go.Proofs.YtfgablhgjbjbkadGreatDoor
open Go.RowKit Go.GrainU

theorem Tryz.infoMatch : (Tryz.prog.info? 46).map (fun i => (i.zero, i.size, i.bytes)) = some (some (.agg #[.int .i64 0, .string ⟨#[]⟩, .string ⟨#[]⟩]), 3, 40) := by kernel_rfl

set_option maxHeartbeats 4000000 in
theorem listm_any (s : ByteArray) (st : St) (B : Nat) (w : World) (h : Rd 43 w B s st) (hs : s.size ≤ 2000) :
    Calls Tryz.prog 86 #[.pointer (some ⟨B, 0, none⟩), .int .i64 5, .func (.func 87) #[.pointer (some ⟨B, 0, none⟩)] #[]] w fun e w' => ((∃ l r co N c, lst mtc 5 st.r = .ok (l, r) ∧ e = .returned (.slice co N c) ∧ w'.ownsRow w.heap.size 46 3 (.slice co N c) N (mcells l) ∧ Rd 43 w' B s ⟨r, st.n⟩) ∨ ∃ f, lst mtc 5 st.r = .error f ∧ e = .panicked [thr s f]) ∧ w.grownBy w' (some B) := by
  obtain ⟨i0, hi, hz0, hz1, hz2⟩ := info_parts Tryz.infoMatch
  have hB := h.lt
  have HP := hide (pmatch_read s st B w h hs)
  go_enter Tryz.func86, Tryz.ntmps86
  go_wp2_with fail
  refine HP.out.mono ?_
  rintro e w1 ⟨⟨m, r1, hx, rfl, h1⟩ | ⟨f, hf, rfl⟩, g1⟩
  · have HX : Hid (lst mtc 5 st.r = lstF mtc 5 5 [m] r1) := by show _ = _; unfold lst; rw [hx]
    have hsz1 := g1.size
    have OW : (w1.alloc (.cells #[.int .i64 m.kind, .string m.key, .string m.val] 46)).ownsRow w.heap.size 46 3 (.slice (some ⟨w1.heap.size, 0, none⟩) 1 1) 1 (mcells [m]) :=
      ⟨rfl, .inr ⟨w1.heap.size, 1, #[.int .i64 m.kind, .string m.key, .string m.val], rfl, hsz1, heap_alloc_new w1 _, Nat.le_refl _, by unfold maxLen; omega, rfl, rfl⟩⟩
    have RW := h1.alloc (.cells #[.int .i64 m.kind, .string m.key, .string m.val] 46)
    have GW := grown_trans g1 (World.grownBy_alloc w1 (.cells #[.int .i64 m.kind, .string m.key, .string m.val] 46) none) (fun _ hk => by cases hk)
    have HO := hide OW
    have HRW := hide RW
    have HGW := hide GW
    clear OW RW GW hx HP h1 g1
    go_wp2_with fail
    go_loopw [7] (fun out wr => ∃ (k N c : Nat) (co : Option Addr) (l : List Mt) (q : List UInt8), out = .slice co N c ∧ Hid (lst mtc 5 st.r = lstF mtc 5 k l q ∧ k + N = 5 + 1 ∧ N = l.length) ∧ N ≤ 5 ∧ wr.ownsRow w.heap.size 46 3 (.slice co N c) N (mcells l) ∧ Rd 43 wr B s ⟨q, st.n⟩ ∧ w.grownBy wr (some B)) (fun out _ => 5 + 1 - slen out)
    case atStart => exact ⟨5, 1, 1, _, [m], r1, rfl, ⟨HX.out, by omega, rfl⟩, by omega, HO.out, HRW.out, HGW.out⟩
    case round =>
      obtain ⟨k, N, c, co, l, q, rfl, HL, hN, own, R, gr⟩ := hrel
      clear HX HO HRW HGW
      have A1 := hide (accept_any [44] s ⟨q, st.n⟩ B wr R hs)
      unfold lit at A1
      obtain ⟨k', hk'⟩ : ∃ k', k = k' + 1 := ⟨k - 1, by have := HL.out.2.1; omega⟩
      subst hk'
      cases ha : acc [44] q with
      | none =>
        rw [ha] at A1
        simp only [Option.getD_none, Option.isSome_none] at A1
        have HU : Hid (lst mtc 5 st.r = .ok (l, q)) := by show _ = _; rw [HL.out.1, lstF_none ha]
        clear ha
        go_wp2_with fail
        refine A1.out.mono ?_
        rintro e w2 ⟨rfl, h2, g2⟩
        have own2 := own_grown own g2 hB
        have G2 := grown_trans gr g2 (fun _ hk => .inl hk)
        go_wp2_with fail
        go_ret
        exact ⟨.inl ⟨l, q, co, N, c, HU.out, rfl, own2, h2⟩, G2⟩
      | some r2 =>
        rw [ha] at A1
        simp only [Option.getD_some, Option.isSome_some] at A1
        have HA := hide ha
        clear ha
        go_wp2_with fail
        refine A1.out.mono ?_
        rintro e w2 ⟨rfl, h2, g2⟩
        have own2 := own_grown own g2 hB
        have G2 := grown_trans gr g2 (fun _ hk => .inl hk)
        clear own R gr g2 A1
        by_cases hm : N = 5
        · have HE : Hid (lst mtc 5 st.r = .error (5, r2.length)) := by show _ = _; rw [HL.out.1, lstF_full HA.out (by rw [← HL.out.2.2]; exact hm)]
          have em : ((N : Int) == 5) = true := by rw [hm]; rfl
          obtain ⟨c0, c1, c2⟩ := h2.cells
          simp only at c1
          obtain ⟨K, hK⟩ : ∃ K, K = pos s r2 := ⟨_, rfl⟩
          rw [← hK] at c1
          have HK := hide hK
          clear hm hK
          go_wp2_with fail
          refine (throw_any _ _ w2).mono ?_
          intro e w3 hh
          rw [hh.1, hh.2]
          clear hh
          go_wp2_with fail
          exact ⟨rfl, .inr ⟨_, HE.out, by rw [HK.out]; rfl⟩, G2⟩
        · have em : ((N : Int) == 5) = false := by rw [beq_eq_false_iff_ne]; omega
          have HNE : Hid (l.length ≠ 5) := by rw [← HL.out.2.2]; exact hm
          have hN2 : N + 1 ≤ 5 := by omega
          clear hm
          go_wp2_with fail
          refine (pmatch_read s ⟨r2, st.n⟩ B w2 h2 hs).mono ?_
          rintro e w3 ⟨⟨m, r3, hx, rfl, h3⟩ | ⟨f, hf, rfl⟩, g3⟩
          · have own3 := own_grown own2 g3 hB
            have G3 := grown_trans G2 g3 (fun _ hk => .inl hk)
            have hs3 := G3.size
            have HL2 : Hid (lst mtc 5 st.r = lstF mtc 5 k' (l ++ [m]) r3 ∧ k' + (N + 1) = 5 + 1 ∧ N + 1 = (l ++ [m]).length) := ⟨by rw [HL.out.1, lstF_ok HA.out HNE.out (hx)], by have := HL.out.2.1; omega, by rw [List.length_append, ← HL.out.2.2]; rfl⟩
            clear hx HL own2 G2 h2 g3
            have RA := h3.alloc (.cells #[.int .i64 m.kind, .string m.key, .string m.val] 46)
            have OA := own3.alloc (.cells #[.int .i64 m.kind, .string m.key, .string m.val] 46)
            have HRA := hide RA
            have HOA := hide OA
            clear RA OA h3
            go_wp2_with (at_builtin; refine wpList_append_lies _ rfl _ _ 22 rfl w.heap.size 46 i0 (.agg #[.int .i64 0, .string ⟨#[]⟩, .string ⟨#[]⟩]) 3 40 Tryz.underlying22 hi hz0 hz1 hz2 rfl (by decide) _ _ _ rfl (own3.alloc _) ⟨w3.heap.size, 0, none⟩ 1 1 [.int .i64 m.kind, .string m.key, .string m.val] rfl rfl (news_three rfl _ _ _ _) (by simp [Value.oneCell']) (by decide) (by unfold maxLen; omega) (by omega) (by simp; omega) (w3.heap.size + 1) (by simp) ?_)
            intro g' cp' w5 own5 gr5 hat5 hlt5
            have own6 : w5.ownsRow w.heap.size 46 3 (.slice (some ⟨g', 0, none⟩) (N + 1) cp') (N + 1) (mcells (l ++ [m])) := by
              rw [mcells_snoc]; exact own5
            have R5 := HRA.out.app hB HOA.out gr5
            have G5 : w.grownBy w5 (some B) := grown_trans (grown_trans G3 (World.grownBy_alloc w3 (.cells #[.int .i64 m.kind, .string m.key, .string m.val] 46) none) (fun _ hk => by cases hk)) gr5 (fun j hj => .inr (HOA.out.lt j hj).1)
            clear own5 gr5 hat5 hlt5 own3 G3 HRA HOA
            go_wp2
            go_roundw
            case rel => exact ⟨k', N + 1, cp', _, l ++ [m], r3, rfl, HL2, by omega, own6, R5, G5⟩
            case measure => simp [slen]; omega
          · have HE : Hid (lst mtc 5 st.r = .error f) := by show _ = _; rw [HL.out.1, lstF_err HA.out HNE.out (hf)]
            have G3 := grown_trans G2 g3 (fun _ hk => .inl hk)
            clear hf
            go_wp2_with fail
            exact ⟨rfl, .inr ⟨_, HE.out, rfl⟩, G3⟩
  · have HE : Hid (lst mtc 5 st.r = .error f) := by show _ = _; unfold lst; rw [hf]
    clear hf
    go_wp2_with fail
    exact ⟨rfl, .inr ⟨_, HE.out, rfl⟩, g1⟩

theorem words1_ok {r x r' : List UInt8} (h : wrd r = .ok (x, r')) : words1 r = .ok (lit x, r') := by unfold words1; rw [h]
theorem words1_no {r : List UInt8} {f : Flt} (h : wrd r = .error f) : words1 r = .error f := by unfold words1; rw [h]

set_option maxHeartbeats 4000000 in
theorem listw_any (s : ByteArray) (st : St) (B : Nat) (w : World) (h : Rd 43 w B s st) (hs : s.size ≤ 2000) :
    Calls Tryz.prog 85 #[.pointer (some ⟨B, 0, none⟩), .int .i64 4, .func (.func 83) #[.pointer (some ⟨B, 0, none⟩)] #[]] w fun e w' => ((∃ l r co N c, lst words1 4 st.r = .ok (l, r) ∧ e = .returned (.slice co N c) ∧ w'.ownsRow w.heap.size 9 1 (.slice co N c) N (wcells l) ∧ Rd 43 w' B s ⟨r, st.n⟩) ∨ ∃ f, lst words1 4 st.r = .error f ∧ e = .panicked [thr s f]) ∧ w.grownBy w' (some B) := by
  obtain ⟨i0, hi, hz0, hz1, hz2⟩ := info_parts Tryz.infoStr
  have hB := h.lt
  have HP := hide (word_any s st B w h hs)
  go_enter Tryz.func85, Tryz.ntmps85
  go_wp2_with fail
  refine HP.out.mono ?_
  rintro e w1 ⟨⟨x, r1, hx, rfl, h1⟩ | ⟨f, hf, rfl⟩, g1⟩
  · have HX : Hid (lst words1 4 st.r = lstF words1 4 4 [lit x] r1) := by show _ = _; unfold lst; rw [words1_ok hx]
    have hsz1 := g1.size
    have OW : (w1.alloc (.cells #[.string (lit x)] 9)).ownsRow w.heap.size 9 1 (.slice (some ⟨w1.heap.size, 0, none⟩) 1 1) 1 (wcells [lit x]) :=
      ⟨rfl, .inr ⟨w1.heap.size, 1, #[.string (lit x)], rfl, hsz1, heap_alloc_new w1 _, Nat.le_refl _, by unfold maxLen; omega, rfl, rfl⟩⟩
    have RW := h1.alloc (.cells #[.string (lit x)] 9)
    have GW := grown_trans g1 (World.grownBy_alloc w1 (.cells #[.string (lit x)] 9) none) (fun _ hk => by cases hk)
    have HO := hide OW
    have HRW := hide RW
    have HGW := hide GW
    clear OW RW GW hx HP h1 g1
    go_wp2_with fail
    go_loopw [7] (fun out wr => ∃ (k N c : Nat) (co : Option Addr) (l : List ByteArray) (q : List UInt8), out = .slice co N c ∧ Hid (lst words1 4 st.r = lstF words1 4 k l q ∧ k + N = 4 + 1 ∧ N = l.length) ∧ N ≤ 4 ∧ wr.ownsRow w.heap.size 9 1 (.slice co N c) N (wcells l) ∧ Rd 43 wr B s ⟨q, st.n⟩ ∧ w.grownBy wr (some B)) (fun out _ => 4 + 1 - slen out)
    case atStart => exact ⟨4, 1, 1, _, [lit x], r1, rfl, ⟨HX.out, by omega, rfl⟩, by omega, HO.out, HRW.out, HGW.out⟩
    case round =>
      obtain ⟨k, N, c, co, l, q, rfl, HL, hN, own, R, gr⟩ := hrel
      clear HX HO HRW HGW
      have A1 := hide (accept_any [44] s ⟨q, st.n⟩ B wr R hs)
      unfold lit at A1
      obtain ⟨k', hk'⟩ : ∃ k', k = k' + 1 := ⟨k - 1, by have := HL.out.2.1; omega⟩
      subst hk'
      cases ha : acc [44] q with
      | none =>
        rw [ha] at A1
        simp only [Option.getD_none, Option.isSome_none] at A1
        have HU : Hid (lst words1 4 st.r = .ok (l, q)) := by show _ = _; rw [HL.out.1, lstF_none ha]
        clear ha
        go_wp2_with fail
        refine A1.out.mono ?_
        rintro e w2 ⟨rfl, h2, g2⟩
        have own2 := own_grown own g2 hB
        have G2 := grown_trans gr g2 (fun _ hk => .inl hk)
        go_wp2_with fail
        go_ret
        exact ⟨.inl ⟨l, q, co, N, c, HU.out, rfl, own2, h2⟩, G2⟩
      | some r2 =>
        rw [ha] at A1
        simp only [Option.getD_some, Option.isSome_some] at A1
        have HA := hide ha
        clear ha
        go_wp2_with fail
        refine A1.out.mono ?_
        rintro e w2 ⟨rfl, h2, g2⟩
        have own2 := own_grown own g2 hB
        have G2 := grown_trans gr g2 (fun _ hk => .inl hk)
        clear own R gr g2 A1
        by_cases hm : N = 4
        · have HE : Hid (lst words1 4 st.r = .error (5, r2.length)) := by show _ = _; rw [HL.out.1, lstF_full HA.out (by rw [← HL.out.2.2]; exact hm)]
          have em : ((N : Int) == 4) = true := by rw [hm]; rfl
          obtain ⟨c0, c1, c2⟩ := h2.cells
          simp only at c1
          obtain ⟨K, hK⟩ : ∃ K, K = pos s r2 := ⟨_, rfl⟩
          rw [← hK] at c1
          have HK := hide hK
          clear hm hK
          go_wp2_with fail
          refine (throw_any _ _ w2).mono ?_
          intro e w3 hh
          rw [hh.1, hh.2]
          clear hh
          go_wp2_with fail
          exact ⟨rfl, .inr ⟨_, HE.out, by rw [HK.out]; rfl⟩, G2⟩
        · have em : ((N : Int) == 4) = false := by rw [beq_eq_false_iff_ne]; omega
          have HNE : Hid (l.length ≠ 4) := by rw [← HL.out.2.2]; exact hm
          have hN2 : N + 1 ≤ 4 := by omega
          clear hm
          go_wp2_with fail
          refine (word_any s ⟨r2, st.n⟩ B w2 h2 hs).mono ?_
          rintro e w3 ⟨⟨x, r3, hx, rfl, h3⟩ | ⟨f, hf, rfl⟩, g3⟩
          · have own3 := own_grown own2 g3 hB
            have G3 := grown_trans G2 g3 (fun _ hk => .inl hk)
            have hs3 := G3.size
            have HL2 : Hid (lst words1 4 st.r = lstF words1 4 k' (l ++ [lit x]) r3 ∧ k' + (N + 1) = 4 + 1 ∧ N + 1 = (l ++ [lit x]).length) := ⟨by rw [HL.out.1, lstF_ok HA.out HNE.out (words1_ok hx)], by have := HL.out.2.1; omega, by rw [List.length_append, ← HL.out.2.2]; rfl⟩
            clear hx HL own2 G2 h2 g3
            have RA := h3.alloc (.cells #[.string (lit x)] 9)
            have OA := own3.alloc (.cells #[.string (lit x)] 9)
            have HRA := hide RA
            have HOA := hide OA
            clear RA OA h3
            go_wp2_with (at_builtin; refine wpList_append_lies _ rfl _ _ 23 rfl w.heap.size 9 i0 (.string ⟨#[]⟩) 1 16 Tryz.underlying23 hi hz0 hz1 hz2 rfl (by decide) _ _ _ rfl (own3.alloc _) ⟨w3.heap.size, 0, none⟩ 1 1 [.string (lit x)] rfl rfl (news_one rfl _ _) (by simp [Value.oneCell']) (by decide) (by unfold maxLen; omega) (by omega) (by simp; omega) (w3.heap.size + 1) (by simp) ?_)
            intro g' cp' w5 own5 gr5 hat5 hlt5
            have own6 : w5.ownsRow w.heap.size 9 1 (.slice (some ⟨g', 0, none⟩) (N + 1) cp') (N + 1) (wcells (l ++ [lit x])) := by
              rw [wcells_snoc]; exact own5
            have R5 := HRA.out.app hB HOA.out gr5
            have G5 : w.grownBy w5 (some B) := grown_trans (grown_trans G3 (World.grownBy_alloc w3 (.cells #[.string (lit x)] 9) none) (fun _ hk => by cases hk)) gr5 (fun j hj => .inr (HOA.out.lt j hj).1)
            clear own5 gr5 hat5 hlt5 own3 G3 HRA HOA
            go_wp2
            go_roundw
            case rel => exact ⟨k', N + 1, cp', _, l ++ [lit x], r3, rfl, HL2, by omega, own6, R5, G5⟩
            case measure => simp [slen]; omega
          · have HE : Hid (lst words1 4 st.r = .error f) := by show _ = _; rw [HL.out.1, lstF_err HA.out HNE.out (words1_no hf)]
            have G3 := grown_trans G2 g3 (fun _ hk => .inl hk)
            clear hf
            go_wp2_with fail
            exact ⟨rfl, .inr ⟨_, HE.out, rfl⟩, G3⟩
  · have HE : Hid (lst words1 4 st.r = .error f) := by show _ = _; unfold lst; rw [words1_no hf]
    clear hf
    go_wp2_with fail
    exact ⟨rfl, .inr ⟨_, HE.out, rfl⟩, g1⟩

end Go.Proofs.YtfgablhgjbjbkadGreatDoor
