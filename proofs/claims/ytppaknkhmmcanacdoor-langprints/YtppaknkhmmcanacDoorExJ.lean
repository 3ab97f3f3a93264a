/-
  The walk of a window as text: the document's.
-/
import Derived.Test.YtppaknkhmmcanacDoorExH
namespace Go.GrainU
open Go.RowKit

theorem jn_take_size {l : List Mt} (h : msBad l = 0) (k : Nat) (hk : k ≤ 5) : (jn ((l.map mtx).take k)).size ≤ 135 := by
  have := jn_size (l := (l.map mtx).take k) (c := 26) fun x hx => by
    obtain ⟨m, hm, rfl⟩ := List.mem_map.1 (List.mem_of_mem_take hx)
    exact mtx_size (msBad_ok h m hm)
  have h2 : ((l.map mtx).take k).length ≤ k := by rw [List.length_take]; omega
  have h3 := Nat.mul_le_mul_right (26 + 1) h2
  omega

theorem jn_step {X : List ByteArray} {k : Nat} {x : ByteArray} (h : X.take (k + 1) = X.take k ++ [x]) : jn (X.take (k + 1)) = if k = 0 then x else jn (X.take k) ++ lit [44] ++ x := by
  rw [h]
  by_cases e : k = 0
  · subst e; simp [jn, commas, append_lit_nil]
  · rw [if_neg e]
    apply jn_snoc
    intro h0
    have h1 := congrArg List.length h
    have h2 : (X.take k).length = 0 := by rw [h0]; rfl
    simp only [List.length_append, List.length_cons, List.length_nil, h2, List.length_take] at h1
    simp only [List.length_take] at h2
    omega

theorem five_cells7 {w : World} {B : Nat} {x0 x1 x2 x3 x4 : Value} {t : TypeId} (h : w.heap[B]? = some (.cells #[x0, x1, x2, x3, x4] t (0, 0))) :
    w.cell? ⟨B, 0, none⟩ = some x0 ∧ w.cell? ⟨B, 1, none⟩ = some x1 ∧ w.cell? ⟨B, 2, none⟩ = some x2 ∧ w.cell? ⟨B, 3, none⟩ = some x3 ∧ w.cell? ⟨B, 4, none⟩ = some x4 := by
  simp [World.cell?, h]

end Go.GrainU
namespace Go.Proofs.YtppaknkhmmcanacDoor
open Go.RowKit Go.GrainU

set_option maxHeartbeats 8000000 in
set_option maxRecDepth 100000 in
theorem rtext_win (h : Hd) (least : Int) (ma : Option Addr) (ml mc : Nat) (ba : Option Addr) (bl bc : Nat) (ka : Option Addr) (kl kc : Nat) (w : World) (hM : Seg w ma (mcells h.ms)) (hml : ml = h.ms.length) (hk : h.kind = 2) (wb : winBad h = 0) (hT : Tab w) (l : List (Int × ByteArray))
    (fM : ∀ m ∈ h.ms, m.key.size ≤ 140737488355328 ∧ m.val.size ≤ 140737488355328) :
    Calls Tryd.prog 27 #[.agg #[.int .i64 h.kind, .int .i64 h.n, .int .i64 h.range, .string h.word, .slice ma ml mc, .slice ba bl bc, .slice ka kl kc], .int .i64 least] w fun e w' => e = .returned (.string (bodyT h l)) ∧ Below w.heap.size w w' := by
  rw [tx_win hk]
  obtain ⟨kd, n, rg, wd, ms, bs⟩ := h
  simp only at hM hml hk fM ⊢
  subst hk
  obtain ⟨v1, v2, v3, v4, v5⟩ := winBad_ok wb
  simp only at v1 v2 v3 v4 v5
  have z1 := words_size v1
  have z2 := mtexts_size v3 v2
  have z3 := itoaB_size (n := rg) (by omega) (by omega)
  have ZT := hide (jn_take_size v3)
  obtain ⟨X, hX⟩ : ∃ X, X = ms.map mtx := ⟨_, rfl⟩
  obtain ⟨I, hI⟩ : ∃ I, I = itoaB rg := ⟨_, rfl⟩
  rw [← hX] at z2 ZT ⊢
  rw [← hI] at z3 ⊢
  obtain ⟨s1, h1⟩ : ∃ s, s = wd ++ lit [40, 123] := ⟨_, rfl⟩
  obtain ⟨s2, h2⟩ : ∃ s, s = s1 ++ jn X := ⟨_, rfl⟩
  obtain ⟨s3, h3⟩ : ∃ s, s = s2 ++ lit [125, 91] := ⟨_, rfl⟩
  obtain ⟨s4, h4⟩ : ∃ s, s = s3 ++ I := ⟨_, rfl⟩
  obtain ⟨s5, h5⟩ : ∃ s, s = s4 ++ lit [93, 41] := ⟨_, rfl⟩
  have t1 : s1.size ≤ 10 := by rw [h1, app_size, lit_size]; simp; omega
  have t2 : s2.size ≤ 150 := by rw [h2, app_size]; omega
  have t3 : s3.size ≤ 160 := by rw [h3, app_size, lit_size]; simp; omega
  have t4 : s4.size ≤ 190 := by rw [h4, app_size]; omega
  have a1 := sadd (P := Tryd.prog) h1 (by rw [lit_size]; simp; omega)
  have a3 := sadd (P := Tryd.prog) h3 (by rw [lit_size]; simp; omega)
  have a4 := sadd (P := Tryd.prog) h4 (by omega)
  have a5 := sadd (P := Tryd.prog) h5 (by rw [lit_size]; simp; omega)
  rw [← h1, ← h2, ← h3, ← h4, ← h5]
  unfold lit at a1 a3 a5
  have HML := hide hml
  have HX := hide hX
  have HI := hide hI
  have HM3 := hide v3
  have H2 := hide h2
  have HFM := hide fM
  have l5 : ml ≤ 5 := by omega
  have HT1 := hide t1
  clear h1 h2 h3 h4 h5 t1 t2 t3 t4 z1 z2 z3 hml hX hI v1 v2 v3 wb fM
  obtain ⟨W, hW⟩ : ∃ W, W = w.alloc (.cells #[.int .i64 2, .int .i64 n, .int .i64 rg, .string wd, .slice ma ml mc, .slice ba bl bc, .slice ka kl kc] 26) := ⟨_, rfl⟩
  have bel0 : Below w.heap.size w W := by rw [hW]; exact (Below.refl _ _).alloc (Nat.le_refl _) _
  have F0 : W.heap[w.heap.size]? = some (.cells #[.int .i64 2, .int .i64 n, .int .i64 rg, .string wd, .slice ma ml mc, .slice ba bl bc, .slice ka kl kc] 26 (0, 0)) := by rw [hW]; exact heap_alloc_new w _
  have HB := hide bel0
  have HF := hide F0
  have hTW := hT.below bel0
  have HW := hide hW
  clear hW F0 bel0
  go_enter Tryd.func27, Tryd.ntmps27
  go_wp2_with fail
  rw [← HW.out]
  clear a1
  go_loopw [5, 28] (fun sv i wr => ∃ (k : Nat) (s : ByteArray), k ≤ ml ∧ i = .int .i64 k ∧ sv = .string s ∧ Hid (s = s1 ++ jn (X.take k)) ∧ Below W.heap.size W wr) (fun _ i _ => ml - (intOf i).toNat)
  case atStart => exact ⟨0, s1, Nat.zero_le _, rfl, rfl, by show _ = _; simp [jn, append_lit_nil], Below.refl _ _⟩
  case round =>
    obtain ⟨k, s, hk, rfl, rfl, HJ, bel⟩ := hrel
    have belw : Below w.heap.size w wr := HB.out.trans (bel.mono HB.out.size)
    have hs : s.size ≤ 160 := by rw [HJ.out, app_size]; have := ZT.out k (by omega); have := HT1.out; omega
    by_cases hlt : k < ml
    · have hkl : k < ms.length := by rw [← HML.out]; exact hlt
      obtain ⟨b, off, rfl, hbl, hcell⟩ := seg_match hM hkl
      obtain ⟨m, hm⟩ : ∃ m, m = mt ms k := ⟨_, rfl⟩
      obtain ⟨q0, q1, q2⟩ := hcell k hkl
      rw [← hm] at q0 q1 q2
      have c0 := (belw.cell (p := ⟨b, off + k * 3, none⟩) (by exact hbl)).trans q0
      have c1 := (belw.cell (p := ⟨b, off + k * 3 + 1, none⟩) (by exact hbl)).trans q1
      have c2 := (belw.cell (p := ⟨b, off + k * 3 + 2, none⟩) (by exact hbl)).trans q2
      have hmm : m ∈ ms := by rw [hm]; exact mt_mem hkl
      have fm := HFM.out m hmm
      have HB2 := hide (msBad_ok HM3.out m hmm)
      have hE : X.take (k + 1) = X.take k ++ [mtx m] := by rw [HX.out, hm, ← List.map_take, ← List.map_take]; exact mtx_take hkl
      have HJS := hide (jn_step hE)
      have zm := mtx_size HB2.out
      clear q0 q1 q2 hcell hm hE hmm hkl
      obtain ⟨mk, a, b'⟩ := m
      simp only at c0 c1 c2 fm
      obtain ⟨g1, g2, g3, g4⟩ := mBad_ok HB2.out
      simp only at g1 g2 g3 g4
      have sa := named_size g3
      clear g3 g4 HB2
      obtain ⟨y1, h1⟩ : ∃ s, s = a ++ lit [61] := ⟨_, rfl⟩
      obtain ⟨y2, h2⟩ : ∃ s, s = y1 ++ b' := ⟨_, rfl⟩
      obtain ⟨y3, h3⟩ : ∃ s, s = a ++ lit [33, 61] := ⟨_, rfl⟩
      obtain ⟨y4, h4⟩ : ∃ s, s = y3 ++ b' := ⟨_, rfl⟩
      obtain ⟨y5, h5⟩ : ∃ s, s = lit [33] ++ a := ⟨_, rfl⟩
      obtain ⟨x, hx⟩ : ∃ x, x = mtx ⟨mk, a, b'⟩ := ⟨_, rfl⟩
      have e1 := sadd (P := Tryd.prog) h1 (by rw [lit_size]; simp; omega)
      have e2 := sadd (P := Tryd.prog) h2 (by rw [h1, app_size, lit_size]; simp; omega)
      have e3 := sadd (P := Tryd.prog) h3 (by rw [lit_size]; simp; omega)
      have e4 := sadd (P := Tryd.prog) h4 (by rw [h3, app_size, lit_size]; simp; omega)
      have e5 := sadd (P := Tryd.prog) h5 (by rw [lit_size]; simp; omega)
      unfold lit at e1 e3 e5
      rw [← hx] at HJS zm
      have HXX : Hid (x = if mk = 1 then y2 else if mk = 2 then y4 else if mk = 4 then y5 else a) := by show _ = _; rw [hx, h2, h1, h4, h3, h5]; rfl
      obtain ⟨u, hu⟩ : ∃ u, u = if k = 0 then s else s ++ lit [44] := ⟨_, rfl⟩
      obtain ⟨v, hv⟩ : ∃ v, v = u ++ x := ⟨_, rfl⟩
      have hus : u.size ≤ 170 := by rw [hu]; split <;> (try simp only [app_size, lit_size, List.length_cons, List.length_nil]) <;> omega
      have e7 := sadd (P := Tryd.prog) hv (by omega)
      have HJ' : Hid (v = s1 ++ jn (X.take (k + 1))) := by
        show _ = _
        rw [HJS.out, hv, hu]
        by_cases ek : k = 0
        · subst ek
          have e0 := HJ.out
          simp [jn, append_lit_nil] at e0
          simp [e0]
        · rw [if_neg ek, if_neg ek, HJ.out]
          simp [ByteArray.append_assoc]
      clear h1 h2 h3 h4 h5 hx hv HJS HJ sa fm zm hus
      by_cases ek : k = 0
      · rw [if_pos ek] at hu
        subst hu
        have ek' : ¬ (0 : Int) < (k : Int) := by omega
        clear ek
        rcases (show mk = 1 ∨ mk = 2 ∨ mk = 3 ∨ mk = 4 by omega) with rfl | rfl | rfl | rfl
        all_goals
          have hx := HXX.out
          simp at hx
          subst hx
          clear HXX g1 g2
          go_wp2_with fail
          go_roundw
          case rel => exact ⟨k + 1, v, by omega, by go_num, rfl, HJ', (bel.alloc bel.size _).alloc (by have := bel.size; simp; omega) _⟩
          case measure => simp [intOf]; omega
      · rw [if_neg ek] at hu
        have e6 := sadd (P := Tryd.prog) hu (by rw [lit_size]; simp; omega)
        unfold lit at e6
        have ek' : (0 : Int) < (k : Int) := by omega
        clear ek hu
        rcases (show mk = 1 ∨ mk = 2 ∨ mk = 3 ∨ mk = 4 by omega) with rfl | rfl | rfl | rfl
        all_goals
          have hx := HXX.out
          simp at hx
          subst hx
          clear HXX g1 g2
          go_wp2_with fail
          go_roundw
          case rel => exact ⟨k + 1, v, by omega, by go_num, rfl, HJ', (bel.alloc bel.size _).alloc (by have := bel.size; simp; omega) _⟩
          case measure => simp [intOf]; omega
    · have he : k = ml := by omega
      have HE : Hid (s = s2) := by
        show _ = _
        rw [HJ.out, H2.out, List.take_of_length_le (by rw [HX.out, List.length_map, ← HML.out]; omega)]
      rw [HE.out]
      obtain ⟨p0, p1, p2, p3, p4, p5, p6⟩ := seven_cells (below_block bel HF.out)
      go_wp2_with fail
      refine (itoa_any rg _ (by omega) (by omega) (hTW.below bel)).mono ?_
      rintro e w1 ⟨rfl, b1⟩
      rw [← HI.out]
      go_wp2_with fail
      go_ret
      exact ⟨rfl, belw.trans (b1.mono belw.size)⟩

end Go.Proofs.YtppaknkhmmcanacDoor
