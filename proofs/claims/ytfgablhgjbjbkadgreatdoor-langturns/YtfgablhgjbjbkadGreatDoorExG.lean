/-
  The walks of a match, matches, keys as text, and of how close an expression holds: the program's.
-/
import Derived.Test.YtfgablhgjbjbkadGreatDoorExD
import Derived.Test.YtfgablhgjbjbkadGreatDoorShelf
import Derived.Lib.AppendIntMem
namespace Go.GrainU
open Go.RowKit

theorem sadd {P : Program} {a b c : ByteArray} (h : c = a ++ b) (hs : a.size + b.size ≤ 9223372036854775807) : ∀ w, (Op.stringOp .add a b).run P w = .ok (.string c) w := by
  intro w
  rw [h]
  exact run_string_add_sum w a b hs

theorem news_one {W : World} {B : Nat} (hB : W.heap.size = B) (x : Value) (t : TypeId) : ∀ j u, [x][j]? = some u → (W.alloc (.cells #[x] t)).cell? ((⟨B, 0, none⟩ : Addr).add j) = some u := by
  intro j u hj
  subst hB
  match j, hj with
  | 0, hj =>
    simp at hj
    rw [← hj]
    exact (one_cell7 (heap_alloc_new W (.cells #[x] t))).1
  | j + 1, hj => simp at hj

theorem mtx_take {l : List Mt} {k : Nat} (h : k < l.length) : (l.take (k + 1)).map mtx = (l.take k).map mtx ++ [mtx (mt l k)] := by
  rw [take_mt h]; simp

theorem wcells_snoc (l : List ByteArray) (x : ByteArray) : wcells (l ++ [x]) = wcells l ++ [.string x] := by simp [wcells]

end Go.GrainU
namespace Go.Proofs.YtfgablhgjbjbkadGreatDoor
open Go.RowKit Go.GrainU

theorem Tryz.infoStr : (Tryz.prog.info? 9).map (fun i => (i.zero, i.size, i.bytes)) = some (some (.string ⟨#[]⟩), 1, 16) := by kernel_rfl

/-- the library's table lies there -/
def Tab (w : World) : Prop := Lib.TabIs Tryz.prog w "internal/strconv.uint64pow10" .u64 Lib.pow10Tab

theorem Tab.below {w w' : World} (h : Tab w) (hb : Below w.heap.size w w') : Tab w' := Lib.tabBelow_of_tabIs h w' hb

theorem itoa_any (n : Int) (w : World) (h0 : 0 ≤ n) (h1 : n ≤ 1000000) (hT : Tab w) :
    Calls Tryz.prog 19 #[.int .i64 n] w fun e w' => e = .returned (.string (itoaB n)) ∧ Below w.heap.size w w' :=
  (Tryz.strconv_Itoa n (by omega) (by omega) w hT).mono fun e w' ⟨he, k, os, hw⟩ => ⟨he, by rw [hw]; exact Lib.below_grow _ _ (Nat.le_refl _) _ _⟩

theorem join_any (xs : List ByteArray) (ao : Option Addr) (n c : Nat) (w : World) (hs : Seg w ao (wcells xs)) (hn : n = xs.length) (hc : n ≤ c) (hN : n ≤ 100) (hsz : (jn xs).size ≤ 100000) :
    Calls Tryz.prog 32 #[.slice ao n c, .string ⟨#[44]⟩] w fun e w' => e = .returned (.string (jn xs)) ∧ Below w.heap.size w w' := by
  subst hn
  cases xs with
  | nil =>
    exact (Tryz.strings_Join_none ao c ⟨#[44]⟩ w).mono fun e w' ⟨he, hw⟩ => ⟨he, by rw [hw]; exact Below.refl _ _⟩
  | cons x r =>
    obtain ⟨b, off, rfl, hbl, hcell⟩ := seg_word hs (k := 0) (by simp)
    refine (Tryz.strings_Join b off c (x :: r) ⟨#[44]⟩ w (fun j y hy => ?_) hbl (by omega) hc ?_).mono fun e w' ⟨he, hw⟩ => ⟨?_, hw⟩
    · obtain ⟨hj, e⟩ := List.getElem?_eq_some_iff.1 hy
      rw [hcell j hj, ← e]
      simp [List.getD, List.getElem?_eq_getElem hj]
    · have := jn_size_join (x :: r)
      show (Go.Lib.join _ [44]).length ≤ _
      omega
    · rw [he, jn_join]

set_option maxHeartbeats 1000000 in
theorem pmtext_any (k : Int) (a b : ByteArray) (w : World) (hm : mBad ⟨k, a, b⟩ = 0) :
    Calls Tryz.prog 31 #[.agg #[.int .i64 k, .string a, .string b]] w fun e w' => e = .returned (.string (mtx ⟨k, a, b⟩)) ∧ Below w.heap.size w w' := by
  have bel : Below w.heap.size w (w.alloc (.cells #[.int .i64 k, .string a, .string b] 46)) := (Below.refl _ _).alloc (Nat.le_refl _) _
  obtain ⟨h1, h2, h3, h4⟩ := mBad_ok hm
  simp only at h1 h2 h3 h4
  have sa := named_size h3
  clear hm h3
  rcases (show k = 1 ∨ k = 2 ∨ k = 3 ∨ k = 4 by omega) with rfl | rfl | rfl | rfl
  · have sb := named_size (h4 (by omega))
    obtain ⟨x, hx⟩ : ∃ x, x = a ++ lit [61] := ⟨_, rfl⟩
    obtain ⟨y, hy⟩ : ∃ y, y = x ++ b := ⟨_, rfl⟩
    have a1 := sadd (P := Tryz.prog) hx (by rw [lit_size]; simp; omega)
    have a2 := sadd (P := Tryz.prog) hy (by rw [hx, app_size, lit_size]; simp; omega)
    have HY : Hid (y = mtx ⟨1, a, b⟩) := by show _ = _; rw [hy, hx]; simp [mtx]
    unfold lit at a1
    rw [← HY.out]
    clear hx hy h4 sa sb h1 h2
    go_enter Tryz.func31, Tryz.ntmps31
    go_wp2
    go_ret
    exact ⟨rfl, bel⟩
  · have sb := named_size (h4 (by omega))
    obtain ⟨x, hx⟩ : ∃ x, x = a ++ lit [33, 61] := ⟨_, rfl⟩
    obtain ⟨y, hy⟩ : ∃ y, y = x ++ b := ⟨_, rfl⟩
    have a1 := sadd (P := Tryz.prog) hx (by rw [lit_size]; simp; omega)
    have a2 := sadd (P := Tryz.prog) hy (by rw [hx, app_size, lit_size]; simp; omega)
    have HY : Hid (y = mtx ⟨2, a, b⟩) := by show _ = _; rw [hy, hx]; simp [mtx]
    unfold lit at a1
    rw [← HY.out]
    clear hx hy h4 sa sb h1 h2
    go_enter Tryz.func31, Tryz.ntmps31
    go_wp2
    go_ret
    exact ⟨rfl, bel⟩
  · rw [show mtx ⟨3, a, b⟩ = a from by simp [mtx]]
    clear h4 sa h1 h2
    go_enter Tryz.func31, Tryz.ntmps31
    go_wp2
    go_ret
    exact ⟨rfl, bel⟩
  · obtain ⟨x, hx⟩ : ∃ x, x = lit [33] ++ a := ⟨_, rfl⟩
    have a1 := sadd (P := Tryz.prog) hx (by rw [lit_size]; simp; omega)
    have HY : Hid (x = mtx ⟨4, a, b⟩) := by show _ = _; rw [hx]; simp [mtx]
    unfold lit at a1
    rw [← HY.out]
    clear hx h4 sa h1 h2
    go_enter Tryz.func31, Tryz.ntmps31
    go_wp2
    go_ret
    exact ⟨rfl, bel⟩

set_option maxHeartbeats 2000000 in
theorem pmtexts_any (ms : List Mt) (ma : Option Addr) (ml mc : Nat) (w : World) (hM : Seg w ma (mcells ms)) (hml : ml = ms.length) (l5 : ml ≤ 5) (hok : msBad ms = 0) :
    Calls Tryz.prog 20 #[.slice ma ml mc] w fun e w' => e = .returned (.string (jn (ms.map mtx))) ∧ Below w.heap.size w w' := by
  obtain ⟨i0, hi, hz0, hz1, hz2⟩ := info_parts Tryz.infoStr
  have HML := hide hml
  have HOK := hide hok
  obtain ⟨X, hX⟩ : ∃ X, X = ms.map mtx := ⟨_, rfl⟩
  rw [← hX]
  have HX := hide hX
  clear hml hok hX
  go_enter Tryz.func20, Tryz.ntmps20
  go_wp2
  go_loopw [3, 8] (fun out i wr => ∃ (k d : Nat) (co : Option Addr), k ≤ ml ∧ i = .int .i64 k ∧ out = .slice co k d ∧ wr.ownsRow w.heap.size 9 1 (.slice co k d) k (wcells (X.take k)) ∧ Below w.heap.size w wr) (fun _ i _ => ml - (intOf i).toNat)
  case atStart => exact ⟨0, 0, none, Nat.zero_le _, rfl, rfl, World.ownsRow_nil _ _ _ _, Below.refl _ _⟩
  case round =>
    obtain ⟨k, d, co, hk, rfl, rfl, own, bel⟩ := hrel
    have hsz := bel.size
    by_cases hlt : k < ml
    · have hkl : k < ms.length := by rw [← HML.out]; exact hlt
      obtain ⟨b, off, rfl, hbl, hcell⟩ := seg_match hM hkl
      obtain ⟨m, hm⟩ : ∃ m, m = mt ms k := ⟨_, rfl⟩
      obtain ⟨q0, q1, q2⟩ := hcell k hkl
      rw [← hm] at q0 q1 q2
      have c0 := (bel.cell (p := ⟨b, off + k * 3, none⟩) (by exact hbl)).trans q0
      have c1 := (bel.cell (p := ⟨b, off + k * 3 + 1, none⟩) (by exact hbl)).trans q1
      have c2 := (bel.cell (p := ⟨b, off + k * 3 + 2, none⟩) (by exact hbl)).trans q2
      have HB2 := hide (msBad_ok HOK.out m (by rw [hm]; exact mt_mem hkl))
      have HE : Hid (X.take (k + 1) = X.take k ++ [mtx m]) := by show _ = _; rw [HX.out, hm, ← List.map_take, ← List.map_take]; exact mtx_take hkl
      clear q0 q1 q2 hcell hm
      obtain ⟨mk, mkey, mval⟩ := m
      simp only at c0 c1 c2
      obtain ⟨V, hV⟩ : ∃ V, V = wr.alloc (.cells #[.int .i64 mk, .string mkey, .string mval] 46) := ⟨_, rfl⟩
      have own1 : V.ownsRow w.heap.size 9 1 (.slice co k d) k (wcells (X.take k)) := by rw [hV]; exact own.alloc _
      have bel1 : Below w.heap.size w V := by rw [hV]; exact bel.alloc hsz _
      have HV := hide hV
      clear hV own
      go_wp2_with fail
      rw [← HV.out]
      refine (pmtext_any mk mkey mval V HB2.out).mono ?_
      rintro e w1 ⟨rfl, b1⟩
      have own2 := own_below own1 b1
      have bel2 : Below w.heap.size w w1 := bel1.trans (b1.mono bel1.size)
      have hs2 := bel2.size
      obtain ⟨x, hx⟩ : ∃ x, x = mtx ⟨mk, mkey, mval⟩ := ⟨_, rfl⟩
      rw [← hx] at HE ⊢
      clear hx own1 bel1 bel b1 c0 c1 c2 HV HB2
      go_wp2_with (at_builtin; refine wpList_append_lies _ rfl _ _ 23 rfl w.heap.size 9 i0 (.string ⟨#[]⟩) 1 16 Tryz.underlying23 hi hz0 hz1 hz2 rfl (by decide) _ _ _ rfl (own2.alloc _) ⟨w1.heap.size, 0, none⟩ 1 1 [.string x] rfl rfl (news_one rfl _ _) (by simp [Value.oneCell']) (by decide) (by unfold maxLen; omega) (by omega) (by simp; omega) (w1.heap.size + 1) (by simp) ?_)
      intro g' cp' w5 own5 gr5 hat5 hlt5
      have own6 : w5.ownsRow w.heap.size 9 1 (.slice (some ⟨g', 0, none⟩) (k + 1) cp') (k + 1) (wcells (X.take (k + 1))) := by
        rw [HE.out, wcells_snoc]; exact own5
      have bel5 : Below w.heap.size w w5 := (bel2.alloc hs2 _).grown gr5 (by simp; omega) (fun j hj => (own2.lt j hj).1)
      clear own5 gr5 hat5 hlt5 own2 HE
      go_wp2
      go_roundw
      case rel => exact ⟨k + 1, cp', _, by omega, by go_num, rfl, own6, bel5⟩
      case measure => simp [intOf]; omega
    · have he : k = ml := by omega
      subst he
      have HT := hide (List.take_of_length_le (i := k) (l := X) (by rw [HX.out, List.length_map, ← HML.out]; omega))
      rw [HT.out] at own
      obtain ⟨ao, c, hv, sg, hc⟩ := own_open own
      have hv1 : co = ao ∧ d = c := by simpa using hv
      obtain ⟨rfl, rfl⟩ := hv1
      have HS : Hid ((jn X).size ≤ 135) := by show _ ≤ _; rw [HX.out]; exact mtexts_size HOK.out (by rw [← HML.out]; exact l5)
      have HL : Hid (k = X.length) := by show _ = _; rw [HX.out, List.length_map]; exact HML.out
      clear HT HML own hv HOK
      go_wp2_with fail
      refine (join_any X co k d wr sg HL.out hc (by omega) (by have := HS.out; omega)).mono ?_
      rintro e w2 ⟨rfl, b2⟩
      have bel2 := bel.trans (b2.mono bel.size)
      go_wp2
      go_ret
      exact ⟨rfl, bel2⟩

theorem pby_any (bs : List ByteArray) (ba : Option Addr) (bl bc : Nat) (w : World) (hB : Seg w ba (wcells bs)) (hbl : bl = bs.length) (hc : bl ≤ bc) (l4 : bl ≤ 4) (hok : bs.all Grain.named = true) :
    Calls Tryz.prog 21 #[.slice ba bl bc] w fun e w' => e = .returned (.string (byt bs)) ∧ Below w.heap.size w w' := by
  have HBL := hide hbl
  have HS := hide (byt_size hok (by omega))
  clear hbl
  by_cases h0 : bl = 0
  · have HY : Hid (byt bs = ⟨#[]⟩) := by show _ = _; unfold byt; rw [if_pos (by rw [← HBL.out]; exact h0)]; rfl
    have e0 : ((bl : Int) == 0) = true := by simp [h0]
    rw [HY.out]
    clear h0
    go_enter Tryz.func21, Tryz.ntmps21
    go_wp2
    go_ret
    exact ⟨rfl, Below.refl _ _⟩
  · have e0 : ((bl : Int) == 0) = false := by rw [beq_eq_false_iff_ne]; omega
    obtain ⟨y, hy⟩ : ∃ y, y = lit [32, 98, 121, 32] ++ jn bs := ⟨_, rfl⟩
    have HY : Hid (byt bs = y) := by show _ = _; unfold byt; rw [if_neg (by rw [← HBL.out]; exact h0), hy]
    have a1 := sadd (P := Tryz.prog) hy (by rw [lit_size]; have := HS.out.2; simp; omega)
    unfold lit at a1
    rw [HY.out]
    clear h0 hy HY
    go_enter Tryz.func21, Tryz.ntmps21
    go_wp2_with fail
    refine (join_any bs ba bl bc w hB HBL.out hc (by omega) (by have := HS.out.2; omega)).mono ?_
    rintro e w2 ⟨rfl, b2⟩
    go_wp2
    go_ret
    exact ⟨rfl, b2⟩

theorem prank_any (h : Hd) (ma : Option Addr) (ml mc : Nat) (ba : Option Addr) (bl bc : Nat) (ka : Option Addr) (kl kc : Nat) (w : World) :
    Calls Tryz.prog 23 #[.agg #[.int .i64 h.kind, .int .i64 h.n, .int .i64 h.range, .string h.word, .slice ma ml mc, .slice ba bl bc, .slice ka kl kc]] w fun e w' => e = .returned (.int .i64 (rk h)) ∧ Below w.heap.size w w' := by
  obtain ⟨R, hR⟩ : ∃ R, R = rk h := ⟨_, rfl⟩
  rw [← hR]
  have HR := hide hR
  clear hR
  obtain ⟨kd, n, rg, wd, ms, bs⟩ := h
  unfold rk at HR
  simp only at HR ⊢
  by_cases h4 : kd = 4
  · rw [if_pos h4] at HR
    subst h4
    by_cases hw : wd = ⟨#[42]⟩
    · have HQ : Hid (R = 1) := by show _ = _; rw [HR.out, if_pos (show wd = lit [42] from hw)]
      clear HR
      subst hw
      go_enter Tryz.func23, Tryz.ntmps23
      go_wp2
      go_ret
      exact ⟨ret_int (a := 1) HQ.out.symm, (Below.refl _ _).alloc (Nat.le_refl _) _⟩
    · have HQ : Hid (R = 0) := by show _ = _; rw [HR.out, if_neg (show ¬ wd = lit [42] from hw)]
      have q := word_not (l := [42]) hw
      clear HR
      go_enter Tryz.func23, Tryz.ntmps23
      go_wp2
      go_ret
      exact ⟨ret_int (a := 0) HQ.out.symm, (Below.refl _ _).alloc (Nat.le_refl _) _⟩
  · have HQ : Hid (R = 2) := by show _ = _; rw [HR.out, if_neg h4]
    have e4 : (kd == 4) = false := by simp [h4]
    clear HR
    go_enter Tryz.func23, Tryz.ntmps23
    go_wp2
    go_ret
    exact ⟨ret_int (a := 2) HQ.out.symm, (Below.refl _ _).alloc (Nat.le_refl _) _⟩

end Go.Proofs.YtfgablhgjbjbkadGreatDoor
