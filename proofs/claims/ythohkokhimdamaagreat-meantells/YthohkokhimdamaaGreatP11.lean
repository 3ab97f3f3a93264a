/-
  The walk of names.Named.
-/
import Derived.Test.YthohkokhimdamaaGreatP06
import Derived.Test.YthohkokhimdamaaGreatP10
import Derived.Test.YthohkokhimdamaaGreatRows
import Derived.Test.YthohkokhimdamaaGreatP03
/-
  An argument that is lines, opened.
-/
namespace Go.GrainU
open Go.RowKit

theorem lcells_flat (l : Lb) : lcells l = l.flatMap fun x => [.string x.1, .string x.2] := by
  induction l with
  | nil => rfl
  | cons x r ih => simp [lcells, ih]

theorem scells_flat (l : List (Int × Int)) : scells l = l.flatMap fun x => [.int .i64 x.1, .int .i64 x.2] := by
  induction l with
  | nil => rfl
  | cons x r ih => simp [scells, ih]

def tcell (x : LT) : List Value := [.slice x.sa x.ser.length x.sc, .slice x.pa x.smp.length x.pc]

theorem tcells_flat (l : List LT) : tcells l = l.flatMap tcell := by
  induction l with
  | nil => rfl
  | cons x r ih => simp [tcells, tcell, ih]

instance : Inhabited LT := ⟨lt0⟩

theorem list2 {α : Type} {l : List α} (h : l.length = 2) : ∃ a b, l = [a, b] := by
  match l, h with
  | [a, b], _ => exact ⟨a, b, rfl⟩

end Go.GrainU
namespace Go.Proofs.YthohkokhimdamaaGreat
open Go.ChangeShapes Go.WideShapes Go.ChangeAt Go.RowKit Go.GrainU

theorem Tryz.cellsLabel2 : Tryz.prog.cellsOf 88 = 2 := by kernel_rfl
theorem Tryz.cellsSample2 : Tryz.prog.cellsOf 54 = 2 := by kernel_rfl
theorem Tryz.cellsLine2 : Tryz.prog.cellsOf 43 = 2 := by kernel_rfl
theorem Tryz.cellsSeries : Tryz.prog.cellsOf 40 = 1 := by kernel_rfl
theorem Tryz.cellsSamples : Tryz.prog.cellsOf 41 = 1 := by kernel_rfl
theorem Tryz.bytesLabel : Tryz.prog.bytesOf 88 = 32 := by kernel_rfl
theorem Tryz.bytesSample : Tryz.prog.bytesOf 54 = 16 := by kernel_rfl
theorem Tryz.bytesLine : Tryz.prog.bytesOf 43 = 48 := by kernel_rfl

/-- a slice, whatever its elements are, and how much it holds -/
theorem open_list2 {H : Type} {enc : TypeId × Value → H} {W : World} {α : Type} [Inhabited α] {fuel : Nat} {t e : TypeId} {cs : List Value} {x : DataW H × List MemPlace} (cell : α → List Value) (Q : α → Prop) (c : Nat) (hc : 0 < c) (hcl : ∀ a, (cell a).length = c)
    (hcells : Tryz.prog.cellsOf e = c) (_hb : 1 ≤ Tryz.prog.bytesOf e) (ht : Tryz.prog.underlying t = some (.slice e)) (h : DataW.trod enc Tryz.prog W 0 (fun _ => true) true fuel t cs = some x) (hw : ∀ n ∈ x.1.weights Tryz.prog t, n ≤ reachBytes)
    (each : ∀ n cs' y, n < fuel → DataW.trod enc Tryz.prog W 0 (fun _ => true) true n e cs' = some y → (∀ k ∈ y.1.weights Tryz.prog e, k ≤ reachBytes) → ∃ a, cs' = cell a ∧ Q a) :
    ∃ (l : List α) (ao : Option Addr) (cap : Nat), cs = [.slice ao l.length cap] ∧ Seg W ao (l.flatMap cell) ∧ (∀ a ∈ l, Q a) ∧ l.length ≤ cap ∧ l.length * Tryz.prog.bytesOf e ≤ reachBytes ∧ (ao = none → l.length = 0 ∧ cap = 0) ∧ cap ≤ maxLen := by
  rcases DataW.trod_slice ht h with ⟨hcs, _⟩ | ⟨a, len, cap, elems, rest, n, hn, hcs, hx, _, hl, hm, hlen, hel, hsp, hns⟩
  · exact ⟨[], none, 0, hcs, .inl rfl, fun a ha => by (cases ha), Nat.le_refl _, by simp, fun _ => ⟨rfl, rfl⟩, Nat.zero_le _⟩
  · have hwt : ∀ k, k ∈ (elems.length + rest.length) * Tryz.prog.bytesOf e :: (DataW.weightsAll Tryz.prog e (elems.map (·.1)) ++ DataW.weightsAll Tryz.prog e (rest.map (·.1))) → k ≤ reachBytes := by
      intro k hk
      refine hw k ?_
      rw [hx]
      simp only [DataW.weights, ht]
      simpa using hk
    have hlb : len * Tryz.prog.bytesOf e ≤ reachBytes := by
      have h1 := hwt _ (List.mem_cons_self ..)
      have h2 : len * Tryz.prog.bytesOf e ≤ (elems.length + rest.length) * Tryz.prog.bytesOf e := Nat.mul_le_mul_right _ (by omega)
      omega
    have ex : ∀ i, i < len → ∃ y : α, (∀ j, j < c → W.cell? (a.add (i * c + j)) = (cell y)[j]?) ∧ Q y := by
      intro i hi
      have h1 := hel i hi
      have hi' : i < elems.length := by omega
      rw [List.getElem?_eq_getElem hi', Option.bind_eq_some_iff] at h1
      obtain ⟨cs', h2, h3⟩ := h1
      rw [hcells] at h2
      obtain ⟨_, hlen', hcc⟩ := World.cells?_some h2
      obtain ⟨y, rfl, hq⟩ := each n cs' _ (by omega) h3 (fun k hk => hwt k (List.mem_cons_of_mem _ (List.mem_append_left _ (weights_mem_all (List.mem_map_of_mem (List.getElem_mem hi')) k hk))))
      refine ⟨y, fun j hj => ?_, hq⟩
      have := hcc j hj
      rw [Go.Deep.add_add] at this
      exact this
    obtain ⟨f, hf⟩ := Go.Deep.choose_lt ex
    refine ⟨(List.range len).map f, some a, cap, by simpa using hcs, ?_, fun y hy => ?_, by simpa using hl, by simpa using hlb, fun h => (by cases h), hm⟩
    · rcases Nat.eq_zero_or_pos len with h0 | h0
      · subst h0; exact .inl rfl
      · obtain ⟨b, off, spot⟩ := a
        have hspot : spot = none := by
          have h1 := (hf 0 h0).1 0 hc
          have h2 : 0 < (cell (f 0)).length := by rw [hcl]; exact hc
          rw [List.getElem?_eq_getElem h2] at h1
          simp only [Nat.zero_mul, Nat.add_zero] at h1
          simpa [Addr.add] using World.cell?_spot h1
        subst hspot
        rw [List.flatMap_map]
        refine seg_of hc f cell hcl (fun i hi j hj => ?_)
        have := (hf i hi).1 j hj
        rw [Go.WideShapes.add_plain] at this
        exact this
    · obtain ⟨i, hi, rfl⟩ := List.mem_map.1 hy
      exact (hf i (by simpa using hi)).2

/-- a label -/
theorem open_lab {H : Type} {enc : TypeId × Value → H} {W : World} {n : Nat} {cs : List Value} {x : DataW H × List MemPlace}
    (h : DataW.trod enc Tryz.prog W 0 (fun _ => true) true n 88 cs = some x) (hw : ∀ k ∈ x.1.weights Tryz.prog 88, k ≤ reachBytes) : ∃ k : ByteArray × ByteArray, cs = [.string k.1, .string k.2] ∧ k.1.size ≤ 140737488355328 ∧ k.2.size ≤ 140737488355328 := by
  obtain ⟨xs, m, _, hx, hl, hlen, hf⟩ := DataW.trod_struct Tryz.underlying88 h
  rw [Tryz.cellsLabel2] at hl
  have hlen' : xs.length = 2 := hlen
  obtain ⟨c0, c1, rfl⟩ := list2 hl
  obtain ⟨x0, x1, rfl⟩ := list2 hlen'
  have g0 : DataW.trod enc Tryz.prog W 0 (fun _ => true) true m 9 ((List.drop 0 [c0, c1]).take (Tryz.prog.cellsOf 9)) = some x0 := hf 0 _ rfl
  have g1 : DataW.trod enc Tryz.prog W 0 (fun _ => true) true m 9 ((List.drop 1 [c0, c1]).take (Tryz.prog.cellsOf 9)) = some x1 := hf 1 _ rfl
  rw [Tryz.cellsStr] at g0 g1
  simp only [List.drop_zero, List.drop_succ_cons, List.take_succ_cons, List.take_zero] at g0 g1
  have hwe : ∀ k, k ∈ DataW.weightsEach Tryz.prog [9, 9] [x0.1, x1.1] → k ≤ reachBytes := by
    intro k hk
    refine hw k ?_
    rw [hx]
    simp only [DataW.weights, Tryz.underlying88]
    exact hk
  obtain ⟨z0, rfl, s0⟩ := field_str g0 (fun k hk => hwe k (DataW.weights_mem_each (j := 0) rfl rfl k hk))
  obtain ⟨z1, rfl, s1⟩ := field_str g1 (fun k hk => hwe k (DataW.weights_mem_each (j := 1) rfl rfl k hk))
  exact ⟨⟨z0, z1⟩, rfl, s0, s1⟩

/-- a sample -/
theorem open_smp {H : Type} {enc : TypeId × Value → H} {W : World} {n : Nat} {cs : List Value} {x : DataW H × List MemPlace}
    (h : DataW.trod enc Tryz.prog W 0 (fun _ => true) true n 54 cs = some x) : ∃ k : Int × Int, cs = [.int .i64 k.1, .int .i64 k.2] := by
  obtain ⟨xs, m, _, hx, hl, hlen, hf⟩ := DataW.trod_struct Tryz.underlying54 h
  rw [Tryz.cellsSample2] at hl
  have hlen' : xs.length = 2 := hlen
  obtain ⟨c0, c1, rfl⟩ := list2 hl
  obtain ⟨x0, x1, rfl⟩ := list2 hlen'
  have g0 : DataW.trod enc Tryz.prog W 0 (fun _ => true) true m 3 ((List.drop 0 [c0, c1]).take (Tryz.prog.cellsOf 3)) = some x0 := hf 0 _ rfl
  have g1 : DataW.trod enc Tryz.prog W 0 (fun _ => true) true m 3 ((List.drop 1 [c0, c1]).take (Tryz.prog.cellsOf 3)) = some x1 := hf 1 _ rfl
  rw [Tryz.cellsInt] at g0 g1
  simp only [List.drop_zero, List.drop_succ_cons, List.take_succ_cons, List.take_zero] at g0 g1
  obtain ⟨z0, rfl⟩ := field_i64 g0
  obtain ⟨z1, rfl⟩ := field_i64 g1
  exact ⟨⟨z0, z1⟩, rfl⟩

/-- a line lies there, and holds no more than came in -/
structure LnIn (w : World) (x : LT) : Prop where
  ok : LnOk w x
  ls : x.ser.length * 32 ≤ 140737488355328
  lp : x.smp.length * 16 ≤ 140737488355328

/-- a line -/
theorem open_line {H : Type} {enc : TypeId × Value → H} {W : World} {n : Nat} {cs : List Value} {x : DataW H × List MemPlace}
    (h : DataW.trod enc Tryz.prog W 0 (fun _ => true) true n 43 cs = some x) (hw : ∀ k ∈ x.1.weights Tryz.prog 43, k ≤ reachBytes) : ∃ k : LT, cs = tcell k ∧ LnIn W k := by
  obtain ⟨xs, m, _, hx, hl, hlen, hf⟩ := DataW.trod_struct Tryz.underlying43 h
  rw [Tryz.cellsLine2] at hl
  have hlen' : xs.length = 2 := hlen
  obtain ⟨c0, c1, rfl⟩ := list2 hl
  obtain ⟨x0, x1, rfl⟩ := list2 hlen'
  have g0 : DataW.trod enc Tryz.prog W 0 (fun _ => true) true m 40 ((List.drop 0 [c0, c1]).take (Tryz.prog.cellsOf 40)) = some x0 := hf 0 _ rfl
  have g1 : DataW.trod enc Tryz.prog W 0 (fun _ => true) true m 41 ((List.drop 1 [c0, c1]).take (Tryz.prog.cellsOf 41)) = some x1 := hf 1 _ rfl
  rw [Tryz.cellsSeries] at g0
  rw [Tryz.cellsSamples] at g1
  simp only [List.drop_zero, List.drop_succ_cons, List.take_succ_cons, List.take_zero] at g0 g1
  have hwe : ∀ k, k ∈ DataW.weightsEach Tryz.prog [40, 41] [x0.1, x1.1] → k ≤ reachBytes := by
    intro k hk
    refine hw k ?_
    rw [hx]
    simp only [DataW.weights, Tryz.underlying43]
    exact hk
  obtain ⟨ls, sa, sc, e0, sg0, q0, l0, b0, n0, m0⟩ := open_list2 (α := ByteArray × ByteArray) (fun x => [.string x.1, .string x.2]) (fun k => k.1.size ≤ 140737488355328 ∧ k.2.size ≤ 140737488355328) 2 (by decide) (fun _ => rfl) Tryz.cellsLabel2 (by rw [Tryz.bytesLabel]; decide) Tryz.underlying40 g0 (fun k hk => hwe k (DataW.weights_mem_each (j := 0) rfl rfl k hk)) (fun n cs' y _ hy hwy => open_lab hy hwy)
  obtain ⟨ps, pa, pc, e1, sg1, _, l1, b1, n1, m1⟩ := open_list2 (α := Int × Int) (fun x => [.int .i64 x.1, .int .i64 x.2]) (fun _ => True) 2 (by decide) (fun _ => rfl) Tryz.cellsSample2 (by rw [Tryz.bytesSample]; decide) Tryz.underlying41 g1 (fun k hk => hwe k (DataW.weights_mem_each (j := 1) rfl rfl k hk)) (fun n cs' y _ hy _ => by
    obtain ⟨k, hk⟩ := open_smp hy
    exact ⟨k, hk, trivial⟩)
  rw [← lcells_flat] at sg0
  rw [← scells_flat] at sg1
  simp at e0 e1
  subst e0 e1
  rw [Tryz.bytesLabel] at b0
  rw [Tryz.bytesSample] at b1
  have hr : reachBytes ≤ 140737488355328 := by decide
  have hm1 : pc ≤ 9223372036854775807 := by unfold maxLen at m1; exact m1
  refine ⟨⟨ls, ps, sa, sc, pa, pc⟩, rfl, ⟨⟨sg0, sg1, ?_, by show ls.length ≤ _; omega, by show ps.length ≤ _; omega, n0, ⟨l1, hm1⟩, n1⟩, by show ls.length * 32 ≤ _; omega, by show ps.length * 16 ≤ _; omega⟩⟩
  intro k hk
  have hk' : k < ls.length := hk
  have e : lk ls k = (ls[k]).1 ∧ lv ls k = (ls[k]).2 := by simp [lk, lv, List.getD, List.getElem?_eq_getElem hk']
  have := q0 _ (List.getElem_mem hk')
  show (lk ls k).size ≤ _ ∧ (lv ls k).size ≤ _
  rw [e.1, e.2]
  omega

/-- lines -/
theorem open_lines {H : Type} {enc : TypeId × Value → H} {W : World} {fuel : Nat} {cs : List Value} {x : DataW H × List MemPlace}
    (h : DataW.trod enc Tryz.prog W 0 (fun _ => true) true fuel 22 cs = some x) (hw : ∀ k ∈ x.1.weights Tryz.prog 22, k ≤ reachBytes) :
    ∃ (l : List LT) (ao : Option Addr) (cap : Nat), cs = [.slice ao l.length cap] ∧ Seg W ao (tcells l) ∧ (∀ x ∈ l, LnIn W x) ∧ l.length * 48 ≤ 140737488355328 := by
  obtain ⟨l, ao, cap, e, sg, q, _, b, _, _⟩ := open_list2 (α := LT) tcell (fun x => LnIn W x) 2 (by decide) (fun _ => rfl) Tryz.cellsLine2 (by rw [Tryz.bytesLine]; decide) Tryz.underlying22 h hw (fun n cs' y _ hy hwy => open_line hy hwy)
  rw [← tcells_flat] at sg
  rw [Tryz.bytesLine] at b
  have hr : reachBytes ≤ 140737488355328 := by decide
  exact ⟨l, ao, cap, e, sg, q, by omega⟩

end Go.Proofs.YthohkokhimdamaaGreat

/-
  The walk of names.Named.
-/
namespace Go.Proofs.YthohkokhimdamaaGreat
open Go.RowKit Go.GrainU

theorem nletter_any (c : Int) (w : World) : Calls Tryz.prog 81 #[.int .u8 c] w fun e w' => e = .returned (.bool (Grain.low c)) ∧ w' = w := by
  rcases (show c < 97 ∨ 97 ≤ c from by omega) with h | h
  · have hd : Grain.low c = false := by simp [Grain.low]; omega
    rw [hd]; clear hd
    go_enter Tryz.func81, Tryz.ntmps81
    go_wp2
    go_ret
    exact ⟨rfl, rfl⟩
  · rcases (show c ≤ 122 ∨ 122 < c from by omega) with h' | h'
    · have hd : Grain.low c = true := by simp [Grain.low]; omega
      rw [hd]; clear hd
      go_enter Tryz.func81, Tryz.ntmps81
      go_wp2
      go_ret
      exact ⟨ret_bool (by simp), rfl⟩
    · have hd : Grain.low c = false := by simp [Grain.low]; omega
      rw [hd]; clear hd
      go_enter Tryz.func81, Tryz.ntmps81
      go_wp2
      go_ret
      exact ⟨ret_bool (by simpa using h'), rfl⟩

theorem ndigit_any (c : Int) (w : World) : Calls Tryz.prog 82 #[.int .u8 c] w fun e w' => e = .returned (.bool (decide (48 ≤ c) && decide (c ≤ 57))) ∧ w' = w := by
  rcases (show c < 48 ∨ 48 ≤ c from by omega) with h | h
  · have hd : (decide (48 ≤ c) && decide (c ≤ 57)) = false := by simp; omega
    rw [hd]; clear hd
    go_enter Tryz.func82, Tryz.ntmps82
    go_wp2
    go_ret
    exact ⟨rfl, rfl⟩
  · rcases (show c ≤ 57 ∨ 57 < c from by omega) with h' | h'
    · have hd : (decide (48 ≤ c) && decide (c ≤ 57)) = true := by simp; omega
      rw [hd]; clear hd
      go_enter Tryz.func82, Tryz.ntmps82
      go_wp2
      go_ret
      exact ⟨ret_bool (by simp), rfl⟩
    · have hd : (decide (48 ≤ c) && decide (c ≤ 57)) = false := by simp; omega
      rw [hd]; clear hd
      go_enter Tryz.func82, Tryz.ntmps82
      go_wp2
      go_ret
      exact ⟨ret_bool (by simpa using h'), rfl⟩

theorem byt_at (s : ByteArray) (k : Nat) (h : k < s.size) : (((s[k]'h).toNat : Nat) : Int) = Grain.byt s k := by
  unfold Grain.byt
  have h' : k < s.data.size := h
  simp only [List.getD, Array.getElem?_toList, Array.getElem?_eq_getElem h', Option.getD_some]
  rfl

set_option maxHeartbeats 2000000 in
theorem nnamed_any (s : ByteArray) (w : World) (hm : s.size ≤ 9223372036854775807) :
    Calls Tryz.prog 62 #[.string s] w fun e w' => e = .returned (.bool (Grain.named s)) ∧ w' = w := by
  by_cases h0 : 0 < s.size
  · have e0 : ((s.size : Int) == 0) = false := by rw [beq_eq_false_iff_ne]; omega
    by_cases h12 : s.size ≤ 12
    · have e1 : decide ((12 : Int) < (s.size : Int)) = false := by simp; omega
      obtain ⟨c, hc⟩ : ∃ c, c = Grain.byt s 0 := ⟨_, rfl⟩
      have hb := byt_at s 0 h0
      rw [← hc] at hb
      cases hl : Grain.low c with
      | false =>
        have HF : Hid (Grain.named s = false) := by
          show _ = _
          unfold Grain.named
          rw [Grain.fineN_no (k := 0) (by rw [← hc]; simp [Grain.badN, hl]) s.size h0]
          rfl
        clear hc
        go_enter Tryz.func62, Tryz.ntmps62
        go_wp2_with fail
        refine (nletter_any c w).mono ?_
        intro e w1 hh
        rw [hh.1, hh.2, hl]
        clear hh
        go_wp2
        go_ret
        exact ⟨ret_bool HF.out.symm, rfl⟩
      | true =>
        have HF : Hid (Grain.fineN s 1 = true) := by
          show _ = _
          simp [Grain.fineN, Grain.badN, ← hc, hl]
        clear hc
        go_enter Tryz.func62, Tryz.ntmps62
        go_wp2_with fail
        refine (nletter_any c w).mono ?_
        intro e w1 hh
        rw [hh.1, hh.2, hl]
        clear hh
        go_wp2
        clear hl hb
        go_loopw [3] (fun i wr => ∃ k : Nat, 1 ≤ k ∧ k ≤ s.size ∧ i = .int .i64 k ∧ Hid (Grain.fineN s k = true) ∧ wr = w) (fun i _ => s.size - (intOf i).toNat)
        case atStart => exact ⟨1, Nat.le_refl _, h0, rfl, HF, rfl⟩
        case round =>
          clear HF
          obtain ⟨k, hk1, hk, rfl, HF, rfl⟩ := hrel
          by_cases hlt : k < s.size
          · obtain ⟨c, hc⟩ : ∃ c, c = Grain.byt s k := ⟨_, rfl⟩
            have hb := byt_at s k hlt
            rw [← hc] at hb
            have HB : Hid (Grain.badN k c = true → Grain.named s = false) := by
              intro h
              rw [hc] at h
              unfold Grain.named
              rw [Grain.fineN_no h s.size hlt]
              rfl
            have HN : Hid (Grain.badN k c = false → Grain.fineN s (k + 1) = true) := by
              intro h
              show (Grain.fineN s k && !Grain.badN k (Grain.byt s k)) = true
              rw [← hc, h, HF.out]
              rfl
            clear hc HF
            cases hl : Grain.low c with
            | true =>
              go_wp2_with fail
              refine (nletter_any c wr).mono ?_
              intro e w1 hh
              rw [hh.1, hh.2, hl]
              clear hh
              go_wp2
              go_roundw
              case rel => exact ⟨k + 1, by omega, by omega, by go_num, HN.out (by simp [Grain.badN, hl]), by first | rfl | trivial⟩
              case measure => simp [intOf]; omega
            | false =>
              cases hd : (decide (48 ≤ c) && decide (c ≤ 57)) with
              | true =>
                go_wp2_with fail
                refine (nletter_any c wr).mono ?_
                intro e w1 hh
                rw [hh.1, hh.2, hl]
                clear hh
                go_wp2_with fail
                refine (ndigit_any c wr).mono ?_
                intro e w1 hh
                rw [hh.1, hh.2, hd]
                clear hh
                go_wp2
                go_roundw
                case rel => exact ⟨k + 1, by omega, by omega, by go_num, HN.out (by simp at hd; simp [Grain.badN, hl]; omega), by first | rfl | trivial⟩
                case measure => simp [intOf]; omega
              | false =>
                by_cases g : c = 95
                · subst g
                  go_wp2_with fail
                  refine (nletter_any 95 wr).mono ?_
                  intro e w1 hh
                  rw [hh.1, hh.2, hl]
                  clear hh
                  go_wp2_with fail
                  refine (ndigit_any 95 wr).mono ?_
                  intro e w1 hh
                  rw [hh.1, hh.2, hd]
                  clear hh
                  go_wp2
                  go_roundw
                  case rel => exact ⟨k + 1, by omega, by omega, by go_num, HN.out (by simp [Grain.badN]; omega), by first | rfl | trivial⟩
                  case measure => simp [intOf]; omega
                · have g' : (c != 95) = true := by simpa using g
                  go_wp2_with fail
                  refine (nletter_any c wr).mono ?_
                  intro e w1 hh
                  rw [hh.1, hh.2, hl]
                  clear hh
                  go_wp2_with fail
                  refine (ndigit_any c wr).mono ?_
                  intro e w1 hh
                  rw [hh.1, hh.2, hd]
                  clear hh
                  go_wp2
                  go_ret
                  exact ⟨ret_bool (HB.out (by simp at hd; simp [Grain.badN, hl]; omega)).symm, rfl⟩
          · have he : k = s.size := by omega
            subst he
            have HE : Hid (Grain.named s = true) := by
              show Grain.named s = _
              unfold Grain.named
              rw [HF.out]
              simp; omega
            clear HF
            go_wp2
            go_ret
            exact ⟨ret_bool HE.out.symm, rfl⟩
    · have e1 : decide ((12 : Int) < (s.size : Int)) = true := by simp; omega
      have HF : Hid (Grain.named s = false) := by
        show _ = _
        unfold Grain.named
        simp; omega
      go_enter Tryz.func62, Tryz.ntmps62
      go_wp2
      go_ret
      exact ⟨ret_bool HF.out.symm, rfl⟩
  · have e0 : ((s.size : Int) == 0) = true := by rw [beq_iff_eq]; omega
    have HF : Hid (Grain.named s = false) := by
      show _ = _
      unfold Grain.named
      rw [decide_eq_false h0]; simp
    go_enter Tryz.func62, Tryz.ntmps62
    go_wp2
    go_ret
    exact ⟨ret_bool HF.out.symm, rfl⟩

end Go.Proofs.YthohkokhimdamaaGreat
