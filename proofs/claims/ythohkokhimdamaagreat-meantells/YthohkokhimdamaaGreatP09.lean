/-
  What is asked for, of all that lines tell. No program is named here.
-/
import Derived.Test.YthohkokhimdamaaGreatRows
import Derived.Test.YthohkokhimdamaaGreatP03
import Derived.Test.YthohkokhimdamaaGreatP04
import Derived.Deep.AppendLies
import Derived.Test.YthohkokhimdamaaGreatP06
import Derived.Test.YthohkokhimdamaaGreatP07
import Derived.Test.YthohkokhimdamaaGreatP08
/-
  The walk of the document's Only.
-/
namespace Go.GrainU
open Go.RowKit

/-- the labels whose keys are among words -/
def only (l : List (ByteArray × ByteArray)) (ks : List ByteArray) : List (ByteArray × ByteArray) := l.filter fun x => has ks x.1

theorem only_take {l : List (ByteArray × ByteArray)} {ks : List ByteArray} {k : Nat} (h : k < l.length) : only (l.take (k + 1)) ks = if has ks (lk l k) = true then only (l.take k) ks ++ [(lk l k, lv l k)] else only (l.take k) ks := by
  rw [take_lab h]
  unfold only
  rw [List.filter_append]
  cases hh : has ks (lk l k) <;> simp [hh]

theorem only_len (l : List (ByteArray × ByteArray)) (ks : List ByteArray) : (only l ks).length ≤ l.length := List.length_filter_le _ _

theorem own_llen {w : World} {base e N : Nat} {v : Value} {l : List (ByteArray × ByteArray)} (h : w.ownsRow base e 2 v N (lcells l)) : N = l.length := by
  have := h.1; rw [lcells_length] at this; omega

end Go.GrainU
namespace Go.Proofs.YthohkokhimdamaaGreat
open Go.RowKit Go.GrainU

theorem Tryz.infoLabel : (Tryz.prog.info? 88).map (fun i => (i.zero, i.size, i.bytes)) = some (some (.agg #[.string ⟨#[]⟩, .string ⟨#[]⟩]), 2, 32) := by kernel_rfl

set_option maxHeartbeats 2000000 in
theorem ronly_any (l : List (ByteArray × ByteArray)) (ks : List ByteArray) (ao bo : Option Addr) (n cap m c : Nat) (w : World) (hs : Seg w ao (lcells l)) (hn : n = l.length) (hL : n * 32 ≤ 140737488351232) (hb : Seg w bo (wcells ks)) (hm : m = ks.length) (hM : m ≤ 9223372036854775806) :
    Calls Tryz.prog 60 #[.slice ao n cap, .slice bo m c] w fun e w' => ∃ co N d, e = .returned (.slice co N d) ∧ w'.ownsRow w.heap.size 88 2 (.slice co N d) N (lcells (only l ks)) ∧ Below w.heap.size w w' := by
  obtain ⟨i0, hi, hz0, hz1, hz2⟩ := info_parts Tryz.infoLabel
  have HN := hide hn
  have HM := hide hm
  clear hn hm
  go_enter Tryz.func60, Tryz.ntmps60
  go_wp2
  go_loopw [5, 12] (fun out i wr => ∃ (k N d : Nat) (co : Option Addr), k ≤ n ∧ i = .int .i64 k ∧ out = .slice co N d ∧ N ≤ k ∧ wr.ownsRow w.heap.size 88 2 (.slice co N d) N (lcells (only (l.take k) ks)) ∧ Below w.heap.size w wr) (fun _ i _ => n - (intOf i).toNat)
  case atStart => exact ⟨0, 0, 0, none, Nat.zero_le _, rfl, rfl, Nat.le_refl _, World.ownsRow_nil _ _ _ _, Below.refl _ _⟩
  case round =>
    obtain ⟨k, N, d, co, hk, rfl, rfl, hNk, own, bel⟩ := hrel
    have hsz := bel.size
    by_cases hlt : k < n
    · have hkl : k < l.length := by rw [← HN.out]; exact hlt
      obtain ⟨b, off, rfl, hbl, hcell⟩ := seg_label hs hkl
      obtain ⟨x, hx⟩ : ∃ x, x = lk l k := ⟨_, rfl⟩
      obtain ⟨y, hy⟩ : ∃ y, y = lv l k := ⟨_, rfl⟩
      have c0 : wr.cell? ⟨b, off + k * 2, none⟩ = some (.string x) := by rw [hx]; exact (bel.cell (by exact hbl)).trans (hcell k hkl).1
      have c1 : wr.cell? ⟨b, off + k * 2 + 1, none⟩ = some (.string y) := by rw [hy]; exact (bel.cell (by exact hbl)).trans (hcell k hkl).2
      have HU : Hid (only (l.take (k + 1)) ks = if has ks x = true then only (l.take k) ks ++ [(x, y)] else only (l.take k) ks) := by rw [hx, hy]; exact only_take hkl
      clear hx hy hcell hkl
      obtain ⟨V, hV⟩ : ∃ V, V = wr.alloc (.cells #[.string x, .string y] 88) := ⟨_, rfl⟩
      have F1 : V.heap[wr.heap.size]? = some (.cells #[.string x, .string y] 88 (0, 0)) := by rw [hV]; exact heap_alloc_new wr _
      have own1 : V.ownsRow w.heap.size 88 2 (.slice co N d) N (lcells (only (l.take k) ks)) := by rw [hV]; exact own.alloc _
      have bel1 : Below w.heap.size w V := by rw [hV]; exact bel.alloc hsz _
      have hs1 := bel1.size
      obtain ⟨p0, p1, _, _⟩ := two_cells F1
      have HV := hide hV
      clear hV own
      go_wp2
      rw [← HV.out]
      have HK := hide (rfl : wr.heap.size = wr.heap.size)
      obtain ⟨X, hX⟩ : ∃ X, X = wr.heap.size := ⟨_, rfl⟩
      rw [← hX] at F1 p0 p1 ⊢
      clear HK HV hX c0 c1 bel hsz
      go_loopw [5, 18] (fun o q wq => ∃ (j : Nat), j ≤ m ∧ o = .slice co N d ∧ q = .int .i64 j ∧ Hid (∀ i, i < j → ks.getD i ⟨#[]⟩ ≠ x) ∧ wq = V) (fun _ q _ => m - (intOf q).toNat)
      case atStart => exact ⟨0, Nat.zero_le _, rfl, rfl, fun i h => by omega, rfl⟩
      case round =>
        obtain ⟨j, hj, rfl, rfl, HJ, rfl⟩ := hrel
        by_cases hjm : j < m
        · have hjl : j < ks.length := by rw [← HM.out]; exact hjm
          obtain ⟨b2, off2, rfl, hbl2, hcell2⟩ := seg_word hb hjl
          obtain ⟨z, hz⟩ : ∃ z, z = ks.getD j ⟨#[]⟩ := ⟨_, rfl⟩
          have e0 : wr.cell? ⟨b2, off2 + j, none⟩ = some (.string z) := by rw [hz]; exact (bel1.cell (by exact hbl2)).trans (hcell2 j hjl)
          have Hz := hide hz
          have Hjl := hide hjl
          clear hz hcell2 hjl
          by_cases ez : z = x
          · subst ez
            obtain ⟨v1, v2⟩ := word_self z
            have HE : Hid (only (l.take (k + 1)) ks = only (l.take k) ks ++ [(z, y)]) := by
              show _ = _
              rw [HU.out, if_pos (has_at Hjl.out Hz.out.symm)]
            clear HU HJ
            go_wp2_with (at_builtin; refine wpList_append_lies _ rfl _ _ 40 rfl w.heap.size 88 i0 (.agg #[.string ⟨#[]⟩, .string ⟨#[]⟩]) 2 32 Tryz.underlying40 hi hz0 hz1 hz2 rfl (by decide) _ _ _ rfl (own1.alloc _) ⟨wr.heap.size, 0, none⟩ 1 1 [.string z, .string y] rfl rfl (news_two rfl _ _ _) (by simp [Value.oneCell']) (by decide) (by unfold maxLen; omega) (by omega) (by simp; omega) (wr.heap.size + 1) (by simp) ?_)
            intro g' cp' w5 own5 gr5 hat5 hlt5
            have own6 : w5.ownsRow w.heap.size 88 2 (.slice (some ⟨g', 0, none⟩) (N + 1) cp') (N + 1) (lcells (only (l.take (k + 1)) ks)) := by
              rw [HE.out, lcells_append]; exact own5
            have bel5 : Below w.heap.size w w5 := (bel1.alloc hs1 _).grown gr5 (by simp; omega) (fun j hj => (own1.lt j hj).1)
            clear own5 gr5 hat5 hlt5 own1 HE
            go_wp2
            go_roundw
            case rel => exact ⟨k + 1, N + 1, cp', _, by omega, by go_num, rfl, by omega, own6, bel5⟩
            case measure => simp [intOf]; omega
          · obtain ⟨v1, v2⟩ := word_ne ez
            have HJ' : Hid (∀ i, i < j + 1 → ks.getD i ⟨#[]⟩ ≠ x) := by
              intro i hi'
              rcases (show i < j ∨ i = j from by omega) with h | h
              · exact HJ.out i h
              · subst h; rw [← Hz.out]; exact ez
            clear HJ ez
            go_wp2
            go_roundw
            case rel => exact ⟨j + 1, by omega, rfl, by go_num, HJ', by first | rfl | trivial⟩
            case measure => simp [intOf]; omega
        · have HE : Hid (only (l.take (k + 1)) ks = only (l.take k) ks) := by
            show _ = _
            rw [HU.out, has_none (fun i hi' => HJ.out i (by have := HM.out; omega)), if_neg (by decide)]
          rw [← HE.out] at own1
          clear HU HJ HE
          go_wp2
          go_roundw
          case rel => exact ⟨k + 1, N, d, co, by omega, by go_num, rfl, by omega, own1, bel1⟩
          case measure => simp [intOf]; omega
    · have he : k = n := by omega
      subst he
      have HT := hide (List.take_of_length_le (i := k) (l := l) (by rw [← HN.out]; omega))
      rw [HT.out] at own
      clear HT HN
      go_wp2
      go_ret
      exact ⟨co, N, d, rfl, own, bel⟩

end Go.Proofs.YthohkokhimdamaaGreat

/-
  What is asked for, of all that lines tell. No program is named here.
-/
namespace Go.GrainU
open Go.RowKit

abbrev Lb := List (ByteArray × ByteArray)
abbrev Ln := Lb × List (Int × Int)
abbrev Cl := Lb × Int

def lser (l : List Ln) (k : Nat) : Lb := (l.getD k ([], [])).1
def lsmp (l : List Ln) (k : Nat) : List (Int × Int) := (l.getD k ([], [])).2

/-- what is wrong with a line by itself -/
def lnAlone (x : Ln) : Int := if wrongS x.1 = 0 then (Grain.wrong x.2).1 else wrongS x.1

/-- what is wrong with line k -/
def lnBad (l : List Ln) (k : Nat) : Int :=
  if lnAlone (lser l k, lsmp l k) = 0 then (if 0 < k ∧ 0 ≤ cmpS (lser l (k - 1)) (lser l k) then 2 else 0) else lnAlone (lser l k, lsmp l k)

def wrLF (l : List Ln) : Nat → Nat → Int × Int
  | 0, _ => (0, 0)
  | n + 1, k => if lnBad l k = 0 then wrLF l n (k + 1) else (lnBad l k, (k : Int))

def wrLn (l : List Ln) : Int × Int := if 8 < l.length then (5, 0) else wrLF l l.length 0

theorem wrLF_ok {l : List Ln} {n k : Nat} (h : lnBad l k = 0) : wrLF l (n + 1) k = wrLF l n (k + 1) := by simp [wrLF, h]
theorem wrLF_no {l : List Ln} {n k : Nat} (h : lnBad l k ≠ 0) : wrLF l (n + 1) k = (lnBad l k, (k : Int)) := by simp [wrLF, h]

def chk (e : Ex) (time : Int) : Int := if (wr e 1 0).1 = 0 then (if typ e = 0 then (if time < 0 ∨ 1000000 < time then 3 else 0) else typ e) else (wr e 1 0).1

/-- what a word says of a sum -/
def valP (b : ByteArray) (s : Grain.Sm) : Int × Bool :=
  if s.c < 1 then (0, false) else if b = lit [97, 118, 103] then (s.t.tdiv s.c, true) else if b = lit [99, 111, 117, 110, 116] then (s.c, true) else if b = lit [102, 105, 114, 115, 116] then (s.f, true) else if b = lit [108, 97, 115, 116] then (s.l, true)
  else if b = lit [109, 97, 120] then (s.mx, true) else if b = lit [109, 105, 110] then (s.mn, true) else if b = lit [114, 105, 115, 101] then (s.r, true) else if b = lit [115, 117, 109] then (s.t, true) else (0, false)

/-- what a line's window comes to -/
def winV (x : Ln) (h : Hd) (time : Int) : Int × Bool := valP h.word (Grain.of (Grain.win x.2 (time - h.range) time))

/-- the cell of one line, if there is one -/
def winX (x : Ln) (h : Hd) (time : Int) : List Cl :=
  if says x.1 h.ms = true then (if (winV x h time).2 = true then [(x.1, (winV x h time).1)] else []) else []

/-- the cells of a window -/
def winC : List Ln → Hd → Int → List Cl
  | [], _, _ => []
  | x :: r, h, time => winX x h time ++ winC r h time

/-- what an expression comes to -/
structure Mn where
  num : Bool
  cs : List Cl

/-- the greatest value of a cell -/
def MC : Int := 1125899906842624

/-- too great -/
def big (v : Int) : Bool := decide (MC < v ∨ v < -MC)

/-- two values with a sign: nothing, where it is too great -/
def wkd (s : ByteArray) (a b : Int) : Option Int :=
  if s = lit [43] then (if big (a + b) = true then none else some (a + b))
  else if s = lit [45] then (if big (a - b) = true then none else some (a - b))
  else if a ≠ 0 ∧ MC / (max a (-a)) < max b (-b) then none else some (a * b)

/-- the first cell of a series -/
def cellOf : List Cl → Lb → Option Int
  | [], _ => none
  | c :: r, s => if cmpS c.1 s = 0 then some c.2 else cellOf r s

def cl0 (l : List Cl) : Int := (l.getD 0 ([], 0)).2

/-- the value that goes with cells of a series -/
def atM (m : Mn) (s : Lb) : Option Int := if m.num = true then some (cl0 m.cs) else cellOf m.cs s

/-- two of them, cell by cell -/
def binA (a b : Mn) (w : ByteArray) (acc : List Cl) : List Cl → Option (List Cl)
  | [] => some acc
  | c :: r =>
    match atM a c.1, atM b c.1 with
    | some x, some y =>
      match wkd w x y with
      | none => none
      | some v => binA a b w (acc ++ [(c.1, v)]) r
    | _, _ => binA a b w acc r

def fromM (a b : Mn) : Mn := if a.num = true then b else a

def binM (a b : Mn) (w : ByteArray) : Option Mn := (binA a b w [] (fromM a b).cs).map fun l => ⟨(fromM a b).num, l⟩

/-- what a word makes of two values -/
def tog (w : ByteArray) (a b : Int) : Int := if w = lit [109, 97, 120] then max a b else if w = lit [109, 105, 110] then min a b else a + b

/-- a cell among cells -/
def putA (w : ByteArray) (s : Lb) (v : Int) : List Cl → Option (List Cl)
  | [] => some [(s, v)]
  | c :: r =>
    if cmpS c.1 s < 0 then (putA w s v r).map (c :: ·)
    else if cmpS c.1 s = 0 then (if big (tog w c.2 v) = true then none else some ((c.1, tog w c.2 v) :: r))
    else some ((s, v) :: c :: r)

def one1 (w : ByteArray) (v : Int) : Int := if w = lit [99, 111, 117, 110, 116] then 1 else v

/-- all of them, by labels -/
def allA (w : ByteArray) (ks : List ByteArray) (out : List Cl) : List Cl → Option (List Cl)
  | [] => some out
  | c :: r =>
    match putA w (only c.1 ks) (one1 w c.2) out with
    | none => none
    | some out' => allA w ks out' r

mutual
/-- what an expression comes to; nothing, where a value is too great -/
def ev (l : List Ln) (time : Int) : Ex → Option Mn
  | .mk h kids =>
    if h.kind = 1 then some ⟨true, [([], h.n)]⟩
    else if h.kind = 2 then some ⟨false, winC l h time⟩
    else
      match evL l time kids with
      | none => none
      | some ms => if h.kind = 3 then (allA h.word h.bs [] (ms.getD 0 ⟨false, []⟩).cs).map fun c => ⟨false, c⟩ else binM (ms.getD 0 ⟨false, []⟩) (ms.getD 1 ⟨false, []⟩) h.word
def evL (l : List Ln) (time : Int) : List Ex → Option (List Mn)
  | [] => some []
  | k :: r =>
    match ev l time k with
    | none => none
    | some m =>
      match evL l time r with
      | none => none
      | some ms => some (m :: ms)
end

/-- what is asked -/
def ask (l : List Ln) (e : Ex) (time : Int) : List Cl × Int :=
  if (wrLn l).1 = 0 then
    (if chk e time = 0 then (match ev l time e with | none => ([], 3) | some m => (m.cs, 0)) else ([], chk e time))
  else ([], (wrLn l).1)

/-! what values come to -/

/-- a cell is within its bounds -/
def Fine (c : Cl) : Prop := -MC ≤ c.2 ∧ c.2 ≤ MC ∧ c.1.length ≤ 4

/-- cells rise -/
def Srt (l : List Cl) : Prop := l.Pairwise fun a b => cmpS a.1 b.1 = -1

structure Good (m : Mn) : Prop where
  fine : ∀ c ∈ m.cs, Fine c
  srt : Srt m.cs
  len : m.cs.length ≤ 8
  num : m.num = true → ∃ v, m.cs = [([], v)]

theorem cmpS_cases (a b : Lb) : cmpS a b = -1 ∨ (cmpS a b = 0 ∧ a = b) ∨ cmpS a b = 1 := by rw [cmpS_L]; exact cmpL_cases a b
theorem cmpS_self (a : Lb) : cmpS a a = 0 := by rw [cmpS_L]; exact cmpL_self a
theorem cmpS_zero (a b : Lb) : cmpS a b = 0 ↔ a = b := by rw [cmpS_L]; exact cmpL_zero a b
theorem cmpS_back (a b : Lb) : cmpS b a = - cmpS a b := by rw [cmpS_L, cmpS_L]; exact cmpL_back a b
theorem cmpS_trans {a b c : Lb} (h : cmpS a b = -1) (h' : cmpS b c = -1) : cmpS a c = -1 := by rw [cmpS_L] at *; exact cmpL_trans a b c h h'

/-- a sum of at most k samples of right values -/
structure SmOk (s : Grain.Sm) (k : Int) : Prop where
  c : s.c = k
  t : -(1000000000 * k) ≤ s.t ∧ s.t ≤ 1000000000 * k
  mn : -1000000000 ≤ s.mn ∧ s.mn ≤ 1000000000
  mx : -1000000000 ≤ s.mx ∧ s.mx ≤ 1000000000
  f : -1000000000 ≤ s.f ∧ s.f ≤ 1000000000
  l : -1000000000 ≤ s.l ∧ s.l ≤ 1000000000
  r : -(3000000000 * k) ≤ s.r ∧ s.r ≤ 3000000000 * k

theorem ofN_ok (l : List (Int × Int)) (h : ∀ x ∈ l, -1000000000 ≤ x.2 ∧ x.2 ≤ 1000000000) : ∀ k : Nat, k ≤ l.length → k ≤ 500 → SmOk (Grain.ofN l k) k := by
  intro k
  induction k with
  | zero => intro _ _; exact ⟨rfl, by simp [Grain.ofN, Grain.zero], by simp [Grain.ofN, Grain.zero], by simp [Grain.ofN, Grain.zero], by simp [Grain.ofN, Grain.zero], by simp [Grain.ofN, Grain.zero], by simp [Grain.ofN, Grain.zero]⟩
  | succ k ih =>
    intro hk h5
    have I := ih (by omega) (by omega)
    have hv : -1000000000 ≤ Grain.vl l k ∧ Grain.vl l k ≤ 1000000000 := by
      have : Grain.vl l k = (l[k]'(by omega)).2 := by simp [Grain.vl, List.getD, List.getElem?_eq_getElem (show k < l.length by omega)]
      rw [this]
      exact h _ (List.getElem_mem _)
    obtain ⟨v, e⟩ : ∃ v, v = Grain.vl l k := ⟨_, rfl⟩
    rw [← e] at hv
    have hs : Grain.ofN l (k + 1) = Grain.join (Grain.ofN l k) (Grain.one v) := by rw [e]; rfl
    rw [hs]
    by_cases h0 : k = 0
    · subst h0
      rw [Grain.join_zero_left _ _ I.c]
      refine ⟨rfl, ?_, ?_, ?_, ?_, ?_, ?_⟩ <;> simp only [Grain.one] <;> omega
    · have hc := I.c
      obtain ⟨t1, t2⟩ := I.t
      obtain ⟨n1, n2⟩ := I.mn
      obtain ⟨x1, x2⟩ := I.mx
      obtain ⟨f1, f2⟩ := I.f
      obtain ⟨l1, l2⟩ := I.l
      obtain ⟨r1, r2⟩ := I.r
      rw [Grain.join_full _ _ (by omega) (by simp [Grain.one])]
      have hr : -2000000000 ≤ Grain.rise (Grain.ofN l k).l v ∧ Grain.rise (Grain.ofN l k).l v ≤ 2000000000 := by
        unfold Grain.rise
        split
        · omega
        · rw [Grain.wr_in (by omega) (by omega)]; omega
      obtain ⟨q, hq⟩ : ∃ q, q = Grain.rise (Grain.ofN l k).l v := ⟨_, rfl⟩
      rw [← hq] at hr
      refine ⟨?_, ?_, ?_, ?_, ?_, ?_, ?_⟩
      · show Grain.wr ((Grain.ofN l k).c + 1) = ((k + 1 : Nat) : Int)
        rw [hc, Grain.wr_in (by omega) (by omega)]; omega
      · show -(1000000000 * ((k + 1 : Nat) : Int)) ≤ Grain.wr ((Grain.ofN l k).t + v) ∧ Grain.wr ((Grain.ofN l k).t + v) ≤ 1000000000 * ((k + 1 : Nat) : Int)
        rw [Grain.wr_in (by omega) (by omega)]; omega
      · show -1000000000 ≤ (if v < (Grain.ofN l k).mn then v else (Grain.ofN l k).mn) ∧ (if v < (Grain.ofN l k).mn then v else (Grain.ofN l k).mn) ≤ 1000000000
        split <;> omega
      · show -1000000000 ≤ (if v > (Grain.ofN l k).mx then v else (Grain.ofN l k).mx) ∧ (if v > (Grain.ofN l k).mx then v else (Grain.ofN l k).mx) ≤ 1000000000
        split <;> omega
      · exact ⟨f1, f2⟩
      · exact hv
      · show -(3000000000 * ((k + 1 : Nat) : Int)) ≤ Grain.wr (Grain.wr ((Grain.ofN l k).r + Grain.rise (Grain.ofN l k).l v) + 0) ∧ Grain.wr (Grain.wr ((Grain.ofN l k).r + Grain.rise (Grain.ofN l k).l v) + 0) ≤ 3000000000 * ((k + 1 : Nat) : Int)
        rw [← hq, Grain.wr_in (x := (Grain.ofN l k).r + q) (by omega) (by omega), Grain.wr_in (by omega) (by omega)]
        omega

theorem of_ok {l : List (Int × Int)} (h : ∀ x ∈ l, -1000000000 ≤ x.2 ∧ x.2 ≤ 1000000000) (h5 : l.length ≤ 500) : SmOk (Grain.of l) l.length := ofN_ok l h _ (Nat.le_refl _) h5

/-- at most so much, a hundred times less than a cell may have -/
def W1 : Int := 1500000000000

theorem tdiv_bd {a b k : Int} (hb : 1 ≤ b) (h1 : -k ≤ a) (h2 : a ≤ k) : -k ≤ a.tdiv b ∧ a.tdiv b ≤ k := by
  have hk : 0 ≤ k := by omega
  rcases Int.le_total 0 a with h | h
  · have e1 := Int.tdiv_eq_ediv_of_nonneg (b := b) h
    rw [e1]
    have e2 : a / b ≤ a := Int.ediv_le_self b h
    have e3 : 0 ≤ a / b := Int.ediv_nonneg h (by omega)
    omega
  · have e1 : a.tdiv b = -((-a).tdiv b) := by rw [Int.neg_tdiv]; omega
    have e4 := Int.tdiv_eq_ediv_of_nonneg (b := b) (show 0 ≤ -a by omega)
    rw [e1, e4]
    have e2 : (-a) / b ≤ -a := Int.ediv_le_self b (by omega)
    have e3 : 0 ≤ (-a) / b := Int.ediv_nonneg (by omega) (by omega)
    omega

theorem valP_bd {s : Grain.Sm} {k : Int} (h : SmOk s k) (hk : k ≤ 500) (h0 : 0 ≤ k) (b : ByteArray) : -W1 ≤ (valP b s).1 ∧ (valP b s).1 ≤ W1 := by
  obtain ⟨hc, ⟨t1, t2⟩, ⟨n1, n2⟩, ⟨x1, x2⟩, ⟨f1, f2⟩, ⟨l1, l2⟩, ⟨r1, r2⟩⟩ := h
  unfold valP W1
  split
  · simp
  · have := tdiv_bd (a := s.t) (b := s.c) (k := 1500000000000) (by omega) (by omega) (by omega)
    repeat' split
    all_goals first | exact this | simp only [] ; omega

end Go.GrainU
