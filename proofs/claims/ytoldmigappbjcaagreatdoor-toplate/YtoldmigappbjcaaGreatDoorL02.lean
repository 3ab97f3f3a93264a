import Derived.Below
import Derived.ChangeOld
import Derived.Deep.Slices
import Derived.Lib.AtoiAll
import Derived.Lib.ItoaLen
import Derived.Lib.ItoaNum
import Derived.Lib.Join
import Derived.OpenShut
import Derived.ProofKit
import Derived.Shelf.LaysC
import Derived.Shelf.LaysM
import Derived.Shelf.Small.Strs
import Derived.Shelf.Strconv.Atoi
import Derived.Shelf.Strconv.AtoiAll
import Derived.Shelf.Strconv.AtoiErrFast
import Derived.Shelf.Strconv.AtoiFail
import Derived.Shelf.Strconv.AtoiInnerAll
import Derived.Shelf.Strconv.AtoiLong
import Derived.Shelf.Strconv.Clone
import Derived.Shelf.Strconv.ErrVarAll
import Derived.Shelf.Strconv.Itoa0
import Derived.Shelf.Strconv.Itoa1
import Derived.Shelf.Strconv.Itoa2
import Derived.Shelf.Strconv.Itoa3
import Derived.Shelf.Strconv.Lower
import Derived.Shelf.Strconv.ParseInt10
import Derived.Shelf.Strconv.ParseIntEmpty
import Derived.Shelf.Strconv.ParseUint10
import Derived.Shelf.Strconv.ParseUint10Any
import Derived.Shelf.Strconv.ParseUint10Empty
import Derived.Shelf.Strconv.RangeError
import Derived.Shelf.Strconv.SyntaxError
import Derived.Shelf.Strconv.ToError
import Derived.Shelf.Strconv.ToErrorRange
import Derived.Shelf.Strings.Builder1
import Derived.Shelf.Strings.Builder2
import Derived.Shelf.Strings.OnBuilder
import Derived.Shelf.Strings.Prefix
import Derived.SizedLaws
import Derived.Test.YtoldmigappbjcaaGreatDoorL01
import Derived.Test.YtoldmigappbjcaaGreatDoorProg
import Derived.Test.YtoldmigappbjcaaGreatDoorRows
namespace Go.GrainU
open Go.RowKit
instance : Inhabited Mt := ⟨⟨0, ⟨#[]⟩, ⟨#[]⟩⟩⟩
end Go.GrainU
namespace Go.Proofs.YtoldmigappbjcaaGreatDoor
open Go.ChangeShapes Go.WideShapes Go.ChangeAt Go.RowKit Go.GrainU
theorem Tryz.own : ownKnob Tryz.prog.godebug = none := by kernel_rfl
end Go.Proofs.YtoldmigappbjcaaGreatDoor
namespace Go.GrainU
open Go.RowKit
theorem lit_size (l : List UInt8) : (lit l).size = l.length := by simp [lit, ByteArray.size]
theorem has_mem {l : List ByteArray} {x : ByteArray} (h : has l x = true) : x ∈ l := by
 unfold has at h
 rw [List.any_eq_true] at h
 obtain ⟨y, hy, e⟩ := h
 have := of_decide_eq_true e
 rw [← this]; exact hy
theorem mBad_ok {m : Mt} (h : mBad m = 0) : 1 ≤ m.kind ∧ m.kind ≤ 4 ∧ Grain.named m.key = true ∧ (m.kind ≤ 2 → Grain.named m.val = true) := by
 unfold mBad at h
 split at h
 ·omega
 ·rename_i h1
  split at h
  ·rename_i h2
   simp at h2
   refine ⟨by omega, by omega, h2.1, fun hk => ?_⟩
   rcases h2.2 with e | e
   ·omega
   ·exact e
  ·omega
theorem winBad_ok {h : Hd} (k : winBad h = 0) : has words8 h.word = true ∧ h.ms.length ≤ 5 ∧ msBad h.ms = 0 ∧ 1 ≤ h.range ∧ h.range ≤ 100000 := by
 unfold winBad at k
 split at k
 ·omega
 ·rename_i h1
  split at k
  ·omega
  ·split at k
   ·rename_i h3
    split at k
    ·omega
    ·exact ⟨by simpa using h1, by omega, h3, by omega, by omega⟩
   ·rename_i h3; exact absurd k h3
theorem alone_cases {h : Hd} {k : Nat} (e : alone h k = 0) : (h.kind = 1 ∧ k = 0 ∧ 0 ≤ h.n ∧ h.n ≤ 1000000) ∨ (h.kind = 2 ∧ k = 0 ∧ winBad h = 0) ∨ (h.kind = 3 ∧ k = 1 ∧ allBad h = 0) ∨ (h.kind = 4 ∧ k = 2 ∧ has signs3 h.word = true) := by
 unfold alone at e
 split at e
 ·rename_i h1
  split at e
  ·split at e
   ·omega
   ·exact .inl ⟨h1, by assumption, by omega, by omega⟩
  ·omega
 ·split at e
  ·split at e
   ·exact .inr (.inl ⟨by assumption, by assumption, e⟩)
   ·omega
  ·split at e
   ·split at e
    ·exact .inr (.inr (.inl ⟨by assumption, by assumption, e⟩))
    ·omega
   ·split at e
    ·split at e
     ·split at e
      ·exact .inr (.inr (.inr ⟨by assumption, by assumption, by assumption⟩))
      ·omega
     ·omega
    ·omega
theorem Rt.parts {h : Hd} {kids : List Ex} (r : Rt (.mk h kids)) : alone h kids.length = 0 ∧ ∀ k ∈ kids, Rt k := by
 cases r with
 | mk _ _ a b => exact ⟨a, b⟩
theorem wr_ok : ∀ x : Ex, ∀ d n, 0 ≤ n → (wr x d n).1 = 0 → Rt x ∧ (wr x d n).2 = n + cnt x ∧ n + cnt x ≤ 100 ∧ d ≤ 20 := by
 refine Ex.ind ?_
 intro h kids ih d n hn e
 have hL : ∀ l : List Ex, (∀ k ∈ l, k ∈ kids) → ∀ m, 0 ≤ m → m ≤ 100 → (wrL l (d + 1) m).1 = 0 → (∀ k ∈ l, Rt k) ∧ (wrL l (d + 1) m).2 = m + cntL l ∧ m + cntL l ≤ 100 := by
  intro l
  induction l with
  | nil => intro _ m hm h1 _; exact ⟨fun k hk => by (cases hk), by simp [wrL, cntL], by simp [cntL]; omega⟩
  | cons a r ihr =>
   intro hin m hm h1 e1
   simp only [wrL] at e1 ⊢
   by_cases e2 : (wr a (d + 1) m).1 = 0
   ·rw [if_pos e2] at e1 ⊢
    obtain ⟨r1, r2, r3, _⟩ := ih a (hin a (by simp)) (d + 1) m hm e2
    rw [r2] at e1 ⊢
    obtain ⟨s1, s2, s3⟩ := ihr (fun k hk => hin k (by simp [hk])) (m + cnt a) (by omega) r3 e1
    refine ⟨fun k hk => ?_, by rw [s2]; simp only [cntL]; omega, by simp only [cntL]; omega⟩
    rcases List.mem_cons.1 hk with e | e
    ·rw [e]; exact r1
    ·exact s1 k e
   ·rw [if_neg e2] at e1; exact absurd e1 e2
 simp only [wr, cnt] at e ⊢
 by_cases h1 : 100 < n + 1 ∨ 20 < d
 ·rw [if_pos h1] at e; simp at e
 ·rw [if_neg h1] at e ⊢
  by_cases h2 : alone h kids.length = 0
  ·rw [if_pos h2] at e ⊢
   obtain ⟨s1, s2, s3⟩ := hL kids (fun k hk => hk) (n + 1) (by omega) (by omega) e
   exact ⟨.mk h kids h2 s1, by rw [s2]; omega, by omega, by omega⟩
  ·rw [if_neg h2] at e; exact absurd e h2
open Go.RowKit
structure St where
 r : List UInt8
 n : Nat
abbrev Flt := Int × Nat
def letter (b : UInt8) : Bool := decide (97 ≤ b.toNat) && decide (b.toNat ≤ 122)
def digit (b : UInt8) : Bool := decide (48 ≤ b.toNat) && decide (b.toNat ≤ 57)
def wbyte (b : UInt8) : Bool := letter b || (digit b || b == 95)
def skip (r : List UInt8) : List UInt8 := r.dropWhile (fun b => b == 32)
def acc (sg r : List UInt8) : Option (List UInt8) := if sg.isPrefixOf (skip r) = true then some ((skip r).drop sg.length) else none
def expe (sg r : List UInt8) : Except Flt (List UInt8) := match acc sg r with
 | some r' => .ok r'
 | none => .error (2, (skip r).length)
def nxt (r : List UInt8) : UInt8 := (skip r).headD 0
def anyW (r : List UInt8) : List UInt8 × List UInt8 := if letter (nxt r) = true then ((skip r).takeWhile wbyte, (skip r).dropWhile wbyte) else ([], r)
def wrd (r : List UInt8) : Except Flt (List UInt8 × List UInt8) :=
 if (anyW r).1 = [] then .error (2, (skip r).length) else if 12 < (anyW r).1.length then .error (7, (skip r).length) else .ok (anyW r)
def wrdOf (may : List ByteArray) (r : List UInt8) : Except Flt (List UInt8 × List UInt8) := match wrd r with
 | .error e => .error e
 | .ok p => if has may (lit p.1) = true then .ok p else .error (7, (skip r).length)
def numOk (least most : Int) (d : List UInt8) (n : Int) : Bool := !(decide (1 < d.length) && d.headD 0 == 48) && (decide (least ≤ n) && decide (n ≤ most))
def numb (least most : Int) (r : List UInt8) : Except Flt (Int × List UInt8) :=
 if (skip r).takeWhile digit = [] then .error (2, (skip r).length) else
 match Go.Lib.atoiAll ((skip r).takeWhile digit) with
 | .ok n => if numOk least most ((skip r).takeWhile digit) n = true then .ok (n, (skip r).dropWhile digit) else .error (3, (skip r).length)
 | _ => .error (3, (skip r).length)
def byW (r : List UInt8) : Except Flt (List UInt8) := if (anyW r).1 = [98, 121] then .ok (anyW r).2 else .error (2, (skip r).length)
def lstF {α : Type} (part : List UInt8 → Except Flt (α × List UInt8)) (most : Nat) : Nat → List α → List UInt8 → Except Flt (List α × List UInt8)
 | 0, l, r => .ok (l, r)
 | k + 1, l, r => match acc [44] r with
  | none => .ok (l, r)
  | some r1 => if l.length = most then .error (5, r1.length) else match part r1 with
   | .error e => .error e
   | .ok (a, r2) => lstF part most k (l ++ [a]) r2
def lst {α : Type} (part : List UInt8 → Except Flt (α × List UInt8)) (most : Nat) (r : List UInt8) : Except Flt (List α × List UInt8) := match part r with
 | .error e => .error e
 | .ok (a, r1) => lstF part most most [a] r1
def mtc (r : List UInt8) : Except Flt (Mt × List UInt8) := match acc [33] r with
 | some r1 => match wrd r1 with
  | .error e => .error e
  | .ok (k, r2) => .ok (⟨4, lit k, lit []⟩, r2)
 | none => match wrd r with
  | .error e => .error e
  | .ok (k, r2) => match acc [61] r2 with
   | some r3 => match wrd r3 with
    | .error e => .error e
    | .ok (v, r4) => .ok (⟨1, lit k, lit v⟩, r4)
   | none => match acc [33, 61] r2 with
    | some r3 => match wrd r3 with
     | .error e => .error e
     | .ok (v, r4) => .ok (⟨2, lit k, lit v⟩, r4)
    | none => .ok (⟨3, lit k, lit []⟩, r2)
def fin (e : Ex) (st : St) : Except Flt (Ex × St) := if 100 < st.n + 1 then .error (4, st.r.length) else .ok (e, ⟨st.r, st.n + 1⟩)
def wnM (r : List UInt8) : Except Flt (List Mt × List UInt8) := match acc [125] r with
 | some r1 => .ok ([], r1)
 | none => match lst mtc 5 r with
  | .error e => .error e
  | .ok (l, r1) => match expe [125] r1 with
   | .error e => .error e
   | .ok r2 => .ok (l, r2)
def wnd (w : ByteArray) (st : St) : Except Flt (Ex × St) := match expe [40] st.r with
 | .error e => .error e
 | .ok r1 => match expe [123] r1 with
  | .error e => .error e
  | .ok r2 => match wnM r2 with
   | .error e => .error e
   | .ok (l, r3) => match expe [91] r3 with
    | .error e => .error e
    | .ok r4 => match numb 1 100000 r4 with
     | .error e => .error e
     | .ok (n, r5) => match expe [93] r5 with
      | .error e => .error e
      | .ok r6 => match expe [41] r6 with
       | .error e => .error e
       | .ok r7 => fin (.mk ⟨2, 0, n, w, l, []⟩ []) ⟨r7, st.n⟩
def words1 (r : List UInt8) : Except Flt (ByteArray × List UInt8) := match wrd r with
 | .error e => .error e
 | .ok (w, r1) => .ok (lit w, r1)
def alB (r : List UInt8) : Except Flt (List ByteArray × List UInt8) := match acc [40] r with
 | some r1 => .ok ([], r1)
 | none => match byW r with
  | .error e => .error e
  | .ok r1 => match lst words1 4 r1 with
   | .error e => .error e
   | .ok (l, r2) => match expe [40] r2 with
    | .error e => .error e
    | .ok r3 => .ok (l, r3)
def al (sub : St → Except Flt (Ex × St)) (st : St) : Except Flt (Ex × St) := match wrdOf totals4 st.r with
 | .error e => .error e
 | .ok (w, r1) => match alB r1 with
  | .error e => .error e
  | .ok (bs, r2) => match sub ⟨r2, st.n⟩ with
   | .error e => .error e
   | .ok (e, s1) => match expe [41] s1.r with
    | .error e => .error e
    | .ok r3 => fin (.mk ⟨3, 0, 0, lit w, [], bs⟩ [e]) ⟨r3, s1.n⟩
def accAny : List (List UInt8) → List UInt8 → Option (List UInt8 × List UInt8)
 | [], _ => none
 | s :: l, r => match acc s r with
  | some r1 => some (s, r1)
  | none => accAny l r
def chnF (part : St → Except Flt (Ex × St)) (signs : List (List UInt8)) : Nat → Ex → St → Except Flt (Ex × St)
 | 0, e, st => .ok (e, st)
 | k + 1, e, st => match accAny signs st.r with
  | none => .ok (e, st)
  | some (sg, r1) => match part ⟨r1, st.n⟩ with
   | .error x => .error x
   | .ok (f, s1) => match fin (.mk ⟨4, 0, 0, lit sg, [], []⟩ [e, f]) s1 with
    | .error x => .error x
    | .ok (g, s2) => chnF part signs k g s2
def chn (part : St → Except Flt (Ex × St)) (signs : List (List UInt8)) (st : St) : Except Flt (Ex × St) := match part st with
 | .error e => .error e
 | .ok (e, s1) => chnF part signs (s1.r.length + 1) e s1
def trm (f : St → Except Flt (Ex × St)) : St → Except Flt (Ex × St) := chn f [[42]]
def smm (f : St → Except Flt (Ex × St)) : St → Except Flt (Ex × St) := chn (trm f) [[43], [45]]
def wordAll : List UInt8 := [97, 108, 108]
def fct : Nat → St → Except Flt (Ex × St)
 | 0, st => .error (4, st.r.length)
 | k + 1, st => match acc [40] st.r with
  | some r1 => match smm (fct k) ⟨r1, st.n⟩ with
   | .error e => .error e
   | .ok (e, s1) => match expe [41] s1.r with
    | .error e => .error e
    | .ok r2 => .ok (e, ⟨r2, s1.n⟩)
  | none => if digit (nxt st.r) = true then match numb 0 1000000 st.r with
    | .error e => .error e
    | .ok (n, r1) => fin (.mk ⟨1, n, 0, lit [], [], []⟩ []) ⟨r1, st.n⟩
   else match wrdOf (words8 ++ [lit wordAll]) st.r with
    | .error e => .error e
    | .ok (w, r1) => if w = wordAll then al (smm (fct k)) ⟨r1, st.n⟩ else wnd (lit w) ⟨r1, st.n⟩
mutual
def dpr : Ex → Nat → Bool
 | .mk _ _, 0 => true
 | .mk _ kids, k + 1 => dprL kids k
def dprL : List Ex → Nat → Bool
 | [], _ => false
 | x :: l, k => dpr x k || dprL l k
end
def prs (s : List UInt8) : Except Flt Ex :=
 if 2000 < s.length then .error (4, s.length) else match smm (fct 20) ⟨s, 0⟩ with
 | .error e => .error e
 | .ok (e, st) => if skip st.r ≠ [] then .error (2, (skip st.r).length) else if dpr e 20 = true then .error (4, 0) else .ok e
end Go.GrainU
namespace Go.Proofs
open Go.Shelf
open Go.RowKit in
open Go.RowKit in
open Go.RowKit Go.Sort Go.Lib in
def Tryz.lays99_ren : Go.Shelf.Ren := ⟨fun | 99 => 184 | 206 => 215 | n => n, fun | 9 => 9 | 4 => 4 | 3 => 3 | n => n, fun | n => n⟩
theorem Tryz.lays99 : Go.Proofs.Lays.n99 Tryz.prog Tryz.lays99_ren := {
 mixed := by kernel_rfl
 f99 := Tryz.func184.trans (congrArg some (by kernel_rfl))
 f206 := Tryz.func215.trans (congrArg some (by kernel_rfl))
 t3 := Tryz.underlying3
 a3 := Tryz.isAgg3
 z3 := Tryz.sizeOf3
 v3 := Tryz.zeroValue3
 t4 := Tryz.underlying4
 a4 := Tryz.isAgg4
 z4 := Tryz.sizeOf4
 v4 := Tryz.zeroValue4
 t9 := Tryz.underlying9
 a9 := Tryz.isAgg9
 z9 := Tryz.sizeOf9
 v9 := Tryz.zeroValue9 }
open Go.RowKit Go.Lib in
theorem Tryz.strings_HasPrefix (s p : ByteArray) (w : World) :
  Calls Tryz.prog 184 #[.string s, .string p] w fun e w' => e = .returned (.bool (Lib.hasPrefix s.data.toList p.data.toList)) ∧ w' = w := Any.strings_HasPrefix Tryz.lays99 s p w
def Tryz.laysC172_ren : Go.Shelf.Ren := ⟨fun | 172 => 217 | 244 => 241 | 245 => 242 | 247 => 249 | 279 => 250 | 280 => 251 | 281 => 252 | 282 => 253 | 287 => 256 | 316 => 257 | 171 => 86 | 205 => 258 | 321 => 259 | 322 => 260 | 243 => 122 | 246 => 168 | 283 => 203 | 284 => 204 | 285 => 205 | 286 => 206 | 129 => 228 | 317 => 227 | 318 => 229 | 319 => 230 | 320 => 231 | 337 => 245 | 338 => 246 | n => n, fun | 9 => 9 | 3 => 3 | 75 => 224 | 76 => 225 | 4 => 4 | 5 => 5 | 167 => 290 | 37 => 84 | 0 => 0 | 85 => 291 | 2 => 2 | 168 => 293 | 53 => 256 | 175 => 298 | 46 => 176 | 210 => 302 | 127 => 261 | 145 => 307 | 143 => 305 | 21 => 21 | 171 => 255 | 173 => 259 | 212 => 275 | 51 => 276 | 20 => 20 | 213 => 277 | 232 => 296 | 233 => 297 | 80 => 227 | n => n, fun | 15 => 4 | 16 => 5 | 17 => 1 | 18 => 2 | 19 => 3 | n => n⟩
theorem Tryz.laysC172 : Go.Proofs.LaysC.n172 Tryz.prog Tryz.laysC172_ren := {
 mixed := by kernel_rfl
 f129 := Tryz.func228.trans (congrArg some (by kernel_rfl))
 f171 := Tryz.func86.trans (congrArg some (by kernel_rfl))
 f172 := Tryz.func217.trans (congrArg some (by kernel_rfl))
 f205 := Tryz.func258.trans (congrArg some (by kernel_rfl))
 f243 := Tryz.func122.trans (congrArg some (by kernel_rfl))
 f244 := Tryz.func241.trans (congrArg some (by kernel_rfl))
 f245 := Tryz.func242.trans (congrArg some (by kernel_rfl))
 f246 := Tryz.func168.trans (congrArg some (by kernel_rfl))
 f247 := Tryz.func249.trans (congrArg some (by kernel_rfl))
 f279 := Tryz.func250.trans (congrArg some (by kernel_rfl))
 f280 := Tryz.func251.trans (congrArg some (by kernel_rfl))
 f281 := Tryz.func252.trans (congrArg some (by kernel_rfl))
 f282 := Tryz.func253.trans (congrArg some (by kernel_rfl))
 f283 := Tryz.func203.trans (congrArg some (by kernel_rfl))
 f284 := Tryz.func204.trans (congrArg some (by kernel_rfl))
 f285 := Tryz.func205.trans (congrArg some (by kernel_rfl))
 f286 := Tryz.func206.trans (congrArg some (by kernel_rfl))
 f287 := Tryz.func256.trans (congrArg some (by kernel_rfl))
 f316 := Tryz.func257.trans (congrArg some (by kernel_rfl))
 f317 := Tryz.func227.trans (congrArg some (by kernel_rfl))
 f318 := Tryz.func229.trans (congrArg some (by kernel_rfl))
 f319 := Tryz.func230.trans (congrArg some (by kernel_rfl))
 f320 := Tryz.func231.trans (congrArg some (by kernel_rfl))
 f321 := Tryz.func259.trans (congrArg some (by kernel_rfl))
 f322 := Tryz.func260.trans (congrArg some (by kernel_rfl))
 f337 := Tryz.func245.trans (congrArg some (by kernel_rfl))
 f338 := Tryz.func246.trans (congrArg some (by kernel_rfl))
 t0 := Tryz.underlying0
 a0 := Tryz.isAgg0
 z0 := Tryz.sizeOf0
 v0 := Tryz.zeroValue0
 t2 := Tryz.underlying2
 a2 := Tryz.isAgg2
 z2 := Tryz.sizeOf2
 v2 := Tryz.zeroValue2
 t3 := Tryz.underlying3
 a3 := Tryz.isAgg3
 z3 := Tryz.sizeOf3
 v3 := Tryz.zeroValue3
 t4 := Tryz.underlying4
 a4 := Tryz.isAgg4
 z4 := Tryz.sizeOf4
 v4 := Tryz.zeroValue4
 t5 := Tryz.underlying5
 a5 := Tryz.isAgg5
 z5 := Tryz.sizeOf5
 v5 := Tryz.zeroValue5
 t9 := Tryz.underlying9
 a9 := Tryz.isAgg9
 z9 := Tryz.sizeOf9
 v9 := Tryz.zeroValue9
 t20 := Tryz.underlying20
 a20 := Tryz.isAgg20
 z20 := Tryz.sizeOf20
 v20 := Tryz.zeroValue20
 t21 := Tryz.underlying21
 a21 := Tryz.isAgg21
 z21 := Tryz.sizeOf21
 v21 := Tryz.zeroValue21
 t37 := Tryz.underlying84
 a37 := Tryz.isAgg84
 z37 := Tryz.sizeOf84
 v37 := Tryz.zeroValue84
 t46 := Tryz.underlying176
 a46 := Tryz.isAgg176
 z46 := Tryz.sizeOf176
 v46 := Tryz.zeroValue176
 t51 := Tryz.underlying276
 a51 := Tryz.isAgg276
 z51 := Tryz.sizeOf276
 v51 := Tryz.zeroValue276
 t53 := Tryz.underlying256
 a53 := Tryz.isAgg256
 z53 := Tryz.sizeOf256
 v53 := Tryz.zeroValue256
 t75 := Tryz.underlying224
 a75 := Tryz.isAgg224
 z75 := Tryz.sizeOf224
 v75 := Tryz.zeroValue224
 t76 := Tryz.underlying225
 a76 := Tryz.isAgg225
 z76 := Tryz.sizeOf225
 v76 := Tryz.zeroValue225
 t85 := Tryz.underlying291
 a85 := Tryz.isAgg291
 z85 := Tryz.sizeOf291
 v85 := Tryz.zeroValue291
 t127 := Tryz.underlying261
 a127 := Tryz.isAgg261
 z127 := Tryz.sizeOf261
 v127 := Tryz.zeroValue261
 t143 := Tryz.underlying305
 a143 := Tryz.isAgg305
 z143 := Tryz.sizeOf305
 v143 := Tryz.zeroValue305
 t145 := Tryz.underlying307
 a145 := Tryz.isAgg307
 z145 := Tryz.sizeOf307
 v145 := Tryz.zeroValue307
 t167 := Tryz.underlying290
 a167 := Tryz.isAgg290
 z167 := Tryz.sizeOf290
 v167 := Tryz.zeroValue290
 t168 := Tryz.underlying293
 a168 := Tryz.isAgg293
 z168 := Tryz.sizeOf293
 v168 := Tryz.zeroValue293
 t171 := Tryz.underlying255
 a171 := Tryz.isAgg255
 z171 := Tryz.sizeOf255
 v171 := Tryz.zeroValue255
 t173 := Tryz.underlying259
 a173 := Tryz.isAgg259
 z173 := Tryz.sizeOf259
 v173 := Tryz.zeroValue259
 t175 := Tryz.underlying298
 a175 := Tryz.isAgg298
 z175 := Tryz.sizeOf298
 v175 := Tryz.zeroValue298
 t210 := Tryz.underlying302
 a210 := Tryz.isAgg302
 z210 := Tryz.sizeOf302
 v210 := Tryz.zeroValue302
 t212 := Tryz.underlying275
 a212 := Tryz.isAgg275
 z212 := Tryz.sizeOf275
 v212 := Tryz.zeroValue275
 t213 := Tryz.underlying277
 a213 := Tryz.isAgg277
 z213 := Tryz.sizeOf277
 t232 := Tryz.underlying296
 a232 := Tryz.isAgg296
 z232 := Tryz.sizeOf296
 v232 := Tryz.zeroValue296
 t233 := Tryz.underlying297
 a233 := Tryz.isAgg297
 z233 := Tryz.sizeOf297
 v233 := Tryz.zeroValue297
 g15 := by kernel_rfl
 g16 := by kernel_rfl
 g17 := by kernel_rfl
 g18 := by kernel_rfl
 g19 := by kernel_rfl
 t80 := Tryz.underlying227
 a80 := Tryz.isAgg227
 z80 := Tryz.sizeOf227
 v80 := Tryz.zeroValue227
 i0 := by kernel_rfl
 i2 := by kernel_rfl
 i3 := by kernel_rfl
 i4 := by kernel_rfl
 i5 := by kernel_rfl
 i9 := by kernel_rfl
 i20 := by kernel_rfl
 i21 := by kernel_rfl
 i37 := by kernel_rfl
 i46 := by kernel_rfl
 i51 := by kernel_rfl
 i53 := by kernel_rfl
 i75 := by kernel_rfl
 i76 := by kernel_rfl
 i80 := by kernel_rfl
 i85 := by kernel_rfl
 i127 := by kernel_rfl
 i143 := by kernel_rfl
 i145 := by kernel_rfl
 i167 := by kernel_rfl
 i168 := by kernel_rfl
 i171 := by kernel_rfl
 i173 := by kernel_rfl
 i175 := by kernel_rfl
 i210 := by kernel_rfl
 i212 := by kernel_rfl
 i232 := by kernel_rfl
 i233 := by kernel_rfl
 m15 := by kernel_rfl
 m16 := by kernel_rfl
 m17 := by kernel_rfl
 m18 := by kernel_rfl
 m19 := by kernel_rfl
 c0 := by kernel_rfl
 c2 := by kernel_rfl
 c3 := by kernel_rfl
 c4 := by kernel_rfl
 c5 := by kernel_rfl
 c9 := by kernel_rfl
 c20 := by kernel_rfl
 c21 := by kernel_rfl
 c37 := by kernel_rfl
 c46 := by kernel_rfl
 c51 := by kernel_rfl
 c53 := by kernel_rfl
 c75 := by kernel_rfl
 c76 := by kernel_rfl
 c80 := by kernel_rfl
 c85 := by kernel_rfl
 c127 := by kernel_rfl
 c143 := by kernel_rfl
 c145 := by kernel_rfl
 c167 := by kernel_rfl
 c168 := by kernel_rfl
 c171 := by kernel_rfl
 c173 := by kernel_rfl
 c175 := by kernel_rfl
 c210 := by kernel_rfl
 c212 := by kernel_rfl
 c213 := by kernel_rfl
 c232 := by kernel_rfl
 c233 := by kernel_rfl }
open Go.RowKit in
theorem Tryz.strconv_Atoi_ok (s : ByteArray) (hmax : s.size ≤ 9223372036854775806) (v : Int) (h : Lib.atoiAll s.data.toList = .ok v) (w : World) :
  Calls Tryz.prog 217 #[.string s] w fun e w' => e = .returned (.tuple #[.int .i64 v, .nilIface]) ∧ (w' = w ∨ ∃ t, w' = Lib.bytesWorld w 5 t) := Any.strconv_Atoi_ok Tryz.laysC172 s hmax v h w
open Go.RowKit in
open Go.RowKit in
open Go.RowKit in
open Go.RowKit in
theorem Tryz.strconv_Atoi_range_var (s : ByteArray) (hlim : s.size ≤ 281474976710656) (h : Lib.atoiAll s.data.toList = .range) (tp : TypeId) (p : Value) (w : World) (hvar : w.var? Tryz.prog "strconv.ErrRange" = some #[.iface tp p]) :
  Calls Tryz.prog 217 #[.string s] w fun e w' => ∃ N, e = .returned (.tuple #[.int .i64 (Lib.atoiSat s.data.toList), .iface 293 (.pointer (some ⟨N, 0, none⟩))]) ∧ w.heap.size ≤ N ∧ w'.heap[N]? = some (.cells #[.string ⟨#[65, 116, 111, 105]⟩, .string s, .iface tp p] 302 (0, 0)) ∧ Below w.heap.size w w' := Any.strconv_Atoi_range_var Tryz.laysC172 s hlim h tp p w hvar
end Go.Proofs
namespace Go.GrainU
open Go.RowKit
theorem grown_of_below {w w' : World} (hb : Below w.heap.size w w') : w.grownBy w' none := ⟨hb.os, hb.tape, hb.output, hb.size, fun k hk _ => hb.block k hk⟩
theorem grown_call {W V w' : World} {r : Option Nat} (h : W.grownBy V r) (hb : Below V.heap.size V w') : W.grownBy w' r := grown_trans h (grown_of_below hb) (fun k hk => by cases hk)
end Go.GrainU
namespace Go.Proofs.YtoldmigappbjcaaGreatDoor
open Go.RowKit Go.GrainU
set_option maxHeartbeats 1000000 in
theorem nindex_any (ks : List ByteArray) (x : ByteArray) (bo : Option Addr) (m c : Nat) (w : World) (hb : Seg w bo (wcells ks)) (hm : m = ks.length) (hM : m ≤ 9223372036854775807) :
  Calls Tryz.prog 223 #[.slice bo m c, .string x] w fun e w' => (∃ i : Int, e = .returned (.int .i64 i) ∧ decide (0 ≤ i) = has ks x) ∧ w' = w := by
 have HM := hide hm
 clear hm
 go_enter Tryz.func223, Tryz.ntmps223
 go_wp2
 go_loopw [8] (fun i wr => ∃ k : Nat, k ≤ m ∧ i = .int .i64 k ∧ Hid (∀ i, i < k → ks.getD i ⟨#[]⟩ ≠ x) ∧ wr = w) (fun i _ => m - (intOf i).toNat)
 case atStart => exact ⟨0, Nat.zero_le _, rfl, fun i h => by omega, rfl⟩
 case round =>
  obtain ⟨k, hk, rfl, HJ, rfl⟩ := hrel
  by_cases hlt : k < m
  ·have hjl : k < ks.length := by rw [← HM.out]; exact hlt
   obtain ⟨b2, off2, rfl, hbl2, hcell2⟩ := seg_word hb hjl
   obtain ⟨z, hz⟩ : ∃ z, z = ks.getD k ⟨#[]⟩ := ⟨_, rfl⟩
   have e0 : wr.cell? ⟨b2, off2 + k, none⟩ = some (.string z) := by rw [hz]; exact hcell2 k hjl
   have Hz := hide hz
   have Hjl := hide hjl
   clear hz hcell2 hjl
   by_cases ez : x = z
   ·subst ez
    obtain ⟨v1, v2⟩ := word_self x
    go_wp2
    go_ret
    exact ⟨⟨_, rfl, by rw [has_at Hjl.out Hz.out.symm]; simp⟩, rfl⟩
   ·obtain ⟨v1, v2⟩ := word_ne ez
    have HJ' : Hid (∀ i, i < k + 1 → ks.getD i ⟨#[]⟩ ≠ x) := by
     intro i hi'
     rcases (show i < k ∨ i = k from by omega) with h | h
     ·exact HJ.out i h
     ·subst h; rw [← Hz.out]; exact Ne.symm ez
    clear HJ ez
    go_wp2
    go_roundw
    case rel => exact ⟨k + 1, by omega, by go_num, HJ', by first | rfl | trivial⟩
    case measure => simp [intOf]; omega
  ·go_wp2
   go_ret
   exact ⟨⟨_, rfl, by rw [has_none (fun i hi' => HJ.out i (by have := HM.out; omega))]; decide⟩, rfl⟩
theorem ncont_any (ks : List ByteArray) (x : ByteArray) (bo : Option Addr) (m c : Nat) (w : World) (hb : Seg w bo (wcells ks)) (hm : m = ks.length) (hM : m ≤ 9223372036854775807) :
  Calls Tryz.prog 194 #[.slice bo m c, .string x] w fun e w' => e = .returned (.bool (has ks x)) ∧ w' = w := by
 have HM := hide hm
 clear hm
 obtain ⟨D, hD⟩ : ∃ D, D = has ks x := ⟨_, rfl⟩
 rw [← hD]
 have HD := hide hD
 clear hD
 go_enter Tryz.func194, Tryz.ntmps194
 go_wp2_with fail
 refine (nindex_any ks x bo m c w hb HM.out hM).mono ?_
 rintro e w1 ⟨⟨i, rfl, hi⟩, hw⟩
 rw [hw]
 rw [← HD.out] at hi
 go_wp2
 go_ret
 exact ⟨rfl, rfl⟩
end Go.Proofs.YtoldmigappbjcaaGreatDoor
