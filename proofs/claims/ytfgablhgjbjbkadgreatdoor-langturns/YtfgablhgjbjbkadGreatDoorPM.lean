/-
  A text read as an expression. No program is named here.
-/
import Derived.Test.YtfgablhgjbjbkadGreatDoorExT
import Derived.Lib.AtoiAll
namespace Go.GrainU
open Go.RowKit

/-- what is left to read, and how many expressions have ended -/
structure St where
  r : List UInt8
  n : Nat

/-- a fault: what, and how much is left where it is -/
abbrev Flt := Int × Nat

def letter (b : UInt8) : Bool := decide (97 ≤ b.toNat) && decide (b.toNat ≤ 122)
def digit (b : UInt8) : Bool := decide (48 ≤ b.toNat) && decide (b.toNat ≤ 57)
def wbyte (b : UInt8) : Bool := letter b || (digit b || b == 95)

def skip (r : List UInt8) : List UInt8 := r.dropWhile (fun b => b == 32)
def acc (sg r : List UInt8) : Option (List UInt8) := if sg.isPrefixOf (skip r) = true then some ((skip r).drop sg.length) else none
def expe (sg r : List UInt8) : Except Flt (List UInt8) := match acc sg r with
  | some r' => .ok r'
  | none => .error (2, (skip r).length)
def nxt (r : List UInt8) : UInt8 := (skip r).headD 0
def anyW (r : List UInt8) : List UInt8 × List UInt8 := if letter (nxt r) = true then ((skip r).takeWhile wbyte, (skip r).dropWhile wbyte) else ([], r)
def wrd (r : List UInt8) : Except Flt (List UInt8 × List UInt8) :=
  if (anyW r).1 = [] then .error (2, (skip r).length) else if 12 < (anyW r).1.length then .error (7, (skip r).length) else .ok (anyW r)
def wrdOf (may : List ByteArray) (r : List UInt8) : Except Flt (List UInt8 × List UInt8) := match wrd r with
  | .error e => .error e
  | .ok p => if has may (lit p.1) = true then .ok p else .error (7, (skip r).length)
def numOk (least most : Int) (d : List UInt8) (n : Int) : Bool := !(decide (1 < d.length) && d.headD 0 == 48) && (decide (least ≤ n) && decide (n ≤ most))
def numb (least most : Int) (r : List UInt8) : Except Flt (Int × List UInt8) :=
  if (skip r).takeWhile digit = [] then .error (2, (skip r).length) else
  match Go.Lib.atoiAll ((skip r).takeWhile digit) with
  | .ok n => if numOk least most ((skip r).takeWhile digit) n = true then .ok (n, (skip r).dropWhile digit) else .error (3, (skip r).length)
  | _ => .error (3, (skip r).length)
def byW (r : List UInt8) : Except Flt (List UInt8) := if (anyW r).1 = [98, 121] then .ok (anyW r).2 else .error (2, (skip r).length)

def lstF {α : Type} (part : List UInt8 → Except Flt (α × List UInt8)) (most : Nat) : Nat → List α → List UInt8 → Except Flt (List α × List UInt8)
  | 0, l, r => .ok (l, r)
  | k + 1, l, r => match acc [44] r with
    | none => .ok (l, r)
    | some r1 => if l.length = most then .error (5, r1.length) else match part r1 with
      | .error e => .error e
      | .ok (a, r2) => lstF part most k (l ++ [a]) r2
def lst {α : Type} (part : List UInt8 → Except Flt (α × List UInt8)) (most : Nat) (r : List UInt8) : Except Flt (List α × List UInt8) := match part r with
  | .error e => .error e
  | .ok (a, r1) => lstF part most most [a] r1

def mtc (r : List UInt8) : Except Flt (Mt × List UInt8) := match acc [33] r with
  | some r1 => match wrd r1 with
    | .error e => .error e
    | .ok (k, r2) => .ok (⟨4, lit k, lit []⟩, r2)
  | none => match wrd r with
    | .error e => .error e
    | .ok (k, r2) => match acc [61] r2 with
      | some r3 => match wrd r3 with
        | .error e => .error e
        | .ok (v, r4) => .ok (⟨1, lit k, lit v⟩, r4)
      | none => match acc [33, 61] r2 with
        | some r3 => match wrd r3 with
          | .error e => .error e
          | .ok (v, r4) => .ok (⟨2, lit k, lit v⟩, r4)
        | none => .ok (⟨3, lit k, lit []⟩, r2)

def fin (e : Ex) (st : St) : Except Flt (Ex × St) := if 100 < st.n + 1 then .error (4, st.r.length) else .ok (e, ⟨st.r, st.n + 1⟩)

/-- the matches of a window, behind its { -/
def wnM (r : List UInt8) : Except Flt (List Mt × List UInt8) := match acc [125] r with
  | some r1 => .ok ([], r1)
  | none => match lst mtc 5 r with
    | .error e => .error e
    | .ok (l, r1) => match expe [125] r1 with
      | .error e => .error e
      | .ok r2 => .ok (l, r2)
/-- a window, behind its word -/
def wnd (w : ByteArray) (st : St) : Except Flt (Ex × St) := match expe [40] st.r with
  | .error e => .error e
  | .ok r1 => match expe [123] r1 with
    | .error e => .error e
    | .ok r2 => match wnM r2 with
      | .error e => .error e
      | .ok (l, r3) => match expe [91] r3 with
        | .error e => .error e
        | .ok r4 => match numb 1 100000 r4 with
          | .error e => .error e
          | .ok (n, r5) => match expe [93] r5 with
            | .error e => .error e
            | .ok r6 => match expe [41] r6 with
              | .error e => .error e
              | .ok r7 => fin (.mk ⟨2, 0, n, w, l, []⟩ []) ⟨r7, st.n⟩

def words1 (r : List UInt8) : Except Flt (ByteArray × List UInt8) := match wrd r with
  | .error e => .error e
  | .ok (w, r1) => .ok (lit w, r1)
/-- the keys of an all, behind its word -/
def alB (r : List UInt8) : Except Flt (List ByteArray × List UInt8) := match acc [40] r with
  | some r1 => .ok ([], r1)
  | none => match byW r with
    | .error e => .error e
    | .ok r1 => match lst words1 4 r1 with
      | .error e => .error e
      | .ok (l, r2) => match expe [40] r2 with
        | .error e => .error e
        | .ok r3 => .ok (l, r3)
def al (sub : St → Except Flt (Ex × St)) (st : St) : Except Flt (Ex × St) := match wrdOf totals4 st.r with
  | .error e => .error e
  | .ok (w, r1) => match alB r1 with
    | .error e => .error e
    | .ok (bs, r2) => match sub ⟨r2, st.n⟩ with
      | .error e => .error e
      | .ok (e, s1) => match expe [41] s1.r with
        | .error e => .error e
        | .ok r3 => fin (.mk ⟨3, 0, 0, lit w, [], bs⟩ [e]) ⟨r3, s1.n⟩

def accAny : List (List UInt8) → List UInt8 → Option (List UInt8 × List UInt8)
  | [], _ => none
  | s :: l, r => match acc s r with
    | some r1 => some (s, r1)
    | none => accAny l r

def chnF (part : St → Except Flt (Ex × St)) (signs : List (List UInt8)) : Nat → Ex → St → Except Flt (Ex × St)
  | 0, e, st => .ok (e, st)
  | k + 1, e, st => match accAny signs st.r with
    | none => .ok (e, st)
    | some (sg, r1) => match part ⟨r1, st.n⟩ with
      | .error x => .error x
      | .ok (f, s1) => match fin (.mk ⟨4, 0, 0, lit sg, [], []⟩ [e, f]) s1 with
        | .error x => .error x
        | .ok (g, s2) => chnF part signs k g s2
def chn (part : St → Except Flt (Ex × St)) (signs : List (List UInt8)) (st : St) : Except Flt (Ex × St) := match part st with
  | .error e => .error e
  | .ok (e, s1) => chnF part signs (s1.r.length + 1) e s1
def trm (f : St → Except Flt (Ex × St)) : St → Except Flt (Ex × St) := chn f [[42]]
def smm (f : St → Except Flt (Ex × St)) : St → Except Flt (Ex × St) := chn (trm f) [[43], [45]]

def wordAll : List UInt8 := [97, 108, 108]
/-- a factor: so many brackets may still be opened -/
def fct : Nat → St → Except Flt (Ex × St)
  | 0, st => .error (4, st.r.length)
  | k + 1, st => match acc [40] st.r with
    | some r1 => match smm (fct k) ⟨r1, st.n⟩ with
      | .error e => .error e
      | .ok (e, s1) => match expe [41] s1.r with
        | .error e => .error e
        | .ok r2 => .ok (e, ⟨r2, s1.n⟩)
    | none => if digit (nxt st.r) = true then match numb 0 1000000 st.r with
        | .error e => .error e
        | .ok (n, r1) => fin (.mk ⟨1, n, 0, lit [], [], []⟩ []) ⟨r1, st.n⟩
      else match wrdOf (words8 ++ [lit wordAll]) st.r with
        | .error e => .error e
        | .ok (w, r1) => if w = wordAll then al (smm (fct k)) ⟨r1, st.n⟩ else wnd (lit w) ⟨r1, st.n⟩

mutual
/-- more than so many within each other -/
def dpr : Ex → Nat → Bool
  | .mk _ _, 0 => true
  | .mk _ kids, k + 1 => dprL kids k
def dprL : List Ex → Nat → Bool
  | [], _ => false
  | x :: l, k => dpr x k || dprL l k
end

/-- a text's expression -/
def prs (s : List UInt8) : Except Flt Ex :=
  if 2000 < s.length then .error (4, s.length) else match smm (fct 20) ⟨s, 0⟩ with
  | .error e => .error e
  | .ok (e, st) => if skip st.r ≠ [] then .error (2, (skip st.r).length) else if dpr e 20 = true then .error (4, 0) else .ok e

end Go.GrainU
