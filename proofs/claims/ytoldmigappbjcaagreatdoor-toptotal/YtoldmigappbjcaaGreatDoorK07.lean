import Derived.Lib.AtoiAll
import Derived.Test.YtoldmigappbjcaaGreatDoorK06
namespace Go.GrainU
open Go.RowKit
structure St where
 r:List UInt8
 n:Nat
abbrev Flt:=Int×Nat
def letter (b:UInt8):Bool:=decide (97≤b.toNat) && decide (b.toNat≤122)
def digit (b:UInt8):Bool:=decide (48≤b.toNat) && decide (b.toNat≤57)
def wbyte (b:UInt8):Bool:=letter b || (digit b || b == 95)
def skip (r:List UInt8):List UInt8:=r.dropWhile (fun b=>b == 32)
def acc (sg r:List UInt8):Option (List UInt8):=if sg.isPrefixOf (skip r)=true then some ((skip r).drop sg.length) else none
def expe (sg r:List UInt8):Except Flt (List UInt8):=match acc sg r with
 | some r'=>.ok r'
 | none=>.error (2,(skip r).length)
def nxt (r:List UInt8):UInt8:=(skip r).headD 0
def anyW (r:List UInt8):List UInt8×List UInt8:=if letter (nxt r)=true then ((skip r).takeWhile wbyte,(skip r).dropWhile wbyte) else ([],r)
def wrd (r:List UInt8):Except Flt (List UInt8×List UInt8) :=
 if (anyW r).1=[] then .error (2,(skip r).length) else if 12<(anyW r).1.length then .error (7,(skip r).length) else .ok (anyW r)
def wrdOf (may:List ByteArray) (r:List UInt8):Except Flt (List UInt8×List UInt8):=match wrd r with
 | .error e=>.error e
 | .ok p=>if has may (lit p.1)=true then .ok p else .error (7,(skip r).length)
def numOk (least most:Int) (d:List UInt8) (n:Int):Bool:=!(decide (1<d.length) && d.headD 0 == 48) && (decide (least≤n) && decide (n≤most))
def numb (least most:Int) (r:List UInt8):Except Flt (Int×List UInt8) :=
 if (skip r).takeWhile digit=[] then .error (2,(skip r).length) else
 match Go.Lib.atoiAll ((skip r).takeWhile digit) with
 | .ok n=>if numOk least most ((skip r).takeWhile digit) n=true then .ok (n,(skip r).dropWhile digit) else .error (3,(skip r).length)
 | _=>.error (3,(skip r).length)
def byW (r:List UInt8):Except Flt (List UInt8):=if (anyW r).1=[98,121] then .ok (anyW r).2 else .error (2,(skip r).length)
def lstF {α:Type} (part:List UInt8→Except Flt (α×List UInt8)) (most:Nat):Nat→List α→List UInt8→Except Flt (List α×List UInt8)
 | 0,l,r=>.ok (l,r)
 | k+1,l,r=>match acc [44] r with
  | none=>.ok (l,r)
  | some r1=>if l.length=most then .error (5,r1.length) else match part r1 with
   | .error e=>.error e
   | .ok (a,r2)=>lstF part most k (l++[a]) r2
def lst {α:Type} (part:List UInt8→Except Flt (α×List UInt8)) (most:Nat) (r:List UInt8):Except Flt (List α×List UInt8):=match part r with
 | .error e=>.error e
 | .ok (a,r1)=>lstF part most most [a] r1
def mtc (r:List UInt8):Except Flt (Mt×List UInt8):=match acc [33] r with
 | some r1=>match wrd r1 with
  | .error e=>.error e
  | .ok (k,r2)=>.ok (⟨4,lit k,lit []⟩,r2)
 | none=>match wrd r with
  | .error e=>.error e
  | .ok (k,r2)=>match acc [61] r2 with
   | some r3=>match wrd r3 with
    | .error e=>.error e
    | .ok (v,r4)=>.ok (⟨1,lit k,lit v⟩,r4)
   | none=>match acc [33,61] r2 with
    | some r3=>match wrd r3 with
     | .error e=>.error e
     | .ok (v,r4)=>.ok (⟨2,lit k,lit v⟩,r4)
    | none=>.ok (⟨3,lit k,lit []⟩,r2)
def fin (e:Ex) (st:St):Except Flt (Ex×St):=if 100<st.n+1 then .error (4,st.r.length) else .ok (e,⟨st.r,st.n+1⟩)
def wnM (r:List UInt8):Except Flt (List Mt×List UInt8):=match acc [125] r with
 | some r1=>.ok ([],r1)
 | none=>match lst mtc 5 r with
  | .error e=>.error e
  | .ok (l,r1)=>match expe [125] r1 with
   | .error e=>.error e
   | .ok r2=>.ok (l,r2)
def wnd (w:ByteArray) (st:St):Except Flt (Ex×St):=match expe [40] st.r with
 | .error e=>.error e
 | .ok r1=>match expe [123] r1 with
  | .error e=>.error e
  | .ok r2=>match wnM r2 with
   | .error e=>.error e
   | .ok (l,r3)=>match expe [91] r3 with
    | .error e=>.error e
    | .ok r4=>match numb 1 100000 r4 with
     | .error e=>.error e
     | .ok (n,r5)=>match expe [93] r5 with
      | .error e=>.error e
      | .ok r6=>match expe [41] r6 with
       | .error e=>.error e
       | .ok r7=>fin (.mk ⟨2,0,n,w,l,[]⟩ []) ⟨r7,st.n⟩
def words1 (r:List UInt8):Except Flt (ByteArray×List UInt8):=match wrd r with
 | .error e=>.error e
 | .ok (w,r1)=>.ok (lit w,r1)
def alB (r:List UInt8):Except Flt (List ByteArray×List UInt8):=match acc [40] r with
 | some r1=>.ok ([],r1)
 | none=>match byW r with
  | .error e=>.error e
  | .ok r1=>match lst words1 4 r1 with
   | .error e=>.error e
   | .ok (l,r2)=>match expe [40] r2 with
    | .error e=>.error e
    | .ok r3=>.ok (l,r3)
def al (sub:St→Except Flt (Ex×St)) (st:St):Except Flt (Ex×St):=match wrdOf totals4 st.r with
 | .error e=>.error e
 | .ok (w,r1)=>match alB r1 with
  | .error e=>.error e
  | .ok (bs,r2)=>match sub ⟨r2,st.n⟩ with
   | .error e=>.error e
   | .ok (e,s1)=>match expe [41] s1.r with
    | .error e=>.error e
    | .ok r3=>fin (.mk ⟨3,0,0,lit w,[],bs⟩ [e]) ⟨r3,s1.n⟩
def accAny:List (List UInt8)→List UInt8→Option (List UInt8×List UInt8)
 | [],_=>none
 | s::l,r=>match acc s r with
  | some r1=>some (s,r1)
  | none=>accAny l r
def chnF (part:St→Except Flt (Ex×St)) (signs:List (List UInt8)):Nat→Ex→St→Except Flt (Ex×St)
 | 0,e,st=>.ok (e,st)
 | k+1,e,st=>match accAny signs st.r with
  | none=>.ok (e,st)
  | some (sg,r1)=>match part ⟨r1,st.n⟩ with
   | .error x=>.error x
   | .ok (f,s1)=>match fin (.mk ⟨4,0,0,lit sg,[],[]⟩ [e,f]) s1 with
    | .error x=>.error x
    | .ok (g,s2)=>chnF part signs k g s2
def chn (part:St→Except Flt (Ex×St)) (signs:List (List UInt8)) (st:St):Except Flt (Ex×St):=match part st with
 | .error e=>.error e
 | .ok (e,s1)=>chnF part signs (s1.r.length+1) e s1
def trm (f:St→Except Flt (Ex×St)):St→Except Flt (Ex×St):=chn f [[42]]
def smm (f:St→Except Flt (Ex×St)):St→Except Flt (Ex×St):=chn (trm f) [[43],[45]]
def wordAll:List UInt8:=[97,108,108]
def fct:Nat→St→Except Flt (Ex×St)
 | 0,st=>.error (4,st.r.length)
 | k+1,st=>match acc [40] st.r with
  | some r1=>match smm (fct k) ⟨r1,st.n⟩ with
   | .error e=>.error e
   | .ok (e,s1)=>match expe [41] s1.r with
    | .error e=>.error e
    | .ok r2=>.ok (e,⟨r2,s1.n⟩)
  | none=>if digit (nxt st.r)=true then match numb 0 1000000 st.r with
    | .error e=>.error e
    | .ok (n,r1)=>fin (.mk ⟨1,n,0,lit [],[],[]⟩ []) ⟨r1,st.n⟩
   else match wrdOf (words8++[lit wordAll]) st.r with
    | .error e=>.error e
    | .ok (w,r1)=>if w=wordAll then al (smm (fct k)) ⟨r1,st.n⟩ else wnd (lit w) ⟨r1,st.n⟩
mutual
/-- more than so many within each other -/
def dpr:Ex→Nat→Bool
 | .mk _ _,0=>true
 | .mk _ kids,k+1=>dprL kids k
def dprL:List Ex→Nat→Bool
 | [],_=>false
 | x::l,k=>dpr x k || dprL l k
end
def prs (s:List UInt8):Except Flt Ex :=
 if 2000<s.length then .error (4,s.length) else match smm (fct 20) ⟨s,0⟩ with
 | .error e=>.error e
 | .ok (e,st)=>if skip st.r≠[] then .error (2,(skip st.r).length) else if dpr e 20=true then .error (4,0) else .ok e
open Go.RowKit
theorem skip_le (r:List UInt8):(skip r).length≤r.length:=(List.dropWhile_suffix _).length_le
theorem acc_le {sg r r':List UInt8} (h:acc sg r=some r'):r'.length≤r.length:=by
 unfold acc at h
 split at h
 ·rw [← Option.some.inj h,List.length_drop];have:=skip_le r;omega
 ·cases h
theorem expe_le {sg r r':List UInt8} (h:expe sg r=.ok r'):r'.length≤r.length:=by
 unfold expe at h
 split at h
 ·rename_i r2 ha;injection h with h;rw [← h];exact acc_le ha
 ·cases h
theorem anyW_le (r:List UInt8):(anyW r).2.length≤r.length:=by
 unfold anyW
 split
 ·exact Nat.le_trans (List.dropWhile_suffix _).length_le (skip_le r)
 ·exact Nat.le_refl _
theorem wrd_le {r x r':List UInt8} (h:wrd r=.ok (x,r')):r'.length≤r.length:=by
 unfold wrd at h
 split at h
 ·cases h
 ·split at h
  ·cases h
  ·injection h with h
   have:=anyW_le r
   rw [h] at this
   exact this
theorem wrdOf_le {may:List ByteArray} {r x r':List UInt8} (h:wrdOf may r=.ok (x,r')):r'.length≤r.length:=by
 unfold wrdOf at h
 split at h
 ·cases h
 ·rename_i p hp
  split at h
  ·injection h with h;rw [h] at hp;exact wrd_le hp
  ·cases h
theorem numb_le {a b:Int} {r r':List UInt8} {n:Int} (h:numb a b r=.ok (n,r')):r'.length≤r.length:=by
 unfold numb at h
 split at h
 ·cases h
 ·split at h
  ·split at h
   ·injection h with h
    simp at h
    rw [← h.2]
    exact Nat.le_trans (List.dropWhile_suffix _).length_le (skip_le r)
   ·cases h
  ·cases h
theorem byW_le {r r':List UInt8} (h:byW r=.ok r'):r'.length≤r.length:=by
 unfold byW at h
 split at h
 ·injection h with h;rw [← h];exact anyW_le r
 ·cases h
theorem lstF_le {α:Type} {part:List UInt8→Except Flt (α×List UInt8)} (hp:∀ r a r',part r=.ok (a,r')→r'.length≤r.length) {most:Nat}:∀ (k:Nat) (l:List α) (r:List UInt8) (l':List α) (r':List UInt8),lstF part most k l r=.ok (l',r')→r'.length≤r.length:=by
 intro k
 induction k with
 | zero=>intro l r l' r' h;simp [lstF] at h;rw [← h.2];exact Nat.le_refl _
 | succ k ih =>
  intro l r l' r' h
  rw [lstF] at h
  split at h
  ·injection h with h;simp at h;rw [← h.2];exact Nat.le_refl _
  ·rename_i r1 ha
   have h1:=acc_le ha
   split at h
   ·cases h
   ·split at h
    ·cases h
    ·rename_i a r2 hq
     have h2:=hp _ _ _ hq
     have h3:=ih _ _ _ _ h
     omega
theorem lst_le {α:Type} {part:List UInt8→Except Flt (α×List UInt8)} (hp:∀ r a r',part r=.ok (a,r')→r'.length≤r.length) {most:Nat} {r:List UInt8} {l:List α} {r':List UInt8} (h:lst part most r=.ok (l,r')):r'.length≤r.length:=by
 unfold lst at h
 split at h
 ·cases h
 ·rename_i a r1 hq
  have h1:=hp _ _ _ hq
  have h2:=lstF_le hp _ _ _ _ _ h
  omega
theorem mtc_le {r r':List UInt8} {m:Mt} (h:mtc r=.ok (m,r')):r'.length≤r.length:=by
 unfold mtc at h
 split at h
 ·rename_i r1 ha
  have h1:=acc_le ha
  split at h
  ·cases h
  ·rename_i k r2 hw
   have h2:=wrd_le hw
   injection h with h;simp at h;rw [← h.2];omega
 ·split at h
  ·cases h
  ·rename_i k r2 hw
   have h2:=wrd_le hw
   split at h
   ·rename_i r3 hb
    have h3:=acc_le hb
    split at h
    ·cases h
    ·rename_i v r4 hv
     have h4:=wrd_le hv
     injection h with h;simp at h;rw [← h.2];omega
   ·split at h
    ·rename_i r3 hb
     have h3:=acc_le hb
     split at h
     ·cases h
     ·rename_i v r4 hv
      have h4:=wrd_le hv
      injection h with h;simp at h;rw [← h.2];omega
    ·injection h with h;simp at h;rw [← h.2];exact h2
theorem words1_le {r r':List UInt8} {m:ByteArray} (h:words1 r=.ok (m,r')):r'.length≤r.length:=by
 unfold words1 at h
 split at h
 ·cases h
 ·rename_i w r1 hw
  injection h with h;simp at h;rw [← h.2];exact wrd_le hw
theorem fin_le {e g:Ex} {st q:St} (h:fin e st=.ok (g,q)):q.r.length≤st.r.length:=by
 unfold fin at h
 split at h
 ·cases h
 ·injection h with h;simp at h;rw [← h.2];exact Nat.le_refl _
theorem wnM_le {r r':List UInt8} {l:List Mt} (h:wnM r=.ok (l,r')):r'.length≤r.length:=by
 unfold wnM at h
 split at h
 ·rename_i r1 ha;injection h with h;simp at h;rw [← h.2];exact acc_le ha
 ·split at h
  ·cases h
  ·rename_i l1 r1 hl
   have h1:=lst_le (fun _ _ _ hh=>mtc_le hh) hl
   split at h
   ·cases h
   ·rename_i r2 he
    have h2:=expe_le he
    injection h with h;simp at h;rw [← h.2];omega
theorem wnd_le {w:ByteArray} {st q:St} {x:Ex} (h:wnd w st=.ok (x,q)):q.r.length≤st.r.length:=by
 unfold wnd at h
 split at h
 ·cases h
 ·rename_i r1 e1
  split at h
  ·cases h
  ·rename_i r2 e2
   split at h
   ·cases h
   ·rename_i l r3 e3
    split at h
    ·cases h
    ·rename_i r4 e4
     split at h
     ·cases h
     ·rename_i n r5 e5
      split at h
      ·cases h
      ·rename_i r6 e6
       split at h
       ·cases h
       ·rename_i r7 e7
        have:=fin_le h
        have:=expe_le e1;have:=expe_le e2;have:=wnM_le e3;have:=expe_le e4;have:=numb_le e5;have:=expe_le e6;have:=expe_le e7
        simp only at *
        omega
theorem alB_le {r r':List UInt8} {l:List ByteArray} (h:alB r=.ok (l,r')):r'.length≤r.length:=by
 unfold alB at h
 split at h
 ·rename_i r1 ha;injection h with h;simp at h;rw [← h.2];exact acc_le ha
 ·split at h
  ·cases h
  ·rename_i r1 hb
   have h1:=byW_le hb
   split at h
   ·cases h
   ·rename_i l1 r2 hl
    have h2:=lst_le (fun _ _ _ hh=>words1_le hh) hl
    split at h
    ·cases h
    ·rename_i r3 he
     have h3:=expe_le he
     injection h with h;simp at h;rw [← h.2];omega
theorem al_le {sub:St→Except Flt (Ex×St)} (hs:∀ st x q,sub st=.ok (x,q)→q.r.length≤st.r.length) {st q:St} {x:Ex} (h:al sub st=.ok (x,q)):q.r.length≤st.r.length:=by
 unfold al at h
 split at h
 ·cases h
 ·rename_i w r1 e1
  split at h
  ·cases h
  ·rename_i bs r2 e2
   split at h
   ·cases h
   ·rename_i e s1 e3
    split at h
    ·cases h
    ·rename_i r3 e4
     have:=fin_le h
     have:=wrdOf_le e1;have:=alB_le e2;have:=hs _ _ _ e3;have:=expe_le e4
     simp only at *
     omega
theorem accAny_le {l:List (List UInt8)} {r x r1:List UInt8} (h:accAny l r=some (x,r1)):r1.length≤r.length:=by
 induction l with
 | nil=>simp [accAny] at h
 | cons a t ih =>
  rw [accAny] at h
  split at h
  ·rename_i r2 ha;simp at h;rw [← h.2];exact acc_le ha
  ·exact ih h
theorem chnF_le {p:St→Except Flt (Ex×St)} (hp:∀ st x q,p st=.ok (x,q)→q.r.length≤st.r.length) {sg:List (List UInt8)}:∀ (k:Nat) (e:Ex) (st:St) (x:Ex) (q:St),chnF p sg k e st=.ok (x,q)→q.r.length≤st.r.length:=by
 intro k
 induction k with
 | zero=>intro e st x q h;simp [chnF] at h;rw [← h.2];exact Nat.le_refl _
 | succ k ih =>
  intro e st x q h
  rw [chnF] at h
  split at h
  ·injection h with h;simp at h;rw [← h.2];exact Nat.le_refl _
  ·rename_i s1 r1 ha
   have h1:=accAny_le ha
   split at h
   ·cases h
   ·rename_i f s2 hq
    have h2:=hp _ _ _ hq
    split at h
    ·cases h
    ·rename_i g s3 hf
     have h3:=fin_le hf
     have h4:=ih _ _ _ _ h
     simp only at *
     omega
theorem chn_le {p:St→Except Flt (Ex×St)} (hp:∀ st x q,p st=.ok (x,q)→q.r.length≤st.r.length) {sg:List (List UInt8)}:∀ (st:St) (x:Ex) (q:St),chn p sg st=.ok (x,q)→q.r.length≤st.r.length:=by
 intro st x q h
 unfold chn at h
 split at h
 ·cases h
 ·rename_i e s1 hq
  have h1:=hp _ _ _ hq
  have h2:=chnF_le hp _ _ _ _ _ h
  omega
theorem fct_le:∀ (k:Nat) (st:St) (x:Ex) (q:St),fct k st=.ok (x,q)→q.r.length≤st.r.length:=by
 intro k
 induction k with
 | zero=>intro st x q h;simp [fct] at h
 | succ k ih =>
  have hsm:∀ st x q,smm (fct k) st=.ok (x,q)→q.r.length≤st.r.length:=chn_le (chn_le ih)
  intro st x q h
  rw [fct] at h
  split at h
  ·rename_i r1 ha
   have h1:=acc_le ha
   split at h
   ·cases h
   ·rename_i e s1 hq
    have h2:=hsm _ _ _ hq
    split at h
    ·cases h
    ·rename_i r2 he
     have h3:=expe_le he
     injection h with h;simp at h;rw [← h.2];simp only at *;omega
  ·split at h
   ·split at h
    ·cases h
    ·rename_i n r1 hn
     have h1:=numb_le hn
     have h2:=fin_le h
     simp only at *
     omega
   ·split at h
    ·cases h
    ·rename_i w r1 hw
     have h1:=wrdOf_le hw
     split at h
     ·have h2:=al_le hsm h;simp only at *;omega
     ·have h2:=wnd_le h;simp only at *;omega
open Go.RowKit
def bl (s:ByteArray):List UInt8:=s.data.toList
theorem bl_lit (l:List UInt8):bl (lit l)=l:=by simp [bl,lit]
def wordy (l:List UInt8):Prop:=∃ c t,l=c::t∧letter c=true∧t.all wbyte=true∧t.length≤11
theorem fine_of {s:ByteArray}:∀ n,(∀ k,k<n→Grain.badN k (Grain.byt s k)=false)→Grain.fineN s n=true:=by
 intro n
 induction n with
 | zero=>intro _;rfl
 | succ n ih =>
  intro h
  simp only [Grain.fineN,Bool.and_eq_true,Bool.not_eq_true']
  exact ⟨ih fun k hk=>h k (by omega),h n (by omega)⟩
theorem low_letter (c:UInt8):Grain.low (c.toNat:Int)=letter c:=by
 unfold Grain.low letter
 congr 1
 ·exact decide_eq_decide.2 (by omega)
 ·exact decide_eq_decide.2 (by omega)
theorem badN_zero (c:UInt8):Grain.badN 0 (c.toNat:Int)=false↔letter c=true:=by
 unfold Grain.badN
 rw [low_letter]
 cases letter c <;> simp
theorem badN_succ (k:Nat) (c:UInt8):Grain.badN (k+1) (c.toNat:Int)=false↔wbyte c=true:=by
 unfold Grain.badN wbyte
 rw [low_letter]
 cases letter c with
 | true=>simp
 | false =>
  unfold digit
  simp
  by_cases e:c.toNat=95
  ·have:c=95:=by apply UInt8.toNat_inj.1;exact e
   simp [this]
  ·have:c≠95:=fun h=>e (by rw [h];rfl)
   simp [this]
   omega
theorem bytL_at {s:ByteArray} {k:Nat} {c:UInt8} (h:(bl s)[k]?=some c):Grain.byt s k=(c.toNat:Int):=by
 unfold Grain.byt
 unfold bl at h
 rw [List.getD_eq_getElem?_getD,h]
 rfl
theorem wordy_named {x:List UInt8} (h:wordy x):Grain.named (lit x)=true:=by
 obtain ⟨c,t,rfl,h1,h2,h3⟩:=h
 have hs:(lit (c::t)).size=t.length+1:=by rw [lit_size];rfl
 unfold Grain.named
 simp only [Bool.and_eq_true,decide_eq_true_eq]
 refine ⟨fine_of _ ?_,by omega,by omega⟩
 intro k hk
 match k,hk with
 | 0,_ =>
  rw [bytL_at (c:=c) (by rw [bl_lit];rfl)]
  exact (badN_zero c).2 h1
 | k+1,hk =>
  have hk':k<t.length:=by omega
  rw [bytL_at (c:=t[k]) (by rw [bl_lit,List.getElem?_cons_succ,List.getElem?_eq_getElem hk'])]
  rw [List.all_eq_true] at h2
  exact (badN_succ k _).2 (h2 _ (List.getElem_mem hk'))
theorem take_sat (p:UInt8→Bool) (l:List UInt8):(l.takeWhile p).all p=true:=by
 induction l with
 | nil=>rfl
 | cons a r ih =>
  rw [List.takeWhile_cons]
  split
  ·rename_i h;simp [h,ih]
  ·rfl
theorem wrd_wordy {r x r':List UInt8} (h:wrd r=.ok (x,r')):wordy x:=by
 unfold wrd at h
 split at h
 ·cases h
 ·rename_i h0
  split at h
  ·cases h
  ·rename_i h1
   injection h with h
   have hx:(anyW r).1=x:=by rw [h]
   rw [hx] at h0 h1
   unfold anyW at hx
   split at hx
   ·rename_i hl
    simp only at hx
    cases hs:skip r with
    | nil=>rw [hs] at hx;simp at hx;exact absurd hx h0
    | cons c t =>
     have hc:letter c=true:=by unfold nxt at hl;rw [hs] at hl;simpa using hl
     rw [hs,List.takeWhile_cons,if_pos (by unfold wbyte;rw [hc];rfl)] at hx
     rw [← hx]
     refine ⟨c,_,rfl,hc,take_sat _ _,?_⟩
     rw [← hx] at h1
     simp at h1
     omega
   ·simp only at hx;exact absurd hx.symm h0
open Go.RowKit
def bareM (m:Mt):Mt:=if 2<m.kind then ⟨m.kind,m.key,lit []⟩ else m
def bareH (h:Hd):Hd :=
 if h.kind=1 then ⟨1,h.n,0,lit [],[],[]⟩
 else if h.kind=2 then ⟨2,0,h.range,h.word,h.ms.map bareM,[]⟩
 else if h.kind=3 then ⟨3,0,0,h.word,[],h.bs⟩
 else ⟨h.kind,0,0,h.word,[],[]⟩
mutual
/-- an expression,as it comes back -/
def bare:Ex→Ex
 | .mk h kids=>.mk (bareH h) (bareL kids)
def bareL:List Ex→List Ex
 | []=>[]
 | x::l=>bare x::bareL l
end
open Go.RowKit
theorem has_app {l m:List ByteArray} {x:ByteArray}:has (l++m) x=(has l x || has m x):=by unfold has;rw [List.any_append]
open Go.RowKit
theorem lstF_most {α:Type} {part:List UInt8→Except Flt (α×List UInt8)} {Q:α→Prop} (hp:∀ r a r',part r=.ok (a,r')→Q a) {most:Nat}:∀ (k:Nat) (l:List α) (r:List UInt8) (l':List α) (r':List UInt8),(∀ a∈l,Q a)→l.length≤most→lstF part most k l r=.ok (l',r')→(∀ a∈l',Q a)∧l'.length≤most:=by
 intro k
 induction k with
 | zero=>intro l r l' r' hl hm h;simp only [lstF] at h;injection h with h;simp at h;rw [← h.1];exact ⟨hl,hm⟩
 | succ k ih =>
  intro l r l' r' hl hm h
  unfold lstF at h
  cases ha:acc [44] r with
  | none=>rw [ha] at h;simp at h;rw [← h.1];exact ⟨hl,hm⟩
  | some r1 =>
   rw [ha] at h
   simp only at h
   split at h
   ·cases h
   ·rename_i hne
    cases hq:part r1 with
    | error f=>rw [hq] at h;cases h
    | ok x =>
     obtain ⟨a,r2⟩:=x
     rw [hq] at h
     simp only at h
     exact ih (l++[a]) r2 l' r' (fun b hb=>by
      rcases List.mem_append.1 hb with e | e
      ·exact hl b e
      ·rw [List.mem_singleton.1 e];exact hp r1 a r2 hq) (by simp;omega) h
theorem lst_most {α:Type} {part:List UInt8→Except Flt (α×List UInt8)} {Q:α→Prop} (hp:∀ r a r',part r=.ok (a,r')→Q a) {most:Nat} (h1:1≤most) {r:List UInt8} {l:List α} {r':List UInt8} (h:lst part most r=.ok (l,r')):(∀ a∈l,Q a)∧l.length≤most:=by
 unfold lst at h
 cases hq:part r with
 | error f=>rw [hq] at h;cases h
 | ok x =>
  obtain ⟨a,r2⟩:=x
  rw [hq] at h
  exact lstF_most hp most [a] r2 l r' (fun b hb=>by rw [List.mem_singleton.1 hb];exact hp r a r2 hq) (by simpa using h1) h
def OkM (m:Mt):Prop:=mBad m=0∧bareM m=m
theorem okM_of {k:Int} {x y:List UInt8} (hx:wordy x) (hk:(k=1∨k=2)∧wordy y∨(k=3∨k=4)∧y=[]):OkM ⟨k,lit x,lit y⟩:=by
 have h1:=wordy_named hx
 rcases hk with ⟨hk,hy⟩ | ⟨hk,hy⟩
 ·have h2:=wordy_named hy
  unfold OkM mBad bareM
  simp only [h1,h2]
  rcases hk with e | e <;> (rw [e];simp)
 ·unfold OkM mBad bareM
  simp only [h1]
  rcases hk with e | e <;> (rw [e,hy];simp)
theorem mtc_ok {r r':List UInt8} {m:Mt} (h:mtc r=.ok (m,r')):OkM m:=by
 unfold mtc at h
 cases ha:acc [33] r with
 | some r1 =>
  rw [ha] at h
  simp only at h
  cases hw:wrd r1 with
  | error f=>rw [hw] at h;cases h
  | ok x =>
   obtain ⟨x,r2⟩:=x
   rw [hw] at h
   simp only [Except.ok.injEq,Prod.mk.injEq] at h
   rw [← h.1]
   exact okM_of (wrd_wordy hw) (.inr ⟨.inr rfl,rfl⟩)
 | none =>
  rw [ha] at h
  simp only at h
  cases hw:wrd r with
  | error f=>rw [hw] at h;cases h
  | ok x =>
   obtain ⟨x,r2⟩:=x
   rw [hw] at h
   simp only at h
   cases hb:acc [61] r2 with
   | some r3 =>
    rw [hb] at h
    simp only at h
    cases hy:wrd r3 with
    | error f=>rw [hy] at h;cases h
    | ok y =>
     obtain ⟨y,r4⟩:=y
     rw [hy] at h
     simp only [Except.ok.injEq,Prod.mk.injEq] at h
     rw [← h.1]
     exact okM_of (wrd_wordy hw) (.inl ⟨.inl rfl,wrd_wordy hy⟩)
   | none =>
    rw [hb] at h
    simp only at h
    cases hc:acc [33,61] r2 with
    | some r3 =>
     rw [hc] at h
     simp only at h
     cases hy:wrd r3 with
     | error f=>rw [hy] at h;cases h
     | ok y =>
      obtain ⟨y,r4⟩:=y
      rw [hy] at h
      simp only [Except.ok.injEq,Prod.mk.injEq] at h
      rw [← h.1]
      exact okM_of (wrd_wordy hw) (.inl ⟨.inr rfl,wrd_wordy hy⟩)
    | none =>
     rw [hc] at h
     simp only [Except.ok.injEq,Prod.mk.injEq] at h
     rw [← h.1]
     exact okM_of (wrd_wordy hw) (.inr ⟨.inl rfl,rfl⟩)
theorem okMs {l:List Mt} (h:∀ m∈l,OkM m):msBad l=0∧l.map bareM=l:=by
 induction l with
 | nil=>exact ⟨rfl,rfl⟩
 | cons a r ih =>
  obtain ⟨i1,i2⟩:=ih fun m hm=>h m (by simp [hm])
  obtain ⟨a1,a2⟩:=h a (by simp)
  refine ⟨?_,by rw [List.map_cons,a2,i2]⟩
  unfold msBad
  rw [if_pos a1];exact i1
theorem wnM_ok {r r':List UInt8} {l:List Mt} (h:wnM r=.ok (l,r')):(msBad l=0∧l.map bareM=l)∧l.length≤5:=by
 unfold wnM at h
 split at h
 ·simp only [Except.ok.injEq,Prod.mk.injEq] at h;rw [← h.1];exact ⟨⟨rfl,rfl⟩,by simp⟩
 ·split at h
  ·cases h
  ·rename_i l1 r1 hl
   split at h
   ·cases h
   ·simp only [Except.ok.injEq,Prod.mk.injEq] at h
    obtain ⟨h1,h2⟩:=lst_most (fun _ _ _ hh=>mtc_ok hh) (by omega) hl
    rw [← h.1]
    exact ⟨okMs h1,h2⟩
theorem numb_ok {a b n:Int} {r r':List UInt8} (h:numb a b r=.ok (n,r')):a≤n∧n≤b:=by
 unfold numb at h
 split at h
 ·cases h
 ·split at h
  ·rename_i v hv
   split at h
   ·rename_i hok
    simp only [Except.ok.injEq,Prod.mk.injEq] at h
    unfold numOk at hok
    simp only [Bool.and_eq_true,decide_eq_true_eq] at hok
    rw [← h.1];exact hok.2
   ·cases h
  ·cases h
structure Got (st:St) (e:Ex) (q:St):Prop where
 rt:Rt e
 br:bare e=e
 cn:q.n=st.n+cnt e
 mx:q.n≤100
theorem fin_got {e g:Ex} {st q:St} (h:fin e st=.ok (g,q)):g=e∧q.n=st.n+1∧q.n≤100:=by
 unfold fin at h
 split at h
 ·cases h
 ·simp only [Except.ok.injEq,Prod.mk.injEq] at h
  rw [← h.1,← h.2]
  exact ⟨rfl,rfl,by simp only;omega⟩
theorem wnd_got {w:ByteArray} (hw:has words8 w=true) {st q:St} {e:Ex} (h:wnd w st=.ok (e,q)):Got st e q:=by
 unfold wnd at h
 split at h
 ·cases h
 ·split at h
  ·cases h
  ·split at h
   ·cases h
   ·rename_i l r3 hm
    split at h
    ·cases h
    ·split at h
     ·cases h
     ·rename_i n r5 hn
      split at h
      ·cases h
      ·split at h
       ·cases h
       ·obtain ⟨rfl,h2,h3⟩:=fin_got h
        obtain ⟨⟨m1,m2⟩,m3⟩:=wnM_ok hm
        obtain ⟨n1,n2⟩:=numb_ok hn
        refine ⟨.mk _ _ ?_ (fun k hk=>by cases hk),?_,h2,h3⟩
        ·unfold alone winBad
         simp only [List.length_nil]
         rw [if_neg (by omega),if_pos trivial,if_pos trivial,if_neg (by rw [hw];simp),if_neg (by omega),if_pos m1,if_neg (by omega)]
        ·simp [bare,bareL,bareH,m2]
theorem alB_ok {r r':List UInt8} {l:List ByteArray} (h:alB r=.ok (l,r')):l.all Grain.named=true∧l.length≤4:=by
 unfold alB at h
 split at h
 ·simp only [Except.ok.injEq,Prod.mk.injEq] at h;rw [← h.1];exact ⟨rfl,by simp⟩
 ·split at h
  ·cases h
  ·split at h
   ·cases h
   ·rename_i l1 r2 hl
    split at h
    ·cases h
    ·simp only [Except.ok.injEq,Prod.mk.injEq] at h
     obtain ⟨h1,h2⟩:=lst_most (part:=words1) (Q:=fun x=>Grain.named x=true) (fun r a r' hh=>by
      unfold words1 at hh
      split at hh
      ·cases hh
      ·rename_i w r1 hw
       simp only [Except.ok.injEq,Prod.mk.injEq] at hh
       rw [← hh.1]
       exact wordy_named (wrd_wordy hw)) (by omega) hl
     rw [← h.1]
     exact ⟨by rw [List.all_eq_true];exact h1,h2⟩
theorem wrdOf_has {m:List ByteArray} {r x r':List UInt8} (h:wrdOf m r=.ok (x,r')):has m (lit x)=true:=by
 unfold wrdOf at h
 split at h
 ·cases h
 ·rename_i p hp
  split at h
  ·rename_i hh
   simp only [Except.ok.injEq] at h
   rw [h] at hh;exact hh
  ·cases h
theorem al_got {sub:St→Except Flt (Ex×St)} (hsub:∀ st e q,sub st=.ok (e,q)→Got st e q) {st q:St} {e:Ex} (h:al sub st=.ok (e,q)):Got st e q:=by
 unfold al at h
 split at h
 ·cases h
 ·rename_i w r1 hw
  split at h
  ·cases h
  ·rename_i bs r2 hb
   split at h
   ·cases h
   ·rename_i x s1 hs
    split at h
    ·cases h
    ·obtain ⟨rfl,h2,h3⟩:=fin_got h
     have hx:=hsub _ _ _ hs
     obtain ⟨b1,b2⟩:=alB_ok hb
     have hw':=wrdOf_has hw
     refine ⟨.mk _ _ ?_ (fun k hk=>by rw [List.mem_singleton.1 hk];exact hx.rt),?_,?_,h3⟩
     ·unfold alone allBad
      simp only [List.length_cons,List.length_nil]
      rw [if_neg (by omega),if_neg (by omega),if_pos trivial,if_pos trivial,if_neg (by rw [hw'];simp),if_neg (by omega),if_pos b1]
     ·simp [bare,bareL,bareH,hx.br]
     ·rw [h2];simp only [cnt,cntL];have:=hx.cn;simp only at this;omega
theorem accAny_mem {l:List (List UInt8)} {r x r1:List UInt8} (h:accAny l r=some (x,r1)):x∈l:=by
 induction l with
 | nil=>simp [accAny] at h
 | cons s l ih =>
  unfold accAny at h
  cases ha:acc s r with
  | none=>rw [ha] at h;simp [ih h]
  | some r2 =>
   rw [ha] at h
   simp only [Option.some.injEq,Prod.mk.injEq] at h
   rw [← h.1];simp
theorem chnF_got {p:St→Except Flt (Ex×St)} (hp:∀ st e q,p st=.ok (e,q)→Got st e q) {sg:List (List UInt8)} (hsg:∀ x∈sg,has signs3 (lit x)=true) :
  ∀ (k:Nat) (s0 st:St) (e:Ex) (g:Ex) (q:St),Got s0 e st→chnF p sg k e st=.ok (g,q)→Got s0 g q:=by
 intro k
 induction k with
 | zero=>intro s0 st e g q h0 h;simp only [chnF,Except.ok.injEq,Prod.mk.injEq] at h;rw [← h.1,← h.2];exact h0
 | succ k ih =>
  intro s0 st e g q h0 h
  unfold chnF at h
  split at h
  ·simp only [Except.ok.injEq,Prod.mk.injEq] at h;rw [← h.1,← h.2];exact h0
  ·rename_i x r1 ha
   split at h
   ·cases h
   ·rename_i f s1 hf
    have hF:=hp _ _ _ hf
    split at h
    ·cases h
    ·rename_i g1 s2 hfin
     obtain ⟨rfl,h2,h3⟩:=fin_got hfin
     refine ih s0 s2 _ g q ⟨.mk _ _ ?_ ?_,?_,?_,h3⟩ h
     ·unfold alone
      simp only [List.length_cons,List.length_nil]
      rw [if_neg (by omega),if_neg (by omega),if_neg (by omega),if_pos trivial,if_pos trivial,if_pos (hsg x (accAny_mem ha))]
     ·intro y hy
      simp only [List.mem_cons,List.not_mem_nil,or_false] at hy
      rcases hy with e | e
      ·rw [e];exact h0.rt
      ·rw [e];exact hF.rt
     ·simp [bare,bareL,bareH,h0.br,hF.br]
     ·have e1:=h0.cn
      have e2:=hF.cn
      simp only [cnt,cntL] at e2 ⊢
      omega
theorem chn_got {p:St→Except Flt (Ex×St)} (hp:∀ st e q,p st=.ok (e,q)→Got st e q) {sg:List (List UInt8)} (hsg:∀ x∈sg,has signs3 (lit x)=true) :
  ∀ (st:St) (e:Ex) (q:St),chn p sg st=.ok (e,q)→Got st e q:=by
 intro st e q h
 unfold chn at h
 split at h
 ·cases h
 ·rename_i e1 s1 he
  exact chnF_got hp hsg _ st s1 e1 e q (hp _ _ _ he) h
theorem smm_got {p:St→Except Flt (Ex×St)} (hp:∀ st e q,p st=.ok (e,q)→Got st e q):∀ (st:St) (e:Ex) (q:St),smm p st=.ok (e,q)→Got st e q :=
 chn_got (chn_got hp (by intro x hx;rw [List.mem_singleton.1 hx];decide)) (by intro x hx;simp only [List.mem_cons,List.not_mem_nil,or_false] at hx;rcases hx with e | e <;> (rw [e];decide))
theorem fct_got:∀ (k:Nat) (st:St) (e:Ex) (q:St),fct k st=.ok (e,q)→Got st e q:=by
 intro k
 induction k with
 | zero=>intro st e q h;simp [fct] at h
 | succ k ih =>
  intro st e q h
  rw [fct] at h
  split at h
  ·rename_i r1 ha
   split at h
   ·cases h
   ·rename_i x s1 hs
    have hx:=smm_got ih _ _ _ hs
    split at h
    ·cases h
    ·simp only [Except.ok.injEq,Prod.mk.injEq] at h
     rw [← h.1,← h.2]
     exact ⟨hx.rt,hx.br,hx.cn,hx.mx⟩
  ·split at h
   ·split at h
    ·cases h
    ·rename_i n r1 hn
     obtain ⟨rfl,h2,h3⟩:=fin_got h
     obtain ⟨n1,n2⟩:=numb_ok hn
     refine ⟨.mk _ _ ?_ (fun y hy=>by cases hy),?_,h2,h3⟩
     ·unfold alone
      simp only [List.length_nil]
      rw [if_pos trivial,if_pos trivial,if_neg (by omega)]
     ·simp [bare,bareL,bareH]
   ·split at h
    ·cases h
    ·rename_i w r1 hw
     have hh:=wrdOf_has hw
     split at h
     ·have:=al_got (smm_got ih) h
      exact ⟨this.rt,this.br,this.cn,this.mx⟩
     ·rename_i hne
      have h8:has words8 (lit w)=true:=by
       rw [has_app,Bool.or_eq_true] at hh
       rcases hh with e | e
       ·exact e
       ·have e1:=has_mem e
        rw [List.mem_singleton] at e1
        have:=congrArg bl e1
        rw [bl_lit,bl_lit] at this
        exact absurd this hne
      have:=wnd_got h8 h
      exact ⟨this.rt,this.br,this.cn,this.mx⟩
open Go.RowKit
def Nz {α:Type} (x:Except Flt α):Prop:=∀ f,x=.error f→f.1≠0
theorem nz_ok {α:Type} (a:α):Nz (Except.ok a:Except Flt α):=fun f h=>by cases h
theorem nz_err {α:Type} (f:Flt) (h:f.1≠0):Nz (Except.error f:Except Flt α):=fun g e=>by injection e with e;rw [← e];exact h
theorem nz_ite {α:Type} {c:Prop} [Decidable c] {x y:Except Flt α} (h1:Nz x) (h2:Nz y):Nz (if c then x else y):=by
 split
 ·exact h1
 ·exact h2
theorem nz_expe (sg r:List UInt8):Nz (expe sg r):=by
 unfold expe
 split
 ·exact nz_ok _
 ·exact nz_err _ (by simp)
theorem nz_wrd (r:List UInt8):Nz (wrd r):=nz_ite (nz_err _ (by simp)) (nz_ite (nz_err _ (by simp)) (nz_ok _))
theorem nz_wrdOf (m:List ByteArray) (r:List UInt8):Nz (wrdOf m r):=by
 unfold wrdOf
 have h:=nz_wrd r
 split
 ·rename_i e he;exact nz_err _ (h e he)
 ·exact nz_ite (nz_ok _) (nz_err _ (by simp))
theorem nz_numb (a b:Int) (r:List UInt8):Nz (numb a b r):=by
 unfold numb
 refine nz_ite (nz_err _ (by simp)) ?_
 split
 ·exact nz_ite (nz_ok _) (nz_err _ (by simp))
 ·exact nz_err _ (by simp)
theorem nz_byW (r:List UInt8):Nz (byW r):=nz_ite (nz_ok _) (nz_err _ (by simp))
theorem nz_lstF {α:Type} {part:List UInt8→Except Flt (α×List UInt8)} (hp:∀ r,Nz (part r)) (most:Nat):∀ k l r,Nz (lstF part most k l r):=by
 intro k
 induction k with
 | zero=>intro l r;exact nz_ok _
 | succ k ih =>
  intro l r
  unfold lstF
  split
  ·exact nz_ok _
  ·rename_i r1 _
   refine nz_ite (nz_err _ (by simp)) ?_
   have h:=hp r1
   split
   ·rename_i e he;exact nz_err _ (h e he)
   ·exact ih _ _
theorem nz_lst {α:Type} {part:List UInt8→Except Flt (α×List UInt8)} (hp:∀ r,Nz (part r)) (most:Nat) (r:List UInt8):Nz (lst part most r):=by
 unfold lst
 have h:=hp r
 split
 ·rename_i e he;exact nz_err _ (h e he)
 ·exact nz_lstF hp _ _ _ _
theorem nz_mtc (r:List UInt8):Nz (mtc r):=by
 unfold mtc
 split
 ·rename_i r1 _
  have h:=nz_wrd r1
  split
  ·rename_i e he;exact nz_err _ (h e he)
  ·exact nz_ok _
 ·have h:=nz_wrd r
  split
  ·rename_i e he;exact nz_err _ (h e he)
  ·split
   ·rename_i r3 _
    have h:=nz_wrd r3
    split
    ·rename_i e he;exact nz_err _ (h e he)
    ·exact nz_ok _
   ·split
    ·rename_i r3 _
     have h:=nz_wrd r3
     split
     ·rename_i e he;exact nz_err _ (h e he)
     ·exact nz_ok _
    ·exact nz_ok _
theorem nz_words1 (r:List UInt8):Nz (words1 r):=by
 unfold words1
 have h:=nz_wrd r
 split
 ·rename_i e he;exact nz_err _ (h e he)
 ·exact nz_ok _
theorem nz_fin (e:Ex) (st:St):Nz (fin e st):=nz_ite (nz_err _ (by simp)) (nz_ok _)
theorem nz_wnM (r:List UInt8):Nz (wnM r):=by
 unfold wnM
 split
 ·exact nz_ok _
 ·have h:=nz_lst nz_mtc 5 r
  split
  ·rename_i e he;exact nz_err _ (h e he)
  ·rename_i l r1 _
   have h:=nz_expe [125] r1
   split
   ·rename_i e he;exact nz_err _ (h e he)
   ·exact nz_ok _
theorem nz_wnd (w:ByteArray) (st:St):Nz (wnd w st):=by
 unfold wnd
 have h:=nz_expe [40] st.r
 split
 ·rename_i e he;exact nz_err _ (h e he)
 ·rename_i r1 _
  have h:=nz_expe [123] r1
  split
  ·rename_i e he;exact nz_err _ (h e he)
  ·rename_i r2 _
   have h:=nz_wnM r2
   split
   ·rename_i e he;exact nz_err _ (h e he)
   ·rename_i l r3 _
    have h:=nz_expe [91] r3
    split
    ·rename_i e he;exact nz_err _ (h e he)
    ·rename_i r4 _
     have h:=nz_numb 1 100000 r4
     split
     ·rename_i e he;exact nz_err _ (h e he)
     ·rename_i n r5 _
      have h:=nz_expe [93] r5
      split
      ·rename_i e he;exact nz_err _ (h e he)
      ·rename_i r6 _
       have h:=nz_expe [41] r6
       split
       ·rename_i e he;exact nz_err _ (h e he)
       ·exact nz_fin _ _
theorem nz_alB (r:List UInt8):Nz (alB r):=by
 unfold alB
 split
 ·exact nz_ok _
 ·have h:=nz_byW r
  split
  ·rename_i e he;exact nz_err _ (h e he)
  ·rename_i r1 _
   have h:=nz_lst nz_words1 4 r1
   split
   ·rename_i e he;exact nz_err _ (h e he)
   ·rename_i l r2 _
    have h:=nz_expe [40] r2
    split
    ·rename_i e he;exact nz_err _ (h e he)
    ·exact nz_ok _
theorem nz_al {sub:St→Except Flt (Ex×St)} (hs:∀ st,Nz (sub st)) (st:St):Nz (al sub st):=by
 unfold al
 have h:=nz_wrdOf totals4 st.r
 split
 ·rename_i e he;exact nz_err _ (h e he)
 ·rename_i w r1 _
  have h:=nz_alB r1
  split
  ·rename_i e he;exact nz_err _ (h e he)
  ·rename_i bs r2 _
   have h:=hs ⟨r2,st.n⟩
   split
   ·rename_i e he;exact nz_err _ (h e he)
   ·rename_i e s1 _
    have h:=nz_expe [41] s1.r
    split
    ·rename_i e he;exact nz_err _ (h e he)
    ·exact nz_fin _ _
theorem nz_chnF {p:St→Except Flt (Ex×St)} (hp:∀ st,Nz (p st)) (sg:List (List UInt8)):∀ k e st,Nz (chnF p sg k e st):=by
 intro k
 induction k with
 | zero=>intro e st;exact nz_ok _
 | succ k ih =>
  intro e st
  unfold chnF
  split
  ·exact nz_ok _
  ·rename_i x r1 _
   have h:=hp ⟨r1,st.n⟩
   split
   ·rename_i e he;exact nz_err _ (h e he)
   ·rename_i f s1 _
    have h:=nz_fin (.mk ⟨4,0,0,lit x,[],[]⟩ [e,f]) s1
    split
    ·rename_i e he;exact nz_err _ (h e he)
    ·exact ih _ _
theorem nz_chn {p:St→Except Flt (Ex×St)} (hp:∀ st,Nz (p st)) (sg:List (List UInt8)) (st:St):Nz (chn p sg st):=by
 unfold chn
 have h:=hp st
 split
 ·rename_i e he;exact nz_err _ (h e he)
 ·exact nz_chnF hp _ _ _ _
theorem nz_fct:∀ k st,Nz (fct k st):=by
 intro k
 induction k with
 | zero=>intro st;rw [fct];exact nz_err _ (by simp)
 | succ k ih =>
  intro st
  have hsm:∀ st,Nz (smm (fct k) st):=nz_chn (nz_chn ih _) _
  rw [fct]
  split
  ·rename_i r1 _
   have h:=hsm ⟨r1,st.n⟩
   split
   ·rename_i e he;exact nz_err _ (h e he)
   ·rename_i e s1 _
    have h:=nz_expe [41] s1.r
    split
    ·rename_i e he;exact nz_err _ (h e he)
    ·exact nz_ok _
  ·refine nz_ite ?_ ?_
   ·have h:=nz_numb 0 1000000 st.r
    split
    ·rename_i e he;exact nz_err _ (h e he)
    ·exact nz_fin _ _
   ·have h:=nz_wrdOf (words8++[lit wordAll]) st.r
    split
    ·rename_i e he;exact nz_err _ (h e he)
    ·exact nz_ite (nz_al hsm _) (nz_wnd _ _)
theorem nz_prs (s:List UInt8):Nz (prs s):=by
 unfold prs
 refine nz_ite (nz_err _ (by simp)) ?_
 have h:=nz_chn (nz_chn (nz_fct 20) [[42]]) [[43],[45]] ⟨s,0⟩
 split
 ·rename_i e he;exact nz_err _ (h e he)
 ·exact nz_ite (nz_err _ (by simp)) (nz_ite (nz_err _ (by simp)) (nz_ok _))
end Go.GrainU
