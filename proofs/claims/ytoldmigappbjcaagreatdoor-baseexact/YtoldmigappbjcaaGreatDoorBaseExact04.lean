import Derived.Test.YtoldmigappbjcaaGreatDoorBaseExact01
import Derived.Test.YtoldmigappbjcaaGreatDoorBaseExact02
import Derived.Test.YtoldmigappbjcaaGreatDoorBaseExact03
import Derived.Test.YtoldmigappbjcaaGreatDoorK07
import Derived.Test.YtoldmigappbjcaaGreatDoorK15
import Derived.Test.YtoldmigappbjcaaGreatDoorK28
import Derived.Test.YtoldmigappbjcaaGreatDoorK30
import Derived.Test.YtoldmigappbjcaaGreatDoorK31
namespace Grain
theorem choose_gone {s:Shf} {f t:Int} (h0:swrong s=0) (h1:0≤f) (h2:f≤t) (h3:t≤1000000) (h:(choose s f t).2≠0):(choose s f t).2=10:=by
 unfold choose at *
 rw [if_neg (by simp [h0]),if_neg (by omega)] at *
 exact ((chs_all (s:=s) (f:=f) (tq:=t) (t-f).toNat f [] (by simp [cvr]) (fun i a b=>by simp at b) (by omega) (Nat.le_refl _)).2 h).2
end Grain
namespace Go.GrainU
open Go.RowKit
theorem playB_len:∀ (l:List Dn) (b:Bs),(playB b l).2.length=l.length
 | [],b=>rfl
 | x::r,b=>by simp [playB,playB_len r]
open Go.RowKit
theorem look_gone {s:Grain.Shf} (hs:Grain.swrong s=0) {f t:Int} (h1:0≤f) (h2:f≤t) (h3:t≤1000000) {E:Int} (h:lookS s f t=.error E):E=10:=by
 unfold lookS at h
 by_cases h0:(Grain.choose s f t).2=0
 ·rw [if_pos h0] at h
  obtain ⟨hc,_,hw⟩:=Grain.choose_ok h0
  have hf:=Grain.cvr_fol hc
  have hr:Grain.read s (Grain.choose s f t).1=(Grain.rdS s (Grain.choose s f t).1,(Grain.rdN s (Grain.choose s f t).1:Int),0):=by
   unfold Grain.read
   rw [if_neg (by simp [hw]),if_neg (by rw [hf];decide)]
  rw [hr] at h
  simp at h
 ·rw [if_neg h0] at h
  injection h with h
  rw [← h];exact Grain.choose_gone hs h1 h2 h3 h0
open Go.RowKit
theorem putB_no {b:Bs} {i:Nat} {t v:Int} (h:(putB b i t v).2≠0):(putB b i t v).1=b:=by
 unfold putB at *
 by_cases h1:(Grain.sapp (kp b.l i).s t v).2=0
 ·rw [if_pos h1] at h;exact absurd rfl h
 ·rw [if_neg h1]
theorem putN_no {b:Bs} {i:Nat} {s:Lb} {t v:Int} (h:(putN b i s t v).2≠0):(putN b i s t v).1=b:=by
 unfold putN at *
 by_cases h1:8≤b.l.length
 ·rw [if_pos h1]
 rw [if_neg h1] at h ⊢
 by_cases h2:(Grain.sroll (newS s) b.hz).2≠0
 ·rw [if_pos h2]
 rw [if_neg h2] at h ⊢
 by_cases h3:(Grain.sapp (Grain.sroll (newS s) b.hz).1 t v).2≠0
 ·rw [if_pos h3]
 rw [if_neg h3] at h
 exact absurd rfl h
theorem takeB_no {b:Bs} {s:Lb} {t v:Int} (h:(takeB b s t v).2≠0):(takeB b s t v).1=b:=by
 unfold takeB at *
 by_cases h1:wrongS s≠0
 ·rw [if_pos h1]
 rw [if_neg h1] at h ⊢
 by_cases h2:Grain.inR t v=false
 ·rw [if_pos h2]
 rw [if_neg h2] at h ⊢
 by_cases h3:t<b.hz
 ·rw [if_pos h3]
 rw [if_neg h3] at h ⊢
 by_cases h4:bhas b.l s=true
 ·rw [if_pos h4] at h ⊢;exact putB_no h
 ·rw [if_neg h4] at h ⊢;exact putN_no h
theorem rollB_no {b:Bs} {t:Int} (h:(rollB b t).2≠0):(rollB b t).1=b:=by
 unfold rollB at *
 by_cases h1:t<0∨1000000<t
 ·rw [if_pos h1]
 rw [if_neg h1] at h ⊢
 cases he:eachB (fun s=>Grain.sroll s t) b.l with
 | error x=>rfl
 | ok l=>rw [he] at h;exact absurd rfl h
theorem forgB_no {b:Bs} {k t:Int} (h:(forgB b k t).2≠0):(forgB b k t).1=b:=by
 unfold forgB at *
 by_cases h1:t<0∨1000000<t
 ·rw [if_pos h1]
 rw [if_neg h1] at h ⊢
 by_cases h2:k=0∨k=1∨k=2
 ·rw [if_pos h2] at h ⊢
  cases he:eachB (fun s=>Grain.sforg s k t) b.l with
  | error x=>rfl
  | ok l=>rw [he] at h;exact absurd rfl h
 ·rw [if_neg h2]
theorem doB_no {b:Bs} {d:Dn} (h:(doB b d).2.err≠0∨d.kind=4):(doB b d).1=b:=by
 unfold doB at *
 by_cases k1:d.kind=1
 ·rw [if_pos k1] at h ⊢
  rcases h with h | h
  ·exact takeB_no h
  ·omega
 rw [if_neg k1] at h ⊢
 by_cases k2:d.kind=2
 ·rw [if_pos k2] at h ⊢
  rcases h with h | h
  ·exact rollB_no h
  ·omega
 rw [if_neg k2] at h ⊢
 by_cases k3:d.kind=3
 ·rw [if_pos k3] at h ⊢
  rcases h with h | h
  ·exact forgB_no h
  ·omega
 rw [if_neg k3] at h ⊢
 by_cases k4:d.kind=4
 ·rw [if_pos k4]
 ·rw [if_neg k4]
open Go.RowKit
def lnn (o:List Ln) (k:Nat):Ln:=o.getD k ([],[])
def lpos (o:List Ln) (s:Lb):Nat:=(o.takeWhile fun x=>decide (cmpS x.1 s<0)).length
def lhas (o:List Ln) (s:Lb):Bool:=decide (lpos o s<o.length) && decide (cmpS (lnn o (lpos o s)).1 s=0)
def tellP (o:List Ln) (s:Lb) (x:Int×Int):List Ln :=
 if lhas o s=true then o.set (lpos o s) ((lnn o (lpos o s)).1,(lnn o (lpos o s)).2++[x]) else o.take (lpos o s)++[(s,[x])]++o.drop (lpos o s)
def tellS (o:List Ln) (d:Dn) (a:An):List Ln:=if d.kind=1∧a.err=0 then tellP o d.se (d.t,d.v) else o
def toldP:List Ln→List Dn→List An→List Ln
 | o,d::r,a::q=>toldP (tellS o d a) r q
 | o,_,_=>o
theorem toldP_snoc (d:Dn) (a:An):∀ (l:List Dn) (A:List An) (o:List Ln),l.length=A.length→toldP o (l++[d]) (A++[a])=tellS (toldP o l A) d a
 | [],[],o,_=>rfl
 | x::r,b::s,o,h=>by
  simp only [List.cons_append,toldP]
  exact toldP_snoc d a r s _ (by simpa using h)
 | [],b::s,_,h=>by simp at h
 | y::r,[],_,h=>by simp at h
theorem lnsB_len (l:List Kp):(lnsB l).length=l.length:=by simp [lnsB]
theorem lnn_lnsB {l:List Kp} {k:Nat} (h:k<l.length):lnn (lnsB l) k=((kp l k).s.se,(kp l k).A):=by
 rw [kp_get h]
 simp [lnn,lnsB,List.getD,h]
theorem lpos_lnsB (s:Lb):∀ l:List Kp,lpos (lnsB l) s=bpos l s
 | []=>rfl
 | k::r=>by
  have ih:=lpos_lnsB s r
  unfold lpos bpos lnsB at *
  by_cases h:cmpS k.s.se s<0
  ·simp only [List.map_cons,List.takeWhile_cons,h,decide_true,if_true,List.length_cons]
   rw [ih]
  ·simp [h]
theorem lhas_lnsB (l:List Kp) (s:Lb):lhas (lnsB l) s=bhas l s:=by
 unfold lhas bhas
 rw [lpos_lnsB,lnsB_len]
 by_cases h:bpos l s<l.length
 ·rw [lnn_lnsB h]
 ·simp [h]
theorem eachB_se {f:Grain.Shf→Grain.Shf×Int} (hs:∀ s,(f s).2=0→(f s).1.se=s.se):∀ (l l':List Kp),eachB f l=.ok l'→lnsB l'=lnsB l:=by
 intro l
 induction l with
 | nil=>intro l' h;simp [eachB] at h;subst h;rfl
 | cons a r ih =>
  intro l' h
  by_cases ha:(f a.s).2=0
  ·simp only [eachB,ha,if_true] at h
   cases hr:eachB f r with
   | error x=>rw [hr] at h;simp at h
   | ok r' =>
    rw [hr] at h
    simp at h
    subst h
    have:=ih r' hr
    unfold lnsB at this ⊢
    simp [this,hs _ ha]
  ·simp [eachB,ha] at h
theorem lnsB_set (l:List Kp) (i:Nat) (k:Kp):lnsB (l.set i k)=(lnsB l).set i (k.s.se,k.A):=by
 unfold lnsB
 rw [List.map_set]
theorem tell_take {b:Bs} {s:Lb} {t v:Int} (h:(takeB b s t v).2=0):lnsB (takeB b s t v).1.l=tellP (lnsB b.l) s (t,v):=by
 unfold takeB at *
 by_cases h1:wrongS s≠0
 ·rw [if_pos h1] at h;exact absurd h h1
 rw [if_neg h1] at h ⊢
 by_cases h2:Grain.inR t v=false
 ·rw [if_pos h2] at h;exact absurd h (by simp)
 rw [if_neg h2] at h ⊢
 by_cases h3:t<b.hz
 ·rw [if_pos h3] at h;exact absurd h (by simp)
 rw [if_neg h3] at h ⊢
 unfold tellP
 rw [lhas_lnsB,lpos_lnsB]
 by_cases h4:bhas b.l s=true
 ·rw [if_pos h4] at h ⊢
  rw [if_pos h4,lnn_lnsB (bhas_lt h4)]
  unfold putB at *
  by_cases h5:(Grain.sapp (kp b.l (bpos b.l s)).s t v).2=0
  ·rw [if_pos h5]
   show lnsB (b.l.set _ _)=_
   rw [lnsB_set]
   simp only [(sapp_same h5).1]
  ·rw [if_neg h5] at h;exact absurd h h5
 ·rw [if_neg h4] at h ⊢
  rw [if_neg h4]
  unfold putN at *
  by_cases h5:8≤b.l.length
  ·rw [if_pos h5] at h;exact absurd h (by simp)
  rw [if_neg h5] at h ⊢
  by_cases h6:(Grain.sroll (newS s) b.hz).2≠0
  ·rw [if_pos h6] at h;exact absurd h h6
  rw [if_neg h6] at h ⊢
  by_cases h7:(Grain.sapp (Grain.sroll (newS s) b.hz).1 t v).2≠0
  ·rw [if_pos h7] at h;exact absurd h h7
  rw [if_neg h7]
  have e1:=sroll_same (Decidable.not_not.1 h6)
  have e2:=sapp_same (Decidable.not_not.1 h7)
  have ese:(Grain.sapp (Grain.sroll (newS s) b.hz).1 t v).1.se=s:=by rw [e2.1,e1.1];rfl
  show lnsB (b.l.take _++[_]++b.l.drop _)=_
  unfold lnsB
  simp [List.map_append,List.map_take,List.map_drop,ese]
theorem tell_do (b:Bs) (d:Dn):lnsB (doB b d).1.l=tellS (lnsB b.l) d (doB b d).2:=by
 unfold tellS
 by_cases hk:d.kind=1
 ·by_cases he:(doB b d).2.err=0
  ·rw [if_pos ⟨hk,he⟩]
   have e:doB b d=((takeB b d.se d.t d.v).1,⟨(takeB b d.se d.t d.v).2,0,[],0⟩):=by unfold doB;rw [if_pos hk]
   rw [e] at he ⊢
   exact tell_take he
  ·rw [if_neg (fun h=>he h.2),doB_no (.inl he)]
 ·rw [if_neg (fun h=>hk h.1)]
  unfold doB
  rw [if_neg hk]
  by_cases k2:d.kind=2
  ·rw [if_pos k2]
   show lnsB (rollB b d.till).1.l=_
   unfold rollB
   split
   ·rfl
   ·cases he:eachB (fun s=>Grain.sroll s d.till) b.l with
    | error x=>rfl
    | ok l=>exact eachB_se (fun s hz=>(sroll_same hz).1) _ _ he
  rw [if_neg k2]
  by_cases k3:d.kind=3
  ·rw [if_pos k3]
   show lnsB (forgB b d.tier d.till).1.l=_
   unfold forgB
   split
   ·rfl
   ·split
    ·cases he:eachB (fun s=>Grain.sforg s d.tier d.till) b.l with
     | error x=>rfl
     | ok l=>exact eachB_se (fun s hz=>(sforg_same hz).1) _ _ he
    ·rfl
  rw [if_neg k3]
  split <;> rfl
theorem told_play:∀ (l:List Dn) (b:Bs),toldP (lnsB b.l) l (playB b l).2=lnsB (playB b l).1.l
 | [],b=>rfl
 | d::r,b=>by
  have e:(playB b (d::r)).2=(doB b d).2::(playB (doB b d).1 r).2:=rfl
  have e1:(playB b (d::r)).1=(playB (doB b d).1 r).1:=rfl
  rw [e,e1,toldP,← tell_do,told_play r]
theorem playB_take:∀ (l:List Dn) (b:Bs) (i:Nat),(playB b (l.take i)).2=(playB b l).2.take i
 | [],b,i=>by simp [playB]
 | d::r,b,0=>rfl
 | d::r,b,i+1=>by
  simp only [List.take_succ_cons,playB]
  rw [playB_take r]
theorem playB_at {l:List Dn} {b:Bs} {i:Nat} (h:i<l.length):(playB b l).2[i]?=some (doB (playB b (l.take i)).1 l[i]).2:=by
 have h1:=playB_take l b (i+1)
 rw [List.take_add_one,List.getElem?_eq_getElem h] at h1
 simp only [Option.toList_some] at h1
 rw [playB_snoc] at h1
 have h2:=congrArg (fun L=>L[i]?) h1
 simp only at h2
 have hl:(playB b (l.take i)).2.length=i:=by rw [playB_len];simp;omega
 rw [List.getElem?_append_right (by omega),hl,Nat.sub_self] at h2
 rw [List.getElem?_take_of_lt (by omega)] at h2
 exact h2.symm
end Go.GrainU
namespace Grain
end Grain
namespace Go.GrainU
open Go.RowKit
theorem evg_gone {f:Hd→Except Int (List Cl)} {g:Hd→List Cl} (hf:∀ h,winBad h=0→f h=.error 10∨f h=.ok (g h)):∀ x:Ex,Rt x→evG f x=.error 10∨evG f x=evG (fun h=>.ok (g h)) x:=by
 refine Ex.ind ?_
 intro h kids ih hrt
 obtain ⟨ha,hk⟩:=Rt.parts hrt
 have hL:∀ ks:List Ex,(∀ k∈ks,k∈kids)→evGL f ks=.error 10∨evGL f ks=evGL (fun h=>.ok (g h)) ks:=by
  intro ks
  induction ks with
  | nil=>intro _;exact .inr rfl
  | cons a r ihr =>
   intro hm
   rcases ih a (hm a (by simp)) (hk a (hm a (by simp))) with e | e
   ·left;rw [evGL,e]
   ·rcases ihr (fun k hk'=>hm k (by simp [hk'])) with e2 | e2
    ·rw [evGL,evGL,← e,e2]
     cases hx:evG f a with
     | error x=>right;rfl
     | ok m=>left;rfl
    ·right;rw [evGL,evGL,← e,e2]
 rw [evG,evG]
 by_cases e1:h.kind=1
 ·right;rw [if_pos e1,if_pos e1]
 rw [if_neg e1,if_neg e1]
 by_cases e2:h.kind=2
 ·rw [if_pos e2,if_pos e2]
  have hwb:winBad h=0:=by
   rcases alone_cases ha with ⟨q,_⟩ | ⟨_,_,q⟩ | ⟨q,_⟩ | ⟨q,_⟩
   ·omega
   ·exact q
   ·omega
   ·omega
  rcases hf h hwb with e | e
  ·left;rw [e]
  ·right;rw [e]
 rw [if_neg e2,if_neg e2]
 rcases hL kids (fun k hk=>hk) with e | e
 ·left;rw [e]
 ·right;rw [e]
theorem winT_error {S:Nat→Except Int Grain.Sm} {h:Hd} {l:List ST} {x:Int}:∀ n:Nat,winT S h l n=.error x→∃ i,i<n∧S i=.error x
 | 0,e=>by simp [winT] at e
 | n+1,e=>by
  rw [winT] at e
  cases hp:winT S h l n with
  | error y =>
   rw [hp] at e
   injection e with e
   subst e
   obtain ⟨i,hi,hs⟩:=winT_error n hp
   exact ⟨i,by omega,hs⟩
  | ok c =>
   rw [hp] at e
   by_cases hs:says (st l n).ser h.ms=true
   ·simp only [hs,if_true] at e
    cases hS:S n with
    | error y =>
     rw [hS] at e
     injection e with e
     subst e
     exact ⟨n,by omega,hS⟩
    | ok J=>rw [hS] at e;simp at e
   ·simp [hs] at e
theorem winT_base {b:Bs} (hb:BInv b) (h5:FewB 500 b) {time:Int} (t0:0≤time) (t1:time≤1000000) (h:Hd) (hw:winBad h=0) :
  overW (fun i f t=>lookS (kp b.l i).s f t) (sersB b.l) b.l.length time h=.error 10∨overW (fun i f t=>lookS (kp b.l i).s f t) (sersB b.l) b.l.length time h=.ok (winC (lnsB b.l) h time):=by
 obtain ⟨_,_,_,r1,r2⟩:=winBad_ok hw
 cases ho:overW (fun i f t=>lookS (kp b.l i).s f t) (sersB b.l) b.l.length time h with
 | error x =>
  left
  obtain ⟨i,hi,hs⟩:=winT_error _ ho
  have:=look_gone ((Grain.sr_iff _).2 (hb.kee _ (kp_mem hi)).sr) (by omega) (by omega) t1 hs
  rw [this]
 | ok c =>
  right
  have e:=winT_keeps hb.kee h5 h time b.l.length (Nat.le_refl _) c ho
  rw [List.take_of_length_le (Nat.le_refl _)] at e
  rw [e]
theorem askE_exact {b:Bs} (hb:BInv b) (h5:FewB 500 b) (time:Int) (e:Ex):askE b time e=.error 10∨askE b time e=(if chk e time=0 then exc (ev (lnsB b.l) time e) else .error (chk e time)):=by
 unfold askE overE
 by_cases hc:chk e time=0
 ·rw [if_pos hc,if_pos hc]
  obtain ⟨hrt,t0,t1⟩:=chk_zero hc
  rcases evg_gone (fun h hw=>winT_base hb h5 t0 t1 h hw) e hrt with q | q
  ·exact .inl q
  ·right;rw [q,evg_ev]
 ·rw [if_neg hc,if_neg hc];exact .inr rfl
theorem lnsB_right {b:Bs} (hb:BInv b) (h5:FewB 500 b):(wrLn (lnsB b.l)).1=0:=by
 have hl:¬ 8<(lnsB b.l).length:=by rw [lnsB_len];have:=hb.len;omega
 unfold wrLn
 rw [if_neg hl,wrLF_of]
 intro j _ hj
 rw [lnsB_len] at hj
 have hj':j<b.l.length:=by omega
 have e1:∀ i,i<b.l.length→lser (lnsB b.l) i=(kp b.l i).s.se∧lsmp (lnsB b.l) i=(kp b.l i).A:=fun i hi=>by
  have:=lnn_lnsB hi
  unfold lnn at this
  unfold lser lsmp
  rw [this];exact ⟨rfl,rfl⟩
 have hk:=hb.kee _ (kp_mem hj')
 have ha:lnAlone (lser (lnsB b.l) j,lsmp (lnsB b.l) j)=0:=by
  unfold lnAlone
  rw [(e1 j hj').1,(e1 j hj').2]
  have hs:wrongS (kp b.l j).s.se=0:=hk.sr.se
  rw [if_pos hs]
  exact (Grain.right_iff _).2 ⟨h5 _ (kp_mem hj'),hk.took.rin,hk.took.pw⟩
 unfold lnBad
 rw [if_pos ha,if_neg]
 rintro ⟨h0,h1⟩
 rw [(e1 j hj').1,(e1 (j-1) (by omega)).1,kp_get hj',kp_get (by omega:j-1<b.l.length)] at h1
 have:=(List.pairwise_iff_getElem.1 hb.srt) (j-1) j (by omega) hj' (by omega)
 omega
theorem ask_lnsB {b:Bs} (hb:BInv b) (h5:FewB 500 b) (time:Int) (e:Ex):GrainU.ask (lnsB b.l) e time=(if chk e time=0 then (match ev (lnsB b.l) time e with | none=>([],3) | some m=>(m.cs,0)) else ([],chk e time)):=by
 unfold GrainU.ask
 rw [if_pos (lnsB_right hb h5)]
 rfl
theorem an_of {b:Bs} {time:Int} {e:Ex} (hb:BInv b) (h5:FewB 500 b) (h:askE b time e=(if chk e time=0 then exc (ev (lnsB b.l) time e) else .error (chk e time))) :
  (anE b time e).err=(GrainU.ask (lnsB b.l) e time).2∧(anE b time e).cs=(GrainU.ask (lnsB b.l) e time).1:=by
 rw [ask_lnsB hb h5]
 unfold anE
 rw [h]
 by_cases hc:chk e time=0
 ·rw [if_pos hc,if_pos hc]
  cases ev (lnsB b.l) time e with
  | none=>exact ⟨rfl,rfl⟩
  | some m=>exact ⟨rfl,rfl⟩
 ·rw [if_neg hc,if_neg hc];exact ⟨rfl,rfl⟩
theorem an_exact {b:Bs} (hb:BInv b) (h5:FewB 500 b) (time:Int) (e:Ex):(anE b time e).err=10∨(anE b time e).err=(GrainU.ask (lnsB b.l) e time).2∧(anE b time e).cs=(GrainU.ask (lnsB b.l) e time).1:=by
 rcases askE_exact hb h5 time e with h | h
 ·left;unfold anE;rw [h]
 ·exact .inr (an_of hb h5 h)
end Go.GrainU
namespace Go.Proofs.YtoldmigappbjcaaGreatDoor
open Go.RowKit Go.GrainU
set_option maxHeartbeats 1000000 in
theorem ladd_any (h:ByteArray) (t v:Int) (w:World) (hh:h.size≤9223372036854775807) :
  Calls Tryz.prog 34 #[.string h,.int .i64 t,.int .i64 v] w fun e w'=>∃ S:Nat,e=.returned (.agg #[.int .i64 1,.int .i64 0,.int .i64 0,.slice (some ⟨S,0,none⟩) 1 1,.int .i64 t,.int .i64 v,.string ⟨#[]⟩])∧DIn w' ⟨dAdd h t v,some ⟨S,0,none⟩,1⟩∧Below w.heap.size w w':=by
 have FIN:∀ o,Hid (DIn ((w.alloc o).alloc (.cells #[.string hostB,.string h] 88)) ⟨dAdd h t v,some ⟨w.heap.size+1,0,none⟩,1⟩∧Below w.heap.size w ((w.alloc o).alloc (.cells #[.string hostB,.string h] 88))):=by
  intro o
  refine ⟨⟨?_,?_,fun h=>(by cases h),by show (ByteArray.mk #[]).size≤_;decide⟩,((Below.refl _ _).alloc (Nat.le_refl _) _).alloc (by simp) _⟩
  ·have:=seg_new (w.alloc o) #[.string hostB,.string h] 88
   simpa [dAdd,lcells] using this
  ·intro k hk
   have:k=0:=by simp [dAdd] at hk;exact hk
   subst this
   exact ⟨by show hostB.size≤_;decide,hh⟩
 have HF:=hide FIN
 clear FIN hh
 unfold hostB at HF
 go_enter Tryz.func34,Tryz.ntmps34
 go_wp2
 exact bodyPost_ret (v:=.agg #[.int .i64 1,.int .i64 0,.int .i64 0,.slice (some ⟨w.heap.size+1,0,none⟩) 1 1,.int .i64 t,.int .i64 v,.string ⟨#[]⟩]) (by simp [results,Tryz.results34,go_sem]) rfl ⟨_,rfl,(HF.out _).out.1,(HF.out _).out.2⟩
def alive9S:ByteArray:=⟨#[97,108,108,32,115,117,109,32,40,115,117,109,40,123,125,91,54,48,93,41,41]⟩
def alive9L:List Dn:=[dAdd ⟨#[120]⟩ 5 7,dAdd ⟨#[121]⟩ 6 8,dRoll 100,dAsk alive9S 60]
theorem alive9_l:(playB b0 alive9L).1.l.length=2:=by kernel_rfl
theorem alive9_a:(playB b0 alive9L).2.getD 3 ⟨1,0,[],0⟩=⟨0,0,[([],15)],2⟩:=by kernel_rfl
set_option maxRecDepth 20000 in
set_option maxHeartbeats 4000000 in
theorem lalive_any (w:World) (hv:ErrV w):Calls Tryz.prog 13 #[] w fun e w'=>e=.returned (.bool true)∧Below w.heap.size w w':=by
 have P1:=hide (ladd_any ⟨#[120]⟩ 5 7 w (by decide))
 have HV:=hide hv
 clear hv
 go_enter Tryz.func13,Tryz.ntmps13
 go_wp2_with fail
 refine P1.out.mono ?_
 rintro e w1 ⟨S,rfl,d1,b1⟩
 have P2:=hide (ladd_any ⟨#[121]⟩ 6 8 w1 (by decide))
 clear P1
 go_wp2_with fail
 refine P2.out.mono ?_
 rintro e w2 ⟨S2,rfl,d2,b2⟩
 have bel2:Below w.heap.size w w2:=b1.trans (b2.mono b1.size)
 have D1:=d1.below b2
 obtain ⟨W,hW⟩:∃ W,W=w2.alloc (.cells #[.int .i64 1,.int .i64 0,.int .i64 0,.slice (some ⟨S,0,none⟩) 1 1,.int .i64 5,.int .i64 7,.string ⟨#[]⟩,.int .i64 1,.int .i64 0,.int .i64 0,.slice (some ⟨S2,0,none⟩) 1 1,.int .i64 6,.int .i64 8,.string ⟨#[]⟩,.int .i64 2,.int .i64 0,.int .i64 100,.slice none 0 0,.int .i64 0,.int .i64 0,.string ⟨#[]⟩,.int .i64 4,.int .i64 0,.int .i64 60,.slice none 0 0,.int .i64 0,.int .i64 0,.string ⟨#[97,108,108,32,115,117,109,32,40,115,117,109,40,123,125,91,54,48,93,41,41]⟩] 36):=⟨_,rfl⟩
 have bW:Below w2.heap.size w2 W:=by rw [hW];exact (Below.refl _ _).alloc (Nat.le_refl _) _
 have belW:Below w.heap.size w W:=bel2.trans (bW.mono bel2.size)
 obtain ⟨l,hl⟩:∃ l:List DT,l=[⟨dAdd ⟨#[120]⟩ 5 7,some ⟨S,0,none⟩,1⟩,⟨dAdd ⟨#[121]⟩ 6 8,some ⟨S2,0,none⟩,1⟩,⟨dRoll 100,none,0⟩,⟨dAsk alive9S 60,none,0⟩]:=⟨_,rfl⟩
 have hd:dns l=alive9L:=by rw [hl];rfl
 have hl4:l.length=4:=by rw [hl];rfl
 have sg:Seg W (some ⟨w2.heap.size,0,none⟩) (dcells l):=by
  rw [hW,hl];exact seg_new w2 _ _
 have P3:=hide (play_any l (some ⟨w2.heap.size,0,none⟩) 4 4 W sg (fun x hx=>by
  rw [hl] at hx
  simp at hx
  rcases hx with e | e | e | e
  ·rw [e];exact D1.below bW
  ·rw [e];exact d2.below bW
  ·rw [e];exact din_none _ _ rfl (by show (ByteArray.mk #[]).size≤_;decide)
  ·rw [e];exact din_none _ _ rfl (by show alive9S.size≤_;decide)) hl4.symm (HV.out.below belW))
 have HW:=hide hW
 have HD:=hide hd
 have HL4:=hide hl4
 clear P2 d1 d2 D1 b1 b2 bel2 hW sg bW HV hd hl hl4
 go_wp2_with fail
 rw [← HW.out]
 refine P3.out.mono ?_
 intro e w3 hh
 rcases hh with ⟨h120,_⟩ | ⟨h120,ro,oo,rn,rc,d,hz,sl,ys,rfl,hrow,hli,hhz,hout,hys,b3⟩
 ·rw [HL4.out] at h120;exact absurd h120 (by decide)
 ·rw [HD.out] at hli hys
  rw [HL4.out] at hout ⊢
  have bel3:Below w.heap.size w w3:=belW.trans (b3.mono belW.size)
  have hrn:rn=2:=by
   have h1:=hrow.len
   have h2:=hli.len
   rw [h1,h2,alive9_l]
  have hyl:=hout.len
  obtain ⟨y,hy⟩:∃ y,y=ys.getD 3 ⟨⟨1,0,[],0⟩,[],none,0⟩:=⟨_,rfl⟩
  have hmy:3<ys.length:=by omega
  have yin:AnIn w3 y:=by
   rw [hy]
   refine hout.ans _ ?_
   simp only [List.getD,List.getElem?_eq_getElem hmy,Option.getD_some];exact List.getElem_mem hmy
  have ya:y.a=⟨0,0,[([],15)],2⟩:=by
   rw [← alive9_a,← hys,hy]
   simp [List.getD,List.getElem?_eq_getElem hmy]
  obtain ⟨bb,off,hoo,hcs⟩:∃ b off,oo=some ⟨b,off,none⟩∧∀ j,j<(acells4 ys).length→w3.cell? ⟨b,off+j,none⟩=(acells4 ys)[j]?:=by
   rcases own_seg' hout.own with h | ⟨b,off,h1,h2⟩
   ·have:=acells4_length ys
    rw [h] at this
    simp at this
    omega
   ·exact ⟨b,off,h1,h2⟩
  have hal:=acells4_length ys
  have cc:∀ j,j<4→w3.cell? ⟨bb,off+12+j,none⟩=y.cells[j]?:=fun j hj=>by
   rw [hy,← acells4_at ys 3 j hmy hj,Nat.add_assoc];exact hcs (3*4+j) (by omega)
  obtain ⟨ya',cts,co,cap⟩:=y
  simp only at ya
  subst ya
  have hc:=yin.cs
  have hci:=yin.inn
  simp only at hc hci
  have hl1:cts.length=1:=by have:=congrArg List.length hc;simpa [cls] using this
  have hk:0<cts.length:=by omega
  obtain ⟨b,off2,hco,hbb,hcell⟩:=seg_cell hci.seg hk
  have hv0:(ct cts 0).v=15:=by
   match cts,hl1,hc with
   | [c],_,h =>
    simp [cls,CT.cl] at h
    exact h.2
  have q1:w3.cell? ⟨b,off2+1,none⟩=some (.int .i64 15):=by
   have:=(hcell 0 hk).2
   rw [hv0] at this
   simpa using this
  have c2:w3.cell? ⟨bb,off+12+2,none⟩=some (.slice (some ⟨b,off2,none⟩) 1 cap):=by rw [← hco,← hl1];exact cc 2 (by omega)
  have c3:w3.cell? ⟨bb,off+12+3,none⟩=some (.int .i64 2):=cc 3 (by omega)
  have l1:bb<w3.heap.size:=World.block_lt_of_cell? w3 _ c2
  have l2:b<w3.heap.size:=World.block_lt_of_cell? w3 _ q1
  have HB:Hid (∀ o,Below w.heap.size w (w3.alloc o)):=fun o=>bel3.alloc bel3.size _
  subst hoo
  subst hrn
  clear P3 hrow hli hhz hout hys b3 bel3 hcs cc hal yin hc hci hcell hv0 hl1 hk hyl hmy hy h120 HW HD HL4
  go_wp2
  go_ret
  exact ⟨rfl,HB.out _⟩
open Go.RowKit Go.GrainU
def at0:AT:=⟨⟨1,0,[],0⟩,[],none,0⟩
end Go.Proofs.YtoldmigappbjcaaGreatDoor
namespace Go.GrainU
open Go.RowKit
theorem own_beside {w w':World} {base e size n:Nat} {v:Value} {xs:List Value} {r:Option Nat} (h:w.ownsRow base e size v n xs) (hg:w.grownBy w' r) (hne:∀ g,v.ownBlock=some g→r≠some g):w'.ownsRow base e size v n xs:=by
 refine ⟨h.1,?_⟩
 rcases h.2 with h0 | ⟨g,cap,cur,hv,hb,hgb,q⟩
 ·exact .inl h0
 ·refine .inr ⟨g,cap,cur,hv,hb,?_,q⟩
  have hlt:g<w.heap.size:=by
   rcases Nat.lt_or_ge g w.heap.size with h1 | h1
   ·exact h1
   ·rw [Array.getElem?_eq_none h1] at hgb;cases hgb
  rw [hg.block g hlt (fun e=>hne g (by rw [hv];rfl) e.symm)]
  exact hgb
theorem own_is {w:World} {base e size n:Nat} {v:Value} {xs:List Value} (h:w.ownsRow base e size v n xs):∀ k,v.ownBlock=some k→∃ c fr,w.heap[k]?=some (.cells c e fr):=by
 intro k hk
 rcases h.2 with ⟨hv,_⟩ | ⟨g,cap,cur,hv,_,hgb,_⟩
 ·rw [hv] at hk;cases hk
 ·rw [hv] at hk
  injection hk with hk
  subst hk
  exact ⟨_,_,hgb⟩
theorem own_two {w w':World} {base base' e e' size size' n n':Nat} {v v':Value} {xs xs':List Value} (h:w.ownsRow base e size v n xs) (h':w.ownsRow base' e' size' v' n' xs') (hg:w.grownBy w' v'.ownBlock) (hne:e≠e'):w'.ownsRow base e size v n xs:=by
 refine own_beside h hg (fun g h1 h2=>?_)
 obtain ⟨c,fr,k1⟩:=own_is h g h1
 obtain ⟨c',fr',k2⟩:=own_is h' g h2
 rw [k1] at k2
 injection k2 with k2
 injection k2 with _ k3 _
 exact hne k3
def Few8 (cs:List Cl):Prop:=cs.length≤8∧∀ c∈cs,c.1.length≤4
theorem few8_nil:Few8 []:=⟨by simp,fun c hc=>by cases hc⟩
theorem an_few {b:Bs} (hb:BInv b) (h5:FewB 500 b) (time:Int) (e:Ex):Few8 (anE b time e).cs:=by
 unfold anE
 cases ho:askE b time e with
 | error x=>exact few8_nil
 | ok m =>
  unfold askE overE at ho
  by_cases hc:chk e time=0
  ·rw [if_pos hc] at ho
   have hg:=evg_gd (base_gd hb h5 time) e (chk_zero hc).1 m ho
   exact ⟨hg.len,fun c hc=>(hg.fine c hc).2.2⟩
  ·rw [if_neg hc] at ho;cases ho
theorem do_few {b:Bs} (hb:BInv b) (h5:FewB 500 b) (d:Dn):Few8 (doB b d).2.cs:=by
 unfold doB
 by_cases k1:d.kind=1
 ·rw [if_pos k1];exact few8_nil
 rw [if_neg k1]
 by_cases k2:d.kind=2
 ·rw [if_pos k2];exact few8_nil
 rw [if_neg k2]
 by_cases k3:d.kind=3
 ·rw [if_pos k3];exact few8_nil
 rw [if_neg k3]
 by_cases k4:d.kind=4
 ·rw [if_pos k4]
  show Few8 (askB b d.tx d.till).cs
  unfold askB
  cases prs d.tx.data.toList with
  | error f=>exact few8_nil
  | ok e=>exact an_few hb h5 _ _
 ·rw [if_neg k4];exact few8_nil
theorem play_few:∀ (l:List Dn) (b:Bs) (m:Nat),BInv b→FewB m b→m+l.length≤500→∀ a∈(playB b l).2,Few8 a.cs
 | [],b,m,_,_,_=>fun a ha=>by simp [playB] at ha
 | d::r,b,m,hb,h5,hm=>fun a ha=>by
  simp only [List.length_cons] at hm
  have e:(playB b (d::r)).2=(doB b d).2::(playB (doB b d).1 r).2:=rfl
  rw [e] at ha
  rcases List.mem_cons.1 ha with q | q
  ·rw [q];exact do_few hb (h5.mono (by omega)) d
  ·exact play_few r _ (m+1) (doB_inv hb d) (doB_few h5 d) (by omega) a q
theorem few0:FewB 0 b0:=fun k hk=>by simp [b0] at hk
end Go.GrainU
namespace Go.Proofs.YtoldmigappbjcaaGreatDoor
open Go.RowKit Go.GrainU
theorem few_cts {y:AT} {w:World} (h:AnIn w y) (hf:Few8 y.a.cs):y.cts.length≤8∧∀ x∈y.cts,x.ser.length≤4:=by
 rw [← h.cs] at hf
 refine ⟨by have:=hf.1;rwa [cls_len] at this,fun x hx=>hf.2 x.cl (List.mem_map_of_mem hx)⟩
end Go.Proofs.YtoldmigappbjcaaGreatDoor
