import Derived.Test.YtoldmigappbjcaaGreatDoorK01
import Derived.Test.YtoldmigappbjcaaGreatDoorK02
import Derived.Test.YtoldmigappbjcaaGreatDoorK05
import Derived.Test.YtoldmigappbjcaaGreatDoorK07
import Derived.Test.YtoldmigappbjcaaGreatDoorK15
import Derived.Test.YtoldmigappbjcaaGreatDoorK28
import Derived.Test.YtoldmigappbjcaaGreatDoorK30
import Derived.Test.YtoldmigappbjcaaGreatDoorK31
import Derived.Test.YtoldmigappbjcaaGreatDoorTopText01
import Derived.Test.YtoldmigappbjcaaGreatDoorTopText02
import Derived.Test.YtoldmigappbjcaaGreatDoorTopText03
namespace Grain
theorem wrongAt_of {s:Shf} {tq:Int} (h:SR s) (h1:0≤tq) (h2:tq≤1000000):wrongAt s tq=0:=by
 unfold wrongAt
 rw [if_neg (by simp [(sr_iff s).2 h]),if_neg (by omega)]
theorem choose_gone {s:Shf} {f t:Int} (h0:swrong s=0) (h1:0≤f) (h2:f≤t) (h3:t≤1000000) (h:(choose s f t).2≠0):(choose s f t).2=10:=by
 unfold choose at *
 rw [if_neg (by simp [h0]),if_neg (by omega)] at *
 exact ((chs_all (s:=s) (f:=f) (tq:=t) (t-f).toNat f [] (by simp [cvr]) (fun i a b=>by simp at b) (by omega) (Nat.le_refl _)).2 h).2
theorem up_fewer (st:Int) {l:List (Int×Int)} (h:l.length≤1000000):(up l st).length≤l.length:=by
 have:=(up_fit st l h).len
 omega
end Grain
namespace Go.GrainU
open Go.RowKit
theorem playB_len:∀ (l:List Dn) (b:Bs),(playB b l).2.length=l.length
 | [],b=>rfl
 | x::r,b=>by simp [playB,playB_len r]
open Go.RowKit
theorem look_gone {s:Grain.Shf} (hs:Grain.swrong s=0) {f t:Int} (h1:0≤f) (h2:f≤t) (h3:t≤1000000) {E:Int} (h:lookS s f t=.error E):E=10:=by
 unfold lookS at h
 by_cases h0:(Grain.choose s f t).2=0
 ·rw [if_pos h0] at h
  obtain ⟨hc,_,hw⟩:=Grain.choose_ok h0
  have hf:=Grain.cvr_fol hc
  have hr:Grain.read s (Grain.choose s f t).1=(Grain.rdS s (Grain.choose s f t).1,(Grain.rdN s (Grain.choose s f t).1:Int),0):=by
   unfold Grain.read
   rw [if_neg (by simp [hw]),if_neg (by rw [hf];decide)]
  rw [hr] at h
  simp at h
 ·rw [if_neg h0] at h
  injection h with h
  rw [← h];exact Grain.choose_gone hs h1 h2 h3 h0
open Go.RowKit
theorem putB_no {b:Bs} {i:Nat} {t v:Int} (h:(putB b i t v).2≠0):(putB b i t v).1=b:=by
 unfold putB at *
 by_cases h1:(Grain.sapp (kp b.l i).s t v).2=0
 ·rw [if_pos h1] at h;exact absurd rfl h
 ·rw [if_neg h1]
theorem putN_no {b:Bs} {i:Nat} {s:Lb} {t v:Int} (h:(putN b i s t v).2≠0):(putN b i s t v).1=b:=by
 unfold putN at *
 by_cases h1:8≤b.l.length
 ·rw [if_pos h1]
 rw [if_neg h1] at h ⊢
 by_cases h2:(Grain.sroll (newS s) b.hz).2≠0
 ·rw [if_pos h2]
 rw [if_neg h2] at h ⊢
 by_cases h3:(Grain.sapp (Grain.sroll (newS s) b.hz).1 t v).2≠0
 ·rw [if_pos h3]
 rw [if_neg h3] at h
 exact absurd rfl h
theorem takeB_no {b:Bs} {s:Lb} {t v:Int} (h:(takeB b s t v).2≠0):(takeB b s t v).1=b:=by
 unfold takeB at *
 by_cases h1:wrongS s≠0
 ·rw [if_pos h1]
 rw [if_neg h1] at h ⊢
 by_cases h2:Grain.inR t v=false
 ·rw [if_pos h2]
 rw [if_neg h2] at h ⊢
 by_cases h3:t<b.hz
 ·rw [if_pos h3]
 rw [if_neg h3] at h ⊢
 by_cases h4:bhas b.l s=true
 ·rw [if_pos h4] at h ⊢;exact putB_no h
 ·rw [if_neg h4] at h ⊢;exact putN_no h
open Go.RowKit
def lnn (o:List Ln) (k:Nat):Ln:=o.getD k ([],[])
def lpos (o:List Ln) (s:Lb):Nat:=(o.takeWhile fun x=>decide (cmpS x.1 s<0)).length
def lhas (o:List Ln) (s:Lb):Bool:=decide (lpos o s<o.length) && decide (cmpS (lnn o (lpos o s)).1 s=0)
def tellP (o:List Ln) (s:Lb) (x:Int×Int):List Ln :=
 if lhas o s=true then o.set (lpos o s) ((lnn o (lpos o s)).1,(lnn o (lpos o s)).2++[x]) else o.take (lpos o s)++[(s,[x])]++o.drop (lpos o s)
theorem lnsB_len (l:List Kp):(lnsB l).length=l.length:=by simp [lnsB]
theorem lnn_lnsB {l:List Kp} {k:Nat} (h:k<l.length):lnn (lnsB l) k=((kp l k).s.se,(kp l k).A):=by
 rw [kp_get h]
 simp [lnn,lnsB,List.getD,h]
theorem lpos_lnsB (s:Lb):∀ l:List Kp,lpos (lnsB l) s=bpos l s
 | []=>rfl
 | k::r=>by
  have ih:=lpos_lnsB s r
  unfold lpos bpos lnsB at *
  by_cases h:cmpS k.s.se s<0
  ·simp only [List.map_cons,List.takeWhile_cons,h,decide_true,if_true,List.length_cons]
   rw [ih]
  ·simp [h]
theorem lhas_lnsB (l:List Kp) (s:Lb):lhas (lnsB l) s=bhas l s:=by
 unfold lhas bhas
 rw [lpos_lnsB,lnsB_len]
 by_cases h:bpos l s<l.length
 ·rw [lnn_lnsB h]
 ·simp [h]
theorem lnsB_set (l:List Kp) (i:Nat) (k:Kp):lnsB (l.set i k)=(lnsB l).set i (k.s.se,k.A):=by
 unfold lnsB
 rw [List.map_set]
theorem tell_take {b:Bs} {s:Lb} {t v:Int} (h:(takeB b s t v).2=0):lnsB (takeB b s t v).1.l=tellP (lnsB b.l) s (t,v):=by
 unfold takeB at *
 by_cases h1:wrongS s≠0
 ·rw [if_pos h1] at h;exact absurd h h1
 rw [if_neg h1] at h ⊢
 by_cases h2:Grain.inR t v=false
 ·rw [if_pos h2] at h;exact absurd h (by simp)
 rw [if_neg h2] at h ⊢
 by_cases h3:t<b.hz
 ·rw [if_pos h3] at h;exact absurd h (by simp)
 rw [if_neg h3] at h ⊢
 unfold tellP
 rw [lhas_lnsB,lpos_lnsB]
 by_cases h4:bhas b.l s=true
 ·rw [if_pos h4] at h ⊢
  rw [if_pos h4,lnn_lnsB (bhas_lt h4)]
  unfold putB at *
  by_cases h5:(Grain.sapp (kp b.l (bpos b.l s)).s t v).2=0
  ·rw [if_pos h5]
   show lnsB (b.l.set _ _)=_
   rw [lnsB_set]
   simp only [(sapp_same h5).1]
  ·rw [if_neg h5] at h;exact absurd h h5
 ·rw [if_neg h4] at h ⊢
  rw [if_neg h4]
  unfold putN at *
  by_cases h5:8≤b.l.length
  ·rw [if_pos h5] at h;exact absurd h (by simp)
  rw [if_neg h5] at h ⊢
  by_cases h6:(Grain.sroll (newS s) b.hz).2≠0
  ·rw [if_pos h6] at h;exact absurd h h6
  rw [if_neg h6] at h ⊢
  by_cases h7:(Grain.sapp (Grain.sroll (newS s) b.hz).1 t v).2≠0
  ·rw [if_pos h7] at h;exact absurd h h7
  rw [if_neg h7]
  have e1:=sroll_same (Decidable.not_not.1 h6)
  have e2:=sapp_same (Decidable.not_not.1 h7)
  have ese:(Grain.sapp (Grain.sroll (newS s) b.hz).1 t v).1.se=s:=by rw [e2.1,e1.1];rfl
  show lnsB (b.l.take _++[_]++b.l.drop _)=_
  unfold lnsB
  simp [List.map_append,List.map_take,List.map_drop,ese]
end Go.GrainU
namespace Grain
theorem chs_raw {s:Shf} (hr:s.rf=0) {t:Int} (ht:t≤1000000):∀ (n:Nat) (a:Int) (out:List Pt),0≤a→(chs s t n a out).2=0:=by
 intro n
 induction n with
 | zero=>intro a out _;rfl
 | succ n ih =>
  intro a out h0
  by_cases e:a<t
  ·rw [chs,if_pos e]
   have m:may s (nxt s a t)=true∧0≤(nxt s a t).t:=by
    unfold nxt
    by_cases c1:a+60≤t∧may s ⟨2,a,a+60⟩=true
    ·rw [if_pos c1];exact ⟨c1.2,by simp only;omega⟩
    rw [if_neg c1]
    by_cases c2:a+10≤t∧may s ⟨1,a,a+10⟩=true
    ·rw [if_pos c2];exact ⟨c2.2,by simp only;omega⟩
    rw [if_neg c2]
    by_cases c3:s.ft≤a
    ·rw [if_pos c3]
     refine ⟨?_,by simp only;omega⟩
     unfold may
     rw [if_neg (by simp only;omega),if_pos rfl]
     simp only [decide_eq_true_eq]
     omega
    ·rw [if_neg c3]
     refine ⟨?_,by simp only;omega⟩
     unfold may
     rw [if_neg (by simp only;omega),if_pos rfl]
     simp only [decide_eq_true_eq]
     omega
   rw [if_pos m.1];exact ih _ _ m.2
  ·rw [chs_end e]
theorem choose_raw {s:Shf} (sr:SR s) (hr:s.rf=0) {f t:Int} (h0:0≤f) (hft:f≤t) (ht:t≤1000000):(choose s f t).2=0:=by
 unfold choose
 rw [if_neg (by simp [(sr_iff s).2 sr]),if_neg (by omega)]
 exact chs_raw hr ht _ _ _ h0
end Grain
namespace Go.GrainU
open Go.RowKit
theorem evg_same {f g:Hd→Except Int (List Cl)} (hf:∀ h,winBad h=0→f h=g h):∀ x:Ex,Rt x→evG f x=evG g x:=by
 refine Ex.ind ?_
 intro h kids ih hrt
 obtain ⟨ha,hk⟩:=Rt.parts hrt
 have hL:∀ ks:List Ex,(∀ k∈ks,k∈kids)→evGL f ks=evGL g ks:=by
  intro ks
  induction ks with
  | nil=>intro _;rfl
  | cons a r ihr =>
   intro hm
   rw [evGL,evGL,ih a (hm a (by simp)) (hk a (hm a (by simp))),ihr (fun k hk'=>hm k (by simp [hk']))]
 rw [evG,evG,hL kids (fun k hk=>hk)]
 by_cases e1:h.kind=1
 ·rw [if_pos e1,if_pos e1]
 rw [if_neg e1,if_neg e1]
 by_cases e2:h.kind=2
 ·rw [if_pos e2,if_pos e2]
  have hwb:winBad h=0:=by
   rcases alone_cases ha with ⟨q,_⟩ | ⟨_,_,q⟩ | ⟨q,_⟩ | ⟨q,_⟩
   ·omega
   ·exact q
   ·omega
   ·omega
  rw [hf h hwb]
 rw [if_neg e2,if_neg e2]
theorem winT_error {S:Nat→Except Int Grain.Sm} {h:Hd} {l:List ST} {x:Int}:∀ n:Nat,winT S h l n=.error x→∃ i,i<n∧S i=.error x
 | 0,e=>by simp [winT] at e
 | n+1,e=>by
  rw [winT] at e
  cases hp:winT S h l n with
  | error y =>
   rw [hp] at e
   injection e with e
   subst e
   obtain ⟨i,hi,hs⟩:=winT_error n hp
   exact ⟨i,by omega,hs⟩
  | ok c =>
   rw [hp] at e
   by_cases hs:says (st l n).ser h.ms=true
   ·simp only [hs,if_true] at e
    cases hS:S n with
    | error y =>
     rw [hS] at e
     injection e with e
     subst e
     exact ⟨n,by omega,hS⟩
    | ok J=>rw [hS] at e;simp at e
   ·simp [hs] at e
def Whole (b:Bs):Prop:=∀ k∈b.l,k.s.rf=0
theorem look_raw {s:Grain.Shf} (sr:Grain.SR s) (hr:s.rf=0) {f t:Int} (h0:0≤f) (hft:f≤t) (ht:t≤1000000):∃ J,lookS s f t=.ok J:=by
 have hc:=Grain.choose_raw sr hr h0 hft ht
 obtain ⟨hv,_,hw⟩:=Grain.choose_ok hc
 have hf:=Grain.cvr_fol hv
 have hrd:Grain.read s (Grain.choose s f t).1=(Grain.rdS s (Grain.choose s f t).1,(Grain.rdN s (Grain.choose s f t).1:Int),0):=by
  unfold Grain.read
  rw [if_neg (by simp [hw]),if_neg (by rw [hf];decide)]
 unfold lookS
 rw [if_pos hc,hrd]
 exact ⟨_,rfl⟩
theorem winT_base {b:Bs} (hb:BInv b) (h5:FewB 500 b) {time:Int} (t0:0≤time) (t1:time≤1000000) (h:Hd) (hw:winBad h=0) :
  overW (fun i f t=>lookS (kp b.l i).s f t) (sersB b.l) b.l.length time h=.error 10∨overW (fun i f t=>lookS (kp b.l i).s f t) (sersB b.l) b.l.length time h=.ok (winC (lnsB b.l) h time):=by
 obtain ⟨_,_,_,r1,r2⟩:=winBad_ok hw
 cases ho:overW (fun i f t=>lookS (kp b.l i).s f t) (sersB b.l) b.l.length time h with
 | error x =>
  left
  obtain ⟨i,hi,hs⟩:=winT_error _ ho
  have:=look_gone ((Grain.sr_iff _).2 (hb.kee _ (kp_mem hi)).sr) (by omega) (by omega) t1 hs
  rw [this]
 | ok c =>
  right
  have e:=winT_keeps hb.kee h5 h time b.l.length (Nat.le_refl _) c ho
  rw [List.take_of_length_le (Nat.le_refl _)] at e
  rw [e]
theorem winT_whole {b:Bs} (hb:BInv b) (hr:Whole b) {time:Int} (t0:0≤time) (t1:time≤1000000) (h:Hd) (hw:winBad h=0) :
  overW (fun i f t=>lookS (kp b.l i).s f t) (sersB b.l) b.l.length time h≠.error 10:=by
 obtain ⟨_,_,_,r1,r2⟩:=winBad_ok hw
 intro ho
 obtain ⟨i,hi,hs⟩:=winT_error _ ho
 obtain ⟨J,hJ⟩:=look_raw (hb.kee _ (kp_mem hi)).sr (hr _ (kp_mem hi)) (f:=max 0 (time-h.range)) (t:=time) (by omega) (by omega) t1
 have hs':lookS (kp b.l i).s (max 0 (time-h.range)) time=.error 10:=hs
 rw [hJ] at hs'
 cases hs'
theorem askE_whole {b:Bs} (hb:BInv b) (h5:FewB 500 b) (hr:Whole b) (time:Int) (e:Ex):askE b time e=(if chk e time=0 then exc (ev (lnsB b.l) time e) else .error (chk e time)):=by
 unfold askE overE
 by_cases hc:chk e time=0
 ·rw [if_pos hc,if_pos hc]
  obtain ⟨hrt,t0,t1⟩:=chk_zero hc
  have hf:∀ h,winBad h=0→overW (fun i f t=>lookS (kp b.l i).s f t) (sersB b.l) b.l.length time h=.ok (winC (lnsB b.l) h time):=fun h hw=>(winT_base hb h5 t0 t1 h hw).resolve_left (winT_whole hb hr t0 t1 h hw)
  have hf2:∀ x:Ex,Rt x→evG (overW (fun i f t=>lookS (kp b.l i).s f t) (sersB b.l) b.l.length time) x=evG (fun h=>.ok (winC (lnsB b.l) h time)) x:=evg_same hf
  rw [hf2 e hrt,evg_ev]
 ·rw [if_neg hc,if_neg hc]
theorem lnsB_right {b:Bs} (hb:BInv b) (h5:FewB 500 b):(wrLn (lnsB b.l)).1=0:=by
 have hl:¬ 8<(lnsB b.l).length:=by rw [lnsB_len];have:=hb.len;omega
 unfold wrLn
 rw [if_neg hl,wrLF_of]
 intro j _ hj
 rw [lnsB_len] at hj
 have hj':j<b.l.length:=by omega
 have e1:∀ i,i<b.l.length→lser (lnsB b.l) i=(kp b.l i).s.se∧lsmp (lnsB b.l) i=(kp b.l i).A:=fun i hi=>by
  have:=lnn_lnsB hi
  unfold lnn at this
  unfold lser lsmp
  rw [this];exact ⟨rfl,rfl⟩
 have hk:=hb.kee _ (kp_mem hj')
 have ha:lnAlone (lser (lnsB b.l) j,lsmp (lnsB b.l) j)=0:=by
  unfold lnAlone
  rw [(e1 j hj').1,(e1 j hj').2]
  have hs:wrongS (kp b.l j).s.se=0:=hk.sr.se
  rw [if_pos hs]
  exact (Grain.right_iff _).2 ⟨h5 _ (kp_mem hj'),hk.took.rin,hk.took.pw⟩
 unfold lnBad
 rw [if_pos ha,if_neg]
 rintro ⟨h0,h1⟩
 rw [(e1 j hj').1,(e1 (j-1) (by omega)).1,kp_get hj',kp_get (by omega:j-1<b.l.length)] at h1
 have:=(List.pairwise_iff_getElem.1 hb.srt) (j-1) j (by omega) hj' (by omega)
 omega
theorem ask_lnsB {b:Bs} (hb:BInv b) (h5:FewB 500 b) (time:Int) (e:Ex):GrainU.ask (lnsB b.l) e time=(if chk e time=0 then (match ev (lnsB b.l) time e with | none=>([],3) | some m=>(m.cs,0)) else ([],chk e time)):=by
 unfold GrainU.ask
 rw [if_pos (lnsB_right hb h5)]
 rfl
theorem an_of {b:Bs} {time:Int} {e:Ex} (hb:BInv b) (h5:FewB 500 b) (h:askE b time e=(if chk e time=0 then exc (ev (lnsB b.l) time e) else .error (chk e time))) :
  (anE b time e).err=(GrainU.ask (lnsB b.l) e time).2∧(anE b time e).cs=(GrainU.ask (lnsB b.l) e time).1:=by
 rw [ask_lnsB hb h5]
 unfold anE
 rw [h]
 by_cases hc:chk e time=0
 ·rw [if_pos hc,if_pos hc]
  cases ev (lnsB b.l) time e with
  | none=>exact ⟨rfl,rfl⟩
  | some m=>exact ⟨rfl,rfl⟩
 ·rw [if_neg hc,if_neg hc];exact ⟨rfl,rfl⟩
theorem an_whole {b:Bs} (hb:BInv b) (h5:FewB 500 b) (hr:Whole b) (time:Int) (e:Ex):(anE b time e).err=(GrainU.ask (lnsB b.l) e time).2∧(anE b time e).cs=(GrainU.ask (lnsB b.l) e time).1:=an_of hb h5 (askE_whole hb h5 hr time e)
end Go.GrainU
namespace Grain
theorem sroll_ok {s:Shf} {A:List (Int×Int)} (h:Keeps s A) (h5:A.length≤500) {t:Int} (h0:0≤t) (h1:t≤1000000):(sroll s t).2=0:=by
 have f1:=h.sr.fsp
 have f2:=h.sr.csp
 have f3:=h.sr.bd
 have hb:=beg_bd (t:=t) (st:=10) (.inl rfl) h0
 have g1:s.ft≤nft s t∧nft s t≤1000000∧nft s t%10=0∧0≤nft s t:=by
  unfold nft;omega
 have hb2:=beg_bd (t:=nft s t) (st:=60) (.inr rfl) g1.2.2.2
 have g2:s.ct≤nct s t∧nct s t≤nft s t∧nct s t%60=0∧0≤nct s t:=by
  unfold nct;omega
 have e1:nfi s t=up (win A s.ff (nft s t)) 10:=by
  unfold nfi
  rw [h.ra,win_ra f3.2.1,h.fi,up_split (.inl rfl) f1.2.1 f1.2.2.2.1 g1.1 h.took]
 have e2:nco s t=up (win A s.cf (nct s t)) 60:=by
  unfold nco
  rw [e1,up_winB f1.1 (by omega) (by omega) f3.2.2.1 g2.1 g2.2.1 h.took,great_up _ (h.took.win_len (by omega) (by omega) g2.1),h.co,← up_split (.inr rfl) f2.2.1 f2.2.2.2.1 g2.1 h.took]
 have l1:(nfi s t).length≤500:=by
  rw [e1]
  have a:=win_len A s.ff (nft s t)
  have:=up_fewer 10 (l:=win A s.ff (nft s t)) (by omega)
  omega
 have l2:(nco s t).length≤500:=by
  rw [e2]
  have a:=win_len A s.cf (nct s t)
  have:=up_fewer 60 (l:=win A s.cf (nct s t)) (by omega)
  omega
 unfold sroll
 rw [if_neg (by rw [wrongAt_of h.sr h0 h1];simp),if_neg (by omega),if_neg (by omega)]
theorem sroll_ra {s:Shf} {t:Int} (h:(sroll s t).2=0):(sroll s t).1.ra=s.ra:=by
 unfold sroll at *
 repeat' (split at h)
 all_goals first | (exfalso;simp_all;done) | skip
 all_goals (simp_all;try (repeat rw [if_neg (by omega)]);try simp)
theorem sapp_err {s:Shf} {A:List (Int×Int)} (h:Keeps s A) (h5:s.ra.length<500) {t v:Int} (hin:inR t v=true):(sapp s t v).2=if late s t=true then 9 else 0:=by
 unfold sapp
 rw [if_neg (by rw [(sr_iff s).2 h.sr];simp),if_neg (by rw [hin];decide)]
 by_cases hl:late s t=true
 ·rw [if_pos hl,if_pos hl]
 ·rw [if_neg hl,if_neg hl,if_neg (by omega)]
end Grain
namespace Go.GrainU
open Go.RowKit
end Go.GrainU
namespace Grain
theorem whole_ra {s:Shf} {A:List (Int×Int)} (h:Keeps s A) (hr:s.rf=0):s.ra=A:=by
 rw [h.ra,hr,List.filter_eq_self]
 intro x hx
 have:=h.took.rin x hx
 simp [inR] at this
 simp
 omega
theorem sapp_rf {s:Shf} {t v:Int} (h:(sapp s t v).2=0):(sapp s t v).1.rf=s.rf:=by
 unfold sapp at *
 repeat' (split at h)
 all_goals first | (exfalso;simp_all;done) | skip
 all_goals (simp_all;try (repeat rw [if_neg (by omega)]);try simp)
theorem sroll_rf {s:Shf} {t:Int} (h:(sroll s t).2=0):(sroll s t).1.rf=s.rf:=by
 unfold sroll at *
 repeat' (split at h)
 all_goals first | (exfalso;simp_all;done) | skip
 all_goals (simp_all;try (repeat rw [if_neg (by omega)]);try simp)
end Grain
namespace Go.GrainU
open Go.RowKit
theorem whole_take {b:Bs} (h:Whole b) (s:Lb) (t v:Int):Whole (takeB b s t v).1:=by
 by_cases he:(takeB b s t v).2=0
 ·unfold takeB at *
  by_cases h1:wrongS s≠0
  ·rw [if_pos h1];exact h
  rw [if_neg h1] at he ⊢
  by_cases h2:Grain.inR t v=false
  ·rw [if_pos h2];exact h
  rw [if_neg h2] at he ⊢
  by_cases h3:t<b.hz
  ·rw [if_pos h3];exact h
  rw [if_neg h3] at he ⊢
  by_cases h4:bhas b.l s=true
  ·rw [if_pos h4] at he ⊢
   unfold putB at *
   by_cases h5:(Grain.sapp (kp b.l (bpos b.l s)).s t v).2=0
   ·rw [if_pos h5]
    intro k hk
    rcases List.mem_or_eq_of_mem_set hk with e | e
    ·exact h k e
    ·rw [e]
     show (Grain.sapp _ t v).1.rf=0
     rw [Grain.sapp_rf h5];exact h _ (kp_mem (bhas_lt h4))
   ·rw [if_neg h5];exact h
  ·rw [if_neg h4] at he ⊢
   unfold putN at *
   by_cases h5:8≤b.l.length
   ·rw [if_pos h5];exact h
   rw [if_neg h5] at he ⊢
   by_cases h6:(Grain.sroll (newS s) b.hz).2≠0
   ·rw [if_pos h6];exact h
   rw [if_neg h6] at he ⊢
   by_cases h7:(Grain.sapp (Grain.sroll (newS s) b.hz).1 t v).2≠0
   ·rw [if_pos h7];exact h
   rw [if_neg h7]
   intro k hk
   rcases List.mem_append.1 hk with hk | hk
   ·rcases List.mem_append.1 hk with hk | hk
    ·exact h k (List.mem_of_mem_take hk)
    ·simp at hk
     rw [hk]
     show (Grain.sapp _ t v).1.rf=0
     rw [Grain.sapp_rf (Decidable.not_not.1 h7),Grain.sroll_rf (Decidable.not_not.1 h6)];rfl
   ·exact h k (List.mem_of_mem_drop hk)
 ·rw [takeB_no he];exact h
theorem putB_err (b:Bs) (i:Nat) (t v:Int):(putB b i t v).2=(Grain.sapp (kp b.l i).s t v).2:=by
 unfold putB
 by_cases h:(Grain.sapp (kp b.l i).s t v).2=0
 ·rw [if_pos h,h]
 ·rw [if_neg h]
theorem putN_err {b:Bs} (hb:BInv b) {s:Lb} (hs:wrongS s=0) {t v:Int} (hin:Grain.inR t v=true) (ht:¬ t<b.hz) (i:Nat):(putN b i s t v).2=if 8≤b.l.length then 5 else 0:=by
 have hz:=hb.hz
 have hk0:Grain.Keeps (newS s) []:=Grain.keeps_new hs
 have r0:=Grain.sroll_ok hk0 (by simp) hz.2.1 hz.2.2
 have k0:=Grain.keeps_roll hk0 r0
 have hra0:(Grain.sroll (newS s) b.hz).1.ra=[]:=by rw [Grain.sroll_ra r0];rfl
 have he:=Grain.sapp_err k0 (by rw [hra0];simp) hin
 have hl:Grain.late (Grain.sroll (newS s) b.hz).1 t=false:=by
  unfold Grain.late
  rw [(sroll_same r0).2,hra0]
  have:Grain.nft (newS s) b.hz=b.hz:=by
   show max 0 (Grain.beg b.hz 10)=_
   unfold Grain.beg;omega
  rw [this]
  simp [ht]
 rw [hl,if_neg (by decide)] at he
 unfold putN
 by_cases h8:8≤b.l.length
 ·rw [if_pos h8,if_pos h8]
 ·rw [if_neg h8,if_neg (by simp [r0]),if_neg (by simp [he]),if_neg h8]
theorem takeB_hz (b:Bs) (s:Lb) (t v:Int):(takeB b s t v).1.hz=b.hz:=by
 unfold takeB putB putN
 repeat' split
 all_goals rfl
end Go.GrainU
namespace Go.Proofs.YtoldmigappbjcaaGreatDoor
open Go.RowKit Go.GrainU
set_option maxHeartbeats 1000000 in
theorem tadd_any (h:ByteArray) (t v:Int) (w:World) (hh:h.size≤9223372036854775807) :
  Calls Tryz.prog 33 #[.string h,.int .i64 t,.int .i64 v] w fun e w'=>∃ S:Nat,e=.returned (.agg #[.int .i64 1,.int .i64 0,.int .i64 0,.slice (some ⟨S,0,none⟩) 1 1,.int .i64 t,.int .i64 v,.string ⟨#[]⟩])∧DIn w' ⟨dAdd h t v,some ⟨S,0,none⟩,1⟩∧Below w.heap.size w w':=by
 have FIN:∀ o,Hid (DIn ((w.alloc o).alloc (.cells #[.string hostB,.string h] 88)) ⟨dAdd h t v,some ⟨w.heap.size+1,0,none⟩,1⟩∧Below w.heap.size w ((w.alloc o).alloc (.cells #[.string hostB,.string h] 88))):=by
  intro o
  refine ⟨⟨?_,?_,fun h=>(by cases h),by show (ByteArray.mk #[]).size≤_;decide⟩,((Below.refl _ _).alloc (Nat.le_refl _) _).alloc (by simp) _⟩
  ·have:=seg_new (w.alloc o) #[.string hostB,.string h] 88
   simpa [dAdd,lcells] using this
  ·intro k hk
   have:k=0:=by simp [dAdd] at hk;exact hk
   subst this
   exact ⟨by show hostB.size≤_;decide,hh⟩
 have HF:=hide FIN
 clear FIN hh
 unfold hostB at HF
 go_enter Tryz.func33,Tryz.ntmps33
 go_wp2
 exact bodyPost_ret (v:=.agg #[.int .i64 1,.int .i64 0,.int .i64 0,.slice (some ⟨w.heap.size+1,0,none⟩) 1 1,.int .i64 t,.int .i64 v,.string ⟨#[]⟩]) (by simp [results,Tryz.results33,go_sem]) rfl ⟨_,rfl,(HF.out _).out.1,(HF.out _).out.2⟩
set_option maxHeartbeats 1000000 in
theorem task_any (s:ByteArray) (t:Int) (w:World) :
  Calls Tryz.prog 29 #[.string s,.int .i64 t] w fun e w'=>e=.returned (.agg #[.int .i64 4,.int .i64 0,.int .i64 t,.slice none 0 0,.int .i64 0,.int .i64 0,.string s])∧Below w.heap.size w w':=by
 have bel:∀ o,Below w.heap.size w (w.alloc o):=fun o=>(Below.refl _ _).alloc (Nat.le_refl _) _
 have HB:=hide bel
 clear bel
 go_enter Tryz.func29,Tryz.ntmps29
 go_wp2
 exact bodyPost_ret (v:=.agg #[.int .i64 4,.int .i64 0,.int .i64 t,.slice none 0 0,.int .i64 0,.int .i64 0,.string s]) (by simp [results,Tryz.results29,go_sem]) rfl ⟨rfl,HB.out _⟩
set_option maxHeartbeats 1000000 in
theorem troll_any (t:Int) (w:World) :
  Calls Tryz.prog 25 #[.int .i64 t] w fun e w'=>e=.returned (.agg #[.int .i64 2,.int .i64 0,.int .i64 t,.slice none 0 0,.int .i64 0,.int .i64 0,.string ⟨#[]⟩])∧Below w.heap.size w w':=by
 have bel:∀ o,Below w.heap.size w (w.alloc o):=fun o=>(Below.refl _ _).alloc (Nat.le_refl _) _
 have HB:=hide bel
 clear bel
 go_enter Tryz.func25,Tryz.ntmps25
 go_wp2
 exact bodyPost_ret (v:=.agg #[.int .i64 2,.int .i64 0,.int .i64 t,.slice none 0 0,.int .i64 0,.int .i64 0,.string ⟨#[]⟩]) (by simp [results,Tryz.results25,go_sem]) rfl ⟨rfl,HB.out _⟩
def lastA (l:List Dn):An:=if 120<l.length∨l.length=0 then ⟨1,0,[],0⟩ else (playB b0 l).2.getD (l.length-1) ⟨1,0,[],0⟩
set_option maxRecDepth 20000 in
set_option maxHeartbeats 2000000 in
theorem last_any (l:List DT) (ao:Option Addr) (n cap:Nat) (w:World) (hs:Seg w ao (dcells l)) (hd:∀ x∈l,DIn w x) (hn:n=l.length) (hv:ErrV w) :
  Calls Tryz.prog 28 #[.slice ao n cap] w fun e w'=>∃ y:AT,e=.returned (.agg #[.int .i64 y.a.err,.int .i64 y.a.pos,.slice y.co y.cts.length y.cap,.int .i64 y.a.cost])∧y.a=lastA (dns l)∧AnIn w' y∧Below w.heap.size w w':=by
 obtain ⟨V,hV⟩:∃ V,V=w.alloc (.cells #[.int .i64 0,.int .i64 0,.slice none 0 0,.int .i64 0] 48):=⟨_,rfl⟩
 have bel:Below w.heap.size w V:=by rw [hV];exact (Below.refl _ _).alloc (Nat.le_refl _) _
 have R0:V.heap[w.heap.size]?=some (.cells #[.int .i64 0,.int .i64 0,.slice none 0 0,.int .i64 0] 48 (0,0)):=by rw [hV];exact heap_alloc_new w _
 have P:=hide (play_any l ao n cap V (hs.below bel) (fun x hx=>(hd x hx).below bel) hn (hv.below bel))
 have HN:=hide hn
 have HV:=hide hV
 have hlen:(dns l).length=l.length:=by simp [dns]
 have HLen:=hide hlen
 clear hV hs hd hn hv hlen
 go_enter Tryz.func28,Tryz.ntmps28
 go_wp2_with fail
 rw [← HV.out]
 refine P.out.mono ?_
 intro e w1 hh
 have HH:=hide hh
 clear hh P
 rcases HH.out with ⟨h120,rfl,b1⟩ | ⟨h120,ro,oo,rn,rc,d,hz,sl,ys,rfl,hrow,hli,hhz,hout,hys,b1⟩
 ·have R1:=below_block b1 R0
  have bel1:Below w.heap.size w w1:=bel.trans (b1.mono bel.size)
  obtain ⟨W2,hW2⟩:∃ W2,W2=w1.alloc (.cells #[.slice none 0 0,.int .i64 0] 26):=⟨_,rfl⟩
  have b2:Below w1.heap.size w1 W2:=by rw [hW2];exact (Below.refl _ _).alloc (Nat.le_refl _) _
  have R2:=below_block b2 R1
  have bel2:Below w.heap.size w W2:=bel1.trans (b2.mono bel1.size)
  obtain ⟨r0,r1,r2,r3,f0,f1,f2,f3⟩:=four_cells R2
  have HA:Hid (lastA (dns l)=⟨1,0,[],0⟩):=by show _=_;unfold lastA;rw [HLen.out,if_pos (.inl h120)]
  have HW2:=hide hW2
  have HB2:=hide bel2
  clear HH hW2 R1 b1 b2 bel1 bel2 R0 R2
  go_upto_region 2 with fail
  rw [← HW2.out]
  go_wp2
  exact bodyPost_ret (v:=.agg #[.int .i64 1,.int .i64 0,.slice none 0 0,.int .i64 0]) (by simp [results,Tryz.results28,go_sem,r0,r1,r2,r3]) rfl ⟨⟨⟨1,0,[],0⟩,[],none,0⟩,rfl,HA.out.symm,⟨rfl,.inl rfl,fun c hc=>(by cases hc),.inl rfl,fun c hc=>(by cases hc)⟩,below_set4 HB2.out (Nat.le_refl _) _ _ _ _⟩
 ·have R1:=below_block b1 R0
  have bel1:Below w.heap.size w w1:=bel.trans (b1.mono bel.size)
  obtain ⟨W2,hW2⟩:∃ W2,W2=w1.alloc (.cells #[.slice ro rn rc,.int .i64 hz] 26):=⟨_,rfl⟩
  have b2:Below w1.heap.size w1 W2:=by rw [hW2];exact (Below.refl _ _).alloc (Nat.le_refl _) _
  have R2:=below_block b2 R1
  have bel2:Below w.heap.size w W2:=bel1.trans (b2.mono bel1.size)
  have out2:=hout.below b2
  obtain ⟨r0,r1,r2,r3,f0,f1,f2,f3⟩:=four_cells R2
  have hnl:n=l.length:=HN.out
  have HW2:=hide hW2
  have HB2:=hide bel2
  have HO:=hide out2
  have HYS:=hide hys
  have HR2:=hide R2
  rw [← hnl] at out2 h120 ⊢
  clear HH hW2 R1 b1 b2 bel1 bel2 R0 R2 hrow hli hhz hout hys hnl
  by_cases h0:n=0
  ·have HA:Hid (lastA (dns l)=⟨1,0,[],0⟩):=by show _=_;unfold lastA;rw [HLen.out,← HN.out,if_pos (.inr h0)]
   subst h0
   clear out2
   go_upto_region 2 with fail
   rw [← HW2.out]
   go_wp2
   exact bodyPost_ret (v:=.agg #[.int .i64 1,.int .i64 0,.slice none 0 0,.int .i64 0]) (by simp [results,Tryz.results28,go_sem,r0,r1,r2,r3]) rfl ⟨⟨⟨1,0,[],0⟩,[],none,0⟩,rfl,HA.out.symm,⟨rfl,.inl rfl,fun c hc=>(by cases hc),.inl rfl,fun c hc=>(by cases hc)⟩,below_set4 HB2.out (Nat.le_refl _) _ _ _ _⟩
  ·obtain ⟨m,hm⟩:∃ m,m=n-1:=⟨_,rfl⟩
   have hm1:n=m+1:=by omega
   have hyl:=out2.len
   obtain ⟨y,hy⟩:∃ y,y=ys.getD m ⟨⟨1,0,[],0⟩,[],none,0⟩:=⟨_,rfl⟩
   have hmy:m<ys.length:=by omega
   have yin:AnIn W2 y:=by
    rw [hy]
    refine out2.ans _ ?_
    simp only [List.getD,List.getElem?_eq_getElem hmy,Option.getD_some];exact List.getElem_mem hmy
   have HA:Hid (y.a=lastA (dns l)):=by
    show _=_
    unfold lastA
    rw [HLen.out,← HN.out,if_neg (by omega),← hm,← HYS.out,hy]
    simp [List.getD,List.getElem?_eq_getElem hmy]
   obtain ⟨bb,off,hoo,hcs⟩:∃ b off,oo=some ⟨b,off,none⟩∧∀ j,j<(acells4 ys).length→W2.cell? ⟨b,off+j,none⟩=(acells4 ys)[j]?:=by
    rcases own_seg' out2.own with h | ⟨b,off,h1,h2⟩
    ·have:=acells4_length ys
     rw [h] at this
     simp at this
     omega
    ·exact ⟨b,off,h1,h2⟩
   have hal:=acells4_length ys
   have cc:∀ j,j<4→W2.cell? ⟨bb,off+m*4+j,none⟩=y.cells[j]?:=fun j hj=>by
    rw [hy,← acells4_at ys m j hmy hj,Nat.add_assoc];exact hcs (m*4+j) (by omega)
   obtain ⟨y0,hy0⟩:∃ y0,y0=y.a.err:=⟨_,rfl⟩
   obtain ⟨y1,hy1⟩:∃ y1,y1=y.a.pos:=⟨_,rfl⟩
   obtain ⟨y2,hy2⟩:∃ y2,y2=y.cts.length:=⟨_,rfl⟩
   obtain ⟨y3,hy3⟩:∃ y3,y3=y.a.cost:=⟨_,rfl⟩
   have q0:W2.cell? ⟨bb,off+m*4,none⟩=some (.int .i64 y0):=by rw [hy0];exact cc 0 (by omega)
   have q1:W2.cell? ⟨bb,off+m*4+1,none⟩=some (.int .i64 y1):=by rw [hy1];exact cc 1 (by omega)
   have q2:W2.cell? ⟨bb,off+m*4+2,none⟩=some (.slice y.co y2 y.cap):=by rw [hy2];exact cc 2 (by omega)
   have q3:W2.cell? ⟨bb,off+m*4+3,none⟩=some (.int .i64 y3):=by rw [hy3];exact cc 3 (by omega)
   have FIN:Hid (∃ y:AT,(Ending.returned (.agg #[.int .i64 y0,.int .i64 y1,.slice (ys.getD m ⟨⟨1,0,[],0⟩,[],none,0⟩).co y2 (ys.getD m ⟨⟨1,0,[],0⟩,[],none,0⟩).cap,.int .i64 y3]))=.returned (.agg #[.int .i64 y.a.err,.int .i64 y.a.pos,.slice y.co y.cts.length y.cap,.int .i64 y.a.cost])∧y.a=lastA (dns l)∧AnIn (Set4 W2 w.heap.size (.int .i64 y0) (.int .i64 y1) (.slice (ys.getD m ⟨⟨1,0,[],0⟩,[],none,0⟩).co y2 (ys.getD m ⟨⟨1,0,[],0⟩,[],none,0⟩).cap) (.int .i64 y3)) y∧Below w.heap.size w (Set4 W2 w.heap.size (.int .i64 y0) (.int .i64 y1) (.slice (ys.getD m ⟨⟨1,0,[],0⟩,[],none,0⟩).co y2 (ys.getD m ⟨⟨1,0,[],0⟩,[],none,0⟩).cap) (.int .i64 y3))):=by
    rw [← hy]
    exact ⟨y,by rw [hy0,hy1,hy2,hy3],HA.out,⟨yin.cs,csin_keep yin.inn HR2.out (by decide) (by decide) (set4_grown _ _ _ _ _ _)⟩,below_set4 HB2.out (Nat.le_refl _) _ _ _ _⟩
   rw [← hy] at FIN
   have hm2:(n:Int)-1=(m:Int):=by omega
   have hm3:IntKind.i64.wrap (m:Int)=(m:Int):=by rw [IntKind.wrap_i64];omega
   have hm4:(m:Int)<(n:Int):=by omega
   have hm5:m<n:=by omega
   have hn0:¬ ((n:Int)=0):=by omega
   have hn1:((n:Int) == 0)=false:=by simpa using hn0
   subst hoo
   clear out2 hcs cc hal yin HA hy hyl hmy hm hy0 hy1 hy2 hy3 HO HYS
   go_upto_region 2 with fail
   rw [← HW2.out]
   subst hm1
   go_wp2
   exact bodyPost_ret (v:=.agg #[.int .i64 y0,.int .i64 y1,.slice y.co y2 y.cap,.int .i64 y3]) (by simp [results,Tryz.results28,go_sem,r0,r1,r2,r3]) rfl FIN.out
def aliveL:List Dn:=[dAdd ⟨#[97]⟩ 5 7,dRoll 60,dAsk ⟨#[115,117,109,40,123,125,91,54,48,93,41]⟩ 60]
theorem aliveL_is:lastA aliveL=⟨0,0,[([(hostB,⟨#[97]⟩)],7)],1⟩:=by kernel_rfl
theorem dcells3 (x y z:DT):dcells [x,y,z]=x.cells++(y.cells++z.cells):=by simp [dcells]
theorem last3 (a b c:DT) (w:World) (arr:Array Value) (ha:arr.toList=a.cells++(b.cells++c.cells)) (da:DIn w a) (db:DIn w b) (dc:DIn w c) (hv:ErrV w) :
  Calls Tryz.prog 28 #[.slice (some ⟨w.heap.size,0,none⟩) 3 3] (w.alloc (.cells arr 36)) fun e w'=>∃ y:AT,e=.returned (.agg #[.int .i64 y.a.err,.int .i64 y.a.pos,.slice y.co y.cts.length y.cap,.int .i64 y.a.cost])∧y.a=lastA [a.d,b.d,c.d]∧AnIn w' y∧Below w.heap.size w w':=by
 have bel:Below w.heap.size w (w.alloc (.cells arr 36)):=(Below.refl _ _).alloc (Nat.le_refl _) _
 have hs:Seg (w.alloc (.cells arr 36)) (some ⟨w.heap.size,0,none⟩) (dcells [a,b,c]):=by
  rw [dcells3,← ha];exact seg_new w arr _
 refine (last_any [a,b,c] _ 3 3 _ hs (fun x hx=>?_) rfl (hv.below bel)).mono ?_
 ·simp at hx
  rcases hx with e | e | e
  ·rw [e];exact da.below bel
  ·rw [e];exact db.below bel
  ·rw [e];exact dc.below bel
 ·rintro e w' ⟨y,rfl,h1,h2,h3⟩
  exact ⟨y,rfl,h1,h2,bel.trans (h3.mono bel.size)⟩
set_option maxRecDepth 20000 in
set_option maxHeartbeats 4000000 in
theorem talive_any (w:World) (hv:ErrV w):Calls Tryz.prog 22 #[] w fun e w'=>e=.returned (.bool true)∧Below w.heap.size w w':=by
 have P1:=hide (tadd_any ⟨#[97]⟩ 5 7 w (by decide))
 have HV:=hide hv
 clear hv
 go_enter Tryz.func22,Tryz.ntmps22
 go_wp2_with fail
 refine P1.out.mono ?_
 rintro e w1 ⟨S,rfl,d1,b1⟩
 clear P1
 go_wp2_with fail
 refine (troll_any 60 w1).mono ?_
 rintro e w2 ⟨rfl,b2⟩
 have bel2:Below w.heap.size w w2:=b1.trans (b2.mono b1.size)
 have D1:=d1.below b2
 clear d1 b1 b2
 go_wp2_with fail
 refine (task_any ⟨#[115,117,109,40,123,125,91,54,48,93,41]⟩ 60 w2).mono ?_
 rintro e w3 ⟨rfl,b3⟩
 have bel3:Below w.heap.size w w3:=bel2.trans (b3.mono bel2.size)
 have P4:=hide (last3 ⟨dAdd ⟨#[97]⟩ 5 7,some ⟨S,0,none⟩,1⟩ ⟨dRoll 60,none,0⟩ ⟨dAsk ⟨#[115,117,109,40,123,125,91,54,48,93,41]⟩ 60,none,0⟩ w3 #[.int .i64 1,.int .i64 0,.int .i64 0,.slice (some ⟨S,0,none⟩) 1 1,.int .i64 5,.int .i64 7,.string ⟨#[]⟩,.int .i64 2,.int .i64 0,.int .i64 60,.slice none 0 0,.int .i64 0,.int .i64 0,.string ⟨#[]⟩,.int .i64 4,.int .i64 0,.int .i64 60,.slice none 0 0,.int .i64 0,.int .i64 0,.string ⟨#[115,117,109,40,123,125,91,54,48,93,41]⟩] rfl (D1.below b3) (din_none _ _ rfl (by show (ByteArray.mk #[]).size≤_;decide)) (din_none _ _ rfl (by show (ByteArray.mk #[115,117,109,40,123,125,91,54,48,93,41]).size≤_;decide)) (HV.out.below bel3))
 clear D1 bel2 b3
 go_wp2_with fail
 refine P4.out.mono ?_
 rintro e w4 ⟨⟨ya,cts,co,cap⟩,rfl,hya,hyin,b4⟩
 have hya2:ya=⟨0,0,[([(hostB,⟨#[97]⟩)],7)],1⟩:=hya.trans aliveL_is
 have bel4:Below w.heap.size w w4:=bel3.trans (b4.mono bel3.size)
 have hcs:cls cts=[([(hostB,⟨#[97]⟩)],7)]:=by have:=hyin.cs;rw [hya2] at this;exact this
 have hl:cts.length=1:=by have:=congrArg List.length hcs;simpa [cls] using this
 have hk:0<cts.length:=by omega
 obtain ⟨b,off,hco,hbb,hcell⟩:=seg_cell hyin.inn.seg hk
 have hv0:(ct cts 0).v=7:=by
  match cts,hl,hcs with
  | [c],_,h =>
   simp [cls,CT.cl] at h
   exact h.2
 have q1:w4.cell? ⟨b,off+1,none⟩=some (.int .i64 7):=by
  have:=(hcell 0 hk).2
  rw [hv0] at this
  simpa using this
 have q0:w4.cell? ⟨b,off,none⟩=some (.slice (ct cts 0).sa (ct cts 0).ser.length (ct cts 0).sc):=by simpa using (hcell 0 hk).1
 simp only at hco
 rw [hya2,hl,hco]
 have bA:∀ o,Below w.heap.size w (w4.alloc o):=fun o=>bel4.alloc bel4.size _
 have HB:=hide bA
 have h3:=bel4.size
 clear P4 hya hyin hya2 hcs hcell hv0 hl hk bel4 b4 bel3 bA HV
 simp only
 go_wp2
 go_ret
 exact ⟨rfl,HB.out _⟩
open Go.RowKit Go.GrainU
theorem dcells_append (a b:List DT):dcells (a++b)=dcells a++dcells b:=by
 induction a with
 | nil=>rfl
 | cons x r ih=>simp only [List.cons_append,dcells,ih,List.append_assoc]
theorem Tryz.infoDo:(Tryz.prog.info? 36).map (fun i=>(i.zero,i.size,i.bytes))=some (some (.agg #[.int .i64 0,.int .i64 0,.int .i64 0,.slice none 0 0,.int .i64 0,.int .i64 0,.string ⟨#[]⟩]),7,80):=by kernel_rfl
end Go.Proofs.YtoldmigappbjcaaGreatDoor
namespace Go.GrainU
open Go.RowKit
theorem own_is {w:World} {base e size n:Nat} {v:Value} {xs:List Value} (h:w.ownsRow base e size v n xs):∀ k,v.ownBlock=some k→∃ c fr,w.heap[k]?=some (.cells c e fr):=by
 intro k hk
 rcases h.2 with ⟨hv,_⟩ | ⟨g,cap,cur,hv,_,hgb,_⟩
 ·rw [hv] at hk;cases hk
 ·rw [hv] at hk
  injection hk with hk
  subst hk
  exact ⟨_,_,hgb⟩
def Few8 (cs:List Cl):Prop:=cs.length≤8∧∀ c∈cs,c.1.length≤4
theorem few8_nil:Few8 []:=⟨by simp,fun c hc=>by cases hc⟩
theorem an_few {b:Bs} (hb:BInv b) (h5:FewB 500 b) (time:Int) (e:Ex):Few8 (anE b time e).cs:=by
 unfold anE
 cases ho:askE b time e with
 | error x=>exact few8_nil
 | ok m =>
  unfold askE overE at ho
  by_cases hc:chk e time=0
  ·rw [if_pos hc] at ho
   have hg:=evg_gd (base_gd hb h5 time) e (chk_zero hc).1 m ho
   exact ⟨hg.len,fun c hc=>(hg.fine c hc).2.2⟩
  ·rw [if_neg hc] at ho;cases ho
end Go.GrainU
namespace Go.Proofs.YtoldmigappbjcaaGreatDoor
open Go.RowKit Go.GrainU
theorem few_cts {y:AT} {w:World} (h:AnIn w y) (hf:Few8 y.a.cs):y.cts.length≤8∧∀ x∈y.cts,x.ser.length≤4:=by
 rw [← h.cs] at hf
 refine ⟨by have:=hf.1;rwa [cls_len] at this,fun x hx=>hf.2 x.cl (List.mem_map_of_mem hx)⟩
end Go.Proofs.YtoldmigappbjcaaGreatDoor
