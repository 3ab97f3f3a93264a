import Derived.Test.YtoldmigappbjcaaGreatDoorBaseRolled01
import Derived.Test.YtoldmigappbjcaaGreatDoorK01
import Derived.Test.YtoldmigappbjcaaGreatDoorK02
import Derived.Test.YtoldmigappbjcaaGreatDoorK05
import Derived.Test.YtoldmigappbjcaaGreatDoorK07
import Derived.Test.YtoldmigappbjcaaGreatDoorK15
import Derived.Test.YtoldmigappbjcaaGreatDoorK25
import Derived.Test.YtoldmigappbjcaaGreatDoorK28
import Derived.Test.YtoldmigappbjcaaGreatDoorK30
import Derived.Test.YtoldmigappbjcaaGreatDoorK31
namespace Grain
theorem wrongAt_of {s:Shf} {tq:Int} (h:SR s) (h1:0≤tq) (h2:tq≤1000000):wrongAt s tq=0:=by
 unfold wrongAt
 rw [if_neg (by simp [(sr_iff s).2 h]),if_neg (by omega)]
theorem choose_gone {s:Shf} {f t:Int} (h0:swrong s=0) (h1:0≤f) (h2:f≤t) (h3:t≤1000000) (h:(choose s f t).2≠0):(choose s f t).2=10:=by
 unfold choose at *
 rw [if_neg (by simp [h0]),if_neg (by omega)] at *
 exact ((chs_all (s:=s) (f:=f) (tq:=t) (t-f).toNat f [] (by simp [cvr]) (fun i a b=>by simp at b) (by omega) (Nat.le_refl _)).2 h).2
theorem up_winG {st f m n t:Int} (hst:st=10∨st=60) (hf:f%st=0) (hm:m%st=0) (hn:n%st=0) (h1:f≤m) (h2:m≤n) (h3:n≤t) {A:List (Int×Int)} (h:Took A) :
  winB (up (win A f t) st) m n=up (win A m n) st:=by
 rw [up_split hst hm h1 (by omega) h,up_split (f:=m) hst hn h2 h3 h]
 simp only [winB,List.filter_append]
 rw [filter_none (fun b hb=>by have:=up_in hst hf h b hb;simp;omega),filter_all (fun b hb=>by have:=up_in hst hm h b hb;simp;omega),filter_none (fun b hb=>by have:=up_in hst hn h b hb;simp;omega)]
 simp
theorem up_fewer (st:Int) {l:List (Int×Int)} (h:l.length≤1000000):(up l st).length≤l.length:=by
 have:=(up_fit st l h).len
 omega
theorem pcost_cheap {s:Shf} {A:List (Int×Int)} (h:Keeps s A) {p:Pt} (m:may s p=true) (hr:s.rf≤p.f):pcost s p≤(win s.ra p.f p.t).length:=by
 have f1:=h.sr.fsp
 have f2:=h.sr.csp
 have hl:=may_lt m
 unfold pcost
 rcases may_cases m with ⟨k,h1⟩ | ⟨k,h1,h2,h3,h4⟩ | ⟨k,h1,h2,h3,h4⟩
 ·rw [if_neg (by omega),if_neg (by omega)]
  exact Nat.le_refl _
 ·rw [if_pos k,h.fi,up_winG (.inl rfl) f1.1 h1 h2 h3 (by omega) h4 h.took,h.ra,win_ra hr]
  exact up_fewer _ (h.took.win_len (by omega) (by omega) (by omega))
 ·rw [if_neg (by omega),if_pos k,h.co,up_winG (.inr rfl) f2.1 h1 h2 h3 (by omega) h4 h.took,h.ra,win_ra hr]
  exact up_fewer _ (h.took.win_len (by omega) (by omega) (by omega))
theorem rdN_cheap {s:Shf} {A:List (Int×Int)} (h:Keeps s A) {f:Int} (hr:s.rf≤f):∀ (l:List Pt) (t:Int),cvr s l f t=true→rdN s l≤(win s.ra f t).length:=by
 refine snoc_ind ?_ ?_
 ·intro t hc
  exact Nat.zero_le _
 ·intro r p ih t hc
  obtain ⟨h1,h2,h3⟩:=cvr_snoc s p r f t hc
  subst h3
  have l1:=cvr_le s r f p.f h1
  have l2:=may_lt h2
  rw [rdN_snoc,win_split (f:=f) (m:=p.f) (t:=p.t) l1 (by omega) s.ra h.sr.rpw,List.length_append]
  have:=ih _ h1
  have:=pcost_cheap h h2 (by omega)
  omega
end Grain
namespace Go.GrainU
open Go.RowKit
theorem playB_len:∀ (l:List Dn) (b:Bs),(playB b l).2.length=l.length
 | [],b=>rfl
 | x::r,b=>by simp [playB,playB_len r]
open Go.RowKit
theorem look_gone {s:Grain.Shf} (hs:Grain.swrong s=0) {f t:Int} (h1:0≤f) (h2:f≤t) (h3:t≤1000000) {E:Int} (h:lookS s f t=.error E):E=10:=by
 unfold lookS at h
 by_cases h0:(Grain.choose s f t).2=0
 ·rw [if_pos h0] at h
  obtain ⟨hc,_,hw⟩:=Grain.choose_ok h0
  have hf:=Grain.cvr_fol hc
  have hr:Grain.read s (Grain.choose s f t).1=(Grain.rdS s (Grain.choose s f t).1,(Grain.rdN s (Grain.choose s f t).1:Int),0):=by
   unfold Grain.read
   rw [if_neg (by simp [hw]),if_neg (by rw [hf];decide)]
  rw [hr] at h
  simp at h
 ·rw [if_neg h0] at h
  injection h with h
  rw [← h];exact Grain.choose_gone hs h1 h2 h3 h0
open Go.RowKit
theorem putB_no {b:Bs} {i:Nat} {t v:Int} (h:(putB b i t v).2≠0):(putB b i t v).1=b:=by
 unfold putB at *
 by_cases h1:(Grain.sapp (kp b.l i).s t v).2=0
 ·rw [if_pos h1] at h;exact absurd rfl h
 ·rw [if_neg h1]
theorem putN_no {b:Bs} {i:Nat} {s:Lb} {t v:Int} (h:(putN b i s t v).2≠0):(putN b i s t v).1=b:=by
 unfold putN at *
 by_cases h1:8≤b.l.length
 ·rw [if_pos h1]
 rw [if_neg h1] at h ⊢
 by_cases h2:(Grain.sroll (newS s) b.hz).2≠0
 ·rw [if_pos h2]
 rw [if_neg h2] at h ⊢
 by_cases h3:(Grain.sapp (Grain.sroll (newS s) b.hz).1 t v).2≠0
 ·rw [if_pos h3]
 rw [if_neg h3] at h
 exact absurd rfl h
theorem takeB_no {b:Bs} {s:Lb} {t v:Int} (h:(takeB b s t v).2≠0):(takeB b s t v).1=b:=by
 unfold takeB at *
 by_cases h1:wrongS s≠0
 ·rw [if_pos h1]
 rw [if_neg h1] at h ⊢
 by_cases h2:Grain.inR t v=false
 ·rw [if_pos h2]
 rw [if_neg h2] at h ⊢
 by_cases h3:t<b.hz
 ·rw [if_pos h3]
 rw [if_neg h3] at h ⊢
 by_cases h4:bhas b.l s=true
 ·rw [if_pos h4] at h ⊢;exact putB_no h
 ·rw [if_neg h4] at h ⊢;exact putN_no h
open Go.RowKit
def lnn (o:List Ln) (k:Nat):Ln:=o.getD k ([],[])
def lpos (o:List Ln) (s:Lb):Nat:=(o.takeWhile fun x=>decide (cmpS x.1 s<0)).length
def lhas (o:List Ln) (s:Lb):Bool:=decide (lpos o s<o.length) && decide (cmpS (lnn o (lpos o s)).1 s=0)
def tellP (o:List Ln) (s:Lb) (x:Int×Int):List Ln :=
 if lhas o s=true then o.set (lpos o s) ((lnn o (lpos o s)).1,(lnn o (lpos o s)).2++[x]) else o.take (lpos o s)++[(s,[x])]++o.drop (lpos o s)
theorem lnsB_len (l:List Kp):(lnsB l).length=l.length:=by simp [lnsB]
theorem lnn_lnsB {l:List Kp} {k:Nat} (h:k<l.length):lnn (lnsB l) k=((kp l k).s.se,(kp l k).A):=by
 rw [kp_get h]
 simp [lnn,lnsB,List.getD,h]
theorem lpos_lnsB (s:Lb):∀ l:List Kp,lpos (lnsB l) s=bpos l s
 | []=>rfl
 | k::r=>by
  have ih:=lpos_lnsB s r
  unfold lpos bpos lnsB at *
  by_cases h:cmpS k.s.se s<0
  ·simp only [List.map_cons,List.takeWhile_cons,h,decide_true,if_true,List.length_cons]
   rw [ih]
  ·simp [h]
theorem lhas_lnsB (l:List Kp) (s:Lb):lhas (lnsB l) s=bhas l s:=by
 unfold lhas bhas
 rw [lpos_lnsB,lnsB_len]
 by_cases h:bpos l s<l.length
 ·rw [lnn_lnsB h]
 ·simp [h]
theorem eachB_se {f:Grain.Shf→Grain.Shf×Int} (hs:∀ s,(f s).2=0→(f s).1.se=s.se):∀ (l l':List Kp),eachB f l=.ok l'→lnsB l'=lnsB l:=by
 intro l
 induction l with
 | nil=>intro l' h;simp [eachB] at h;subst h;rfl
 | cons a r ih =>
  intro l' h
  by_cases ha:(f a.s).2=0
  ·simp only [eachB,ha,if_true] at h
   cases hr:eachB f r with
   | error x=>rw [hr] at h;simp at h
   | ok r' =>
    rw [hr] at h
    simp at h
    subst h
    have:=ih r' hr
    unfold lnsB at this ⊢
    simp [this,hs _ ha]
  ·simp [eachB,ha] at h
theorem lnsB_set (l:List Kp) (i:Nat) (k:Kp):lnsB (l.set i k)=(lnsB l).set i (k.s.se,k.A):=by
 unfold lnsB
 rw [List.map_set]
theorem tell_take {b:Bs} {s:Lb} {t v:Int} (h:(takeB b s t v).2=0):lnsB (takeB b s t v).1.l=tellP (lnsB b.l) s (t,v):=by
 unfold takeB at *
 by_cases h1:wrongS s≠0
 ·rw [if_pos h1] at h;exact absurd h h1
 rw [if_neg h1] at h ⊢
 by_cases h2:Grain.inR t v=false
 ·rw [if_pos h2] at h;exact absurd h (by simp)
 rw [if_neg h2] at h ⊢
 by_cases h3:t<b.hz
 ·rw [if_pos h3] at h;exact absurd h (by simp)
 rw [if_neg h3] at h ⊢
 unfold tellP
 rw [lhas_lnsB,lpos_lnsB]
 by_cases h4:bhas b.l s=true
 ·rw [if_pos h4] at h ⊢
  rw [if_pos h4,lnn_lnsB (bhas_lt h4)]
  unfold putB at *
  by_cases h5:(Grain.sapp (kp b.l (bpos b.l s)).s t v).2=0
  ·rw [if_pos h5]
   show lnsB (b.l.set _ _)=_
   rw [lnsB_set]
   simp only [(sapp_same h5).1]
  ·rw [if_neg h5] at h;exact absurd h h5
 ·rw [if_neg h4] at h ⊢
  rw [if_neg h4]
  unfold putN at *
  by_cases h5:8≤b.l.length
  ·rw [if_pos h5] at h;exact absurd h (by simp)
  rw [if_neg h5] at h ⊢
  by_cases h6:(Grain.sroll (newS s) b.hz).2≠0
  ·rw [if_pos h6] at h;exact absurd h h6
  rw [if_neg h6] at h ⊢
  by_cases h7:(Grain.sapp (Grain.sroll (newS s) b.hz).1 t v).2≠0
  ·rw [if_pos h7] at h;exact absurd h h7
  rw [if_neg h7]
  have e1:=sroll_same (Decidable.not_not.1 h6)
  have e2:=sapp_same (Decidable.not_not.1 h7)
  have ese:(Grain.sapp (Grain.sroll (newS s) b.hz).1 t v).1.se=s:=by rw [e2.1,e1.1];rfl
  show lnsB (b.l.take _++[_]++b.l.drop _)=_
  unfold lnsB
  simp [List.map_append,List.map_take,List.map_drop,ese]
end Go.GrainU
namespace Grain
theorem chs_raw {s:Shf} (hr:s.rf=0) {t:Int} (ht:t≤1000000):∀ (n:Nat) (a:Int) (out:List Pt),0≤a→(chs s t n a out).2=0:=by
 intro n
 induction n with
 | zero=>intro a out _;rfl
 | succ n ih =>
  intro a out h0
  by_cases e:a<t
  ·rw [chs,if_pos e]
   have m:may s (nxt s a t)=true∧0≤(nxt s a t).t:=by
    unfold nxt
    by_cases c1:a+60≤t∧may s ⟨2,a,a+60⟩=true
    ·rw [if_pos c1];exact ⟨c1.2,by simp only;omega⟩
    rw [if_neg c1]
    by_cases c2:a+10≤t∧may s ⟨1,a,a+10⟩=true
    ·rw [if_pos c2];exact ⟨c2.2,by simp only;omega⟩
    rw [if_neg c2]
    by_cases c3:s.ft≤a
    ·rw [if_pos c3]
     refine ⟨?_,by simp only;omega⟩
     unfold may
     rw [if_neg (by simp only;omega),if_pos rfl]
     simp only [decide_eq_true_eq]
     omega
    ·rw [if_neg c3]
     refine ⟨?_,by simp only;omega⟩
     unfold may
     rw [if_neg (by simp only;omega),if_pos rfl]
     simp only [decide_eq_true_eq]
     omega
   rw [if_pos m.1];exact ih _ _ m.2
  ·rw [chs_end e]
theorem choose_raw {s:Shf} (sr:SR s) (hr:s.rf=0) {f t:Int} (h0:0≤f) (hft:f≤t) (ht:t≤1000000):(choose s f t).2=0:=by
 unfold choose
 rw [if_neg (by simp [(sr_iff s).2 sr]),if_neg (by omega)]
 exact chs_raw hr ht _ _ _ h0
theorem rdN_raw {s:Shf} {A:List (Int×Int)} (h:Keeps s A) (h1:s.ft=0) (h2:s.ct≤0) {f:Int} (hf:0≤f):∀ (l:List Pt) (t:Int),cvr s l f t=true→rdN s l=(win A f t).length:=by
 refine snoc_ind ?_ ?_
 ·intro t hc
  simp [cvr] at hc
  subst hc
  rw [win_empty];rfl
 ·intro r p ih t hc
  obtain ⟨g1,g2,g3⟩:=cvr_snoc s p r f t hc
  subst g3
  have l1:=cvr_le s r f p.f g1
  have l2:=may_lt g2
  rw [rdN_snoc,ih _ g1,win_split (f:=f) (m:=p.f) (t:=p.t) l1 (by omega) A h.took.pw,List.length_append]
  rcases may_cases g2 with ⟨k,q1⟩ | ⟨k,q1,q2,q3,q4⟩ | ⟨k,q1,q2,q3,q4⟩
  ·unfold pcost
   rw [if_neg (by omega),if_neg (by omega),h.ra,win_ra (by omega)]
  ·omega
  ·omega
end Grain
namespace Go.GrainU
open Go.RowKit
theorem evg_same {f g:Hd→Except Int (List Cl)} (hf:∀ h,winBad h=0→f h=g h):∀ x:Ex,Rt x→evG f x=evG g x:=by
 refine Ex.ind ?_
 intro h kids ih hrt
 obtain ⟨ha,hk⟩:=Rt.parts hrt
 have hL:∀ ks:List Ex,(∀ k∈ks,k∈kids)→evGL f ks=evGL g ks:=by
  intro ks
  induction ks with
  | nil=>intro _;rfl
  | cons a r ihr =>
   intro hm
   rw [evGL,evGL,ih a (hm a (by simp)) (hk a (hm a (by simp))),ihr (fun k hk'=>hm k (by simp [hk']))]
 rw [evG,evG,hL kids (fun k hk=>hk)]
 by_cases e1:h.kind=1
 ·rw [if_pos e1,if_pos e1]
 rw [if_neg e1,if_neg e1]
 by_cases e2:h.kind=2
 ·rw [if_pos e2,if_pos e2]
  have hwb:winBad h=0:=by
   rcases alone_cases ha with ⟨q,_⟩ | ⟨_,_,q⟩ | ⟨q,_⟩ | ⟨q,_⟩
   ·omega
   ·exact q
   ·omega
   ·omega
  rw [hf h hwb]
 rw [if_neg e2,if_neg e2]
theorem winT_error {S:Nat→Except Int Grain.Sm} {h:Hd} {l:List ST} {x:Int}:∀ n:Nat,winT S h l n=.error x→∃ i,i<n∧S i=.error x
 | 0,e=>by simp [winT] at e
 | n+1,e=>by
  rw [winT] at e
  cases hp:winT S h l n with
  | error y =>
   rw [hp] at e
   injection e with e
   subst e
   obtain ⟨i,hi,hs⟩:=winT_error n hp
   exact ⟨i,by omega,hs⟩
  | ok c =>
   rw [hp] at e
   by_cases hs:says (st l n).ser h.ms=true
   ·simp only [hs,if_true] at e
    cases hS:S n with
    | error y =>
     rw [hS] at e
     injection e with e
     subst e
     exact ⟨n,by omega,hS⟩
    | ok J=>rw [hS] at e;simp at e
   ·simp [hs] at e
def Whole (b:Bs):Prop:=∀ k∈b.l,k.s.rf=0
theorem look_raw {s:Grain.Shf} (sr:Grain.SR s) (hr:s.rf=0) {f t:Int} (h0:0≤f) (hft:f≤t) (ht:t≤1000000):∃ J,lookS s f t=.ok J:=by
 have hc:=Grain.choose_raw sr hr h0 hft ht
 obtain ⟨hv,_,hw⟩:=Grain.choose_ok hc
 have hf:=Grain.cvr_fol hv
 have hrd:Grain.read s (Grain.choose s f t).1=(Grain.rdS s (Grain.choose s f t).1,(Grain.rdN s (Grain.choose s f t).1:Int),0):=by
  unfold Grain.read
  rw [if_neg (by simp [hw]),if_neg (by rw [hf];decide)]
 unfold lookS
 rw [if_pos hc,hrd]
 exact ⟨_,rfl⟩
theorem winT_base {b:Bs} (hb:BInv b) (h5:FewB 500 b) {time:Int} (t0:0≤time) (t1:time≤1000000) (h:Hd) (hw:winBad h=0) :
  overW (fun i f t=>lookS (kp b.l i).s f t) (sersB b.l) b.l.length time h=.error 10∨overW (fun i f t=>lookS (kp b.l i).s f t) (sersB b.l) b.l.length time h=.ok (winC (lnsB b.l) h time):=by
 obtain ⟨_,_,_,r1,r2⟩:=winBad_ok hw
 cases ho:overW (fun i f t=>lookS (kp b.l i).s f t) (sersB b.l) b.l.length time h with
 | error x =>
  left
  obtain ⟨i,hi,hs⟩:=winT_error _ ho
  have:=look_gone ((Grain.sr_iff _).2 (hb.kee _ (kp_mem hi)).sr) (by omega) (by omega) t1 hs
  rw [this]
 | ok c =>
  right
  have e:=winT_keeps hb.kee h5 h time b.l.length (Nat.le_refl _) c ho
  rw [List.take_of_length_le (Nat.le_refl _)] at e
  rw [e]
theorem winT_whole {b:Bs} (hb:BInv b) (hr:Whole b) {time:Int} (t0:0≤time) (t1:time≤1000000) (h:Hd) (hw:winBad h=0) :
  overW (fun i f t=>lookS (kp b.l i).s f t) (sersB b.l) b.l.length time h≠.error 10:=by
 obtain ⟨_,_,_,r1,r2⟩:=winBad_ok hw
 intro ho
 obtain ⟨i,hi,hs⟩:=winT_error _ ho
 obtain ⟨J,hJ⟩:=look_raw (hb.kee _ (kp_mem hi)).sr (hr _ (kp_mem hi)) (f:=max 0 (time-h.range)) (t:=time) (by omega) (by omega) t1
 have hs':lookS (kp b.l i).s (max 0 (time-h.range)) time=.error 10:=hs
 rw [hJ] at hs'
 cases hs'
theorem askE_whole {b:Bs} (hb:BInv b) (h5:FewB 500 b) (hr:Whole b) (time:Int) (e:Ex):askE b time e=(if chk e time=0 then exc (ev (lnsB b.l) time e) else .error (chk e time)):=by
 unfold askE overE
 by_cases hc:chk e time=0
 ·rw [if_pos hc,if_pos hc]
  obtain ⟨hrt,t0,t1⟩:=chk_zero hc
  have hf:∀ h,winBad h=0→overW (fun i f t=>lookS (kp b.l i).s f t) (sersB b.l) b.l.length time h=.ok (winC (lnsB b.l) h time):=fun h hw=>(winT_base hb h5 t0 t1 h hw).resolve_left (winT_whole hb hr t0 t1 h hw)
  have hf2:∀ x:Ex,Rt x→evG (overW (fun i f t=>lookS (kp b.l i).s f t) (sersB b.l) b.l.length time) x=evG (fun h=>.ok (winC (lnsB b.l) h time)) x:=evg_same hf
  rw [hf2 e hrt,evg_ev]
 ·rw [if_neg hc,if_neg hc]
end Go.GrainU
namespace Grain
theorem sroll_ok {s:Shf} {A:List (Int×Int)} (h:Keeps s A) (h5:A.length≤500) {t:Int} (h0:0≤t) (h1:t≤1000000):(sroll s t).2=0:=by
 have f1:=h.sr.fsp
 have f2:=h.sr.csp
 have f3:=h.sr.bd
 have hb:=beg_bd (t:=t) (st:=10) (.inl rfl) h0
 have g1:s.ft≤nft s t∧nft s t≤1000000∧nft s t%10=0∧0≤nft s t:=by
  unfold nft;omega
 have hb2:=beg_bd (t:=nft s t) (st:=60) (.inr rfl) g1.2.2.2
 have g2:s.ct≤nct s t∧nct s t≤nft s t∧nct s t%60=0∧0≤nct s t:=by
  unfold nct;omega
 have e1:nfi s t=up (win A s.ff (nft s t)) 10:=by
  unfold nfi
  rw [h.ra,win_ra f3.2.1,h.fi,up_split (.inl rfl) f1.2.1 f1.2.2.2.1 g1.1 h.took]
 have e2:nco s t=up (win A s.cf (nct s t)) 60:=by
  unfold nco
  rw [e1,up_winB f1.1 (by omega) (by omega) f3.2.2.1 g2.1 g2.2.1 h.took,great_up _ (h.took.win_len (by omega) (by omega) g2.1),h.co,← up_split (.inr rfl) f2.2.1 f2.2.2.2.1 g2.1 h.took]
 have l1:(nfi s t).length≤500:=by
  rw [e1]
  have a:=win_len A s.ff (nft s t)
  have:=up_fewer 10 (l:=win A s.ff (nft s t)) (by omega)
  omega
 have l2:(nco s t).length≤500:=by
  rw [e2]
  have a:=win_len A s.cf (nct s t)
  have:=up_fewer 60 (l:=win A s.cf (nct s t)) (by omega)
  omega
 unfold sroll
 rw [if_neg (by rw [wrongAt_of h.sr h0 h1];simp),if_neg (by omega),if_neg (by omega)]
theorem sroll_ra {s:Shf} {t:Int} (h:(sroll s t).2=0):(sroll s t).1.ra=s.ra:=by
 unfold sroll at *
 repeat' (split at h)
 all_goals first | (exfalso;simp_all;done) | skip
 all_goals (simp_all;try (repeat rw [if_neg (by omega)]);try simp)
theorem sapp_err {s:Shf} {A:List (Int×Int)} (h:Keeps s A) (h5:s.ra.length<500) {t v:Int} (hin:inR t v=true):(sapp s t v).2=if late s t=true then 9 else 0:=by
 unfold sapp
 rw [if_neg (by rw [(sr_iff s).2 h.sr];simp),if_neg (by rw [hin];decide)]
 by_cases hl:late s t=true
 ·rw [if_pos hl,if_pos hl]
 ·rw [if_neg hl,if_neg hl,if_neg (by omega)]
end Grain
namespace Go.GrainU
open Go.RowKit
end Go.GrainU
namespace Grain
theorem whole_ra {s:Shf} {A:List (Int×Int)} (h:Keeps s A) (hr:s.rf=0):s.ra=A:=by
 rw [h.ra,hr,List.filter_eq_self]
 intro x hx
 have:=h.took.rin x hx
 simp [inR] at this
 simp
 omega
theorem sapp_rf {s:Shf} {t v:Int} (h:(sapp s t v).2=0):(sapp s t v).1.rf=s.rf:=by
 unfold sapp at *
 repeat' (split at h)
 all_goals first | (exfalso;simp_all;done) | skip
 all_goals (simp_all;try (repeat rw [if_neg (by omega)]);try simp)
theorem sroll_rf {s:Shf} {t:Int} (h:(sroll s t).2=0):(sroll s t).1.rf=s.rf:=by
 unfold sroll at *
 repeat' (split at h)
 all_goals first | (exfalso;simp_all;done) | skip
 all_goals (simp_all;try (repeat rw [if_neg (by omega)]);try simp)
end Grain
namespace Go.GrainU
open Go.RowKit
theorem whole_take {b:Bs} (h:Whole b) (s:Lb) (t v:Int):Whole (takeB b s t v).1:=by
 by_cases he:(takeB b s t v).2=0
 ·unfold takeB at *
  by_cases h1:wrongS s≠0
  ·rw [if_pos h1];exact h
  rw [if_neg h1] at he ⊢
  by_cases h2:Grain.inR t v=false
  ·rw [if_pos h2];exact h
  rw [if_neg h2] at he ⊢
  by_cases h3:t<b.hz
  ·rw [if_pos h3];exact h
  rw [if_neg h3] at he ⊢
  by_cases h4:bhas b.l s=true
  ·rw [if_pos h4] at he ⊢
   unfold putB at *
   by_cases h5:(Grain.sapp (kp b.l (bpos b.l s)).s t v).2=0
   ·rw [if_pos h5]
    intro k hk
    rcases List.mem_or_eq_of_mem_set hk with e | e
    ·exact h k e
    ·rw [e]
     show (Grain.sapp _ t v).1.rf=0
     rw [Grain.sapp_rf h5];exact h _ (kp_mem (bhas_lt h4))
   ·rw [if_neg h5];exact h
  ·rw [if_neg h4] at he ⊢
   unfold putN at *
   by_cases h5:8≤b.l.length
   ·rw [if_pos h5];exact h
   rw [if_neg h5] at he ⊢
   by_cases h6:(Grain.sroll (newS s) b.hz).2≠0
   ·rw [if_pos h6];exact h
   rw [if_neg h6] at he ⊢
   by_cases h7:(Grain.sapp (Grain.sroll (newS s) b.hz).1 t v).2≠0
   ·rw [if_pos h7];exact h
   rw [if_neg h7]
   intro k hk
   rcases List.mem_append.1 hk with hk | hk
   ·rcases List.mem_append.1 hk with hk | hk
    ·exact h k (List.mem_of_mem_take hk)
    ·simp at hk
     rw [hk]
     show (Grain.sapp _ t v).1.rf=0
     rw [Grain.sapp_rf (Decidable.not_not.1 h7),Grain.sroll_rf (Decidable.not_not.1 h6)];rfl
   ·exact h k (List.mem_of_mem_drop hk)
 ·rw [takeB_no he];exact h
theorem eachB_whole {f:Grain.Shf→Grain.Shf×Int} (hs:∀ s,(f s).2=0→(f s).1.rf=s.rf):∀ (l l':List Kp),eachB f l=.ok l'→(∀ k∈l,k.s.rf=0)→∀ k∈l',k.s.rf=0:=by
 intro l
 induction l with
 | nil=>intro l' h _;simp [eachB] at h;subst h;simp
 | cons a r ih =>
  intro l' h h1
  by_cases ha:(f a.s).2=0
  ·simp only [eachB,ha,if_true] at h
   cases hr:eachB f r with
   | error x=>rw [hr] at h;simp at h
   | ok r' =>
    rw [hr] at h
    simp at h
    subst h
    intro k hk
    rcases List.mem_cons.1 hk with e | e
    ·rw [e]
     show (f a.s).1.rf=0
     rw [hs _ ha];exact h1 a (by simp)
    ·exact ih r' hr (fun k hk=>h1 k (by simp [hk])) k e
  ·simp [eachB,ha] at h
theorem whole_roll {b:Bs} (h:Whole b) (t:Int):Whole (rollB b t).1:=by
 unfold rollB
 split
 ·exact h
 ·cases he:eachB (fun s=>Grain.sroll s t) b.l with
  | error x=>exact h
  | ok l=>exact eachB_whole (fun s hz=>Grain.sroll_rf hz) _ _ he h
theorem lns_roll (b:Bs) (t:Int):lnsB (rollB b t).1.l=lnsB b.l:=by
 unfold rollB
 split
 ·rfl
 ·cases he:eachB (fun s=>Grain.sroll s t) b.l with
  | error x=>rfl
  | ok l=>exact eachB_se (fun s hz=>(sroll_same hz).1) _ _ he
theorem putB_err (b:Bs) (i:Nat) (t v:Int):(putB b i t v).2=(Grain.sapp (kp b.l i).s t v).2:=by
 unfold putB
 by_cases h:(Grain.sapp (kp b.l i).s t v).2=0
 ·rw [if_pos h,h]
 ·rw [if_neg h]
theorem putN_err {b:Bs} (hb:BInv b) {s:Lb} (hs:wrongS s=0) {t v:Int} (hin:Grain.inR t v=true) (ht:¬ t<b.hz) (i:Nat):(putN b i s t v).2=if 8≤b.l.length then 5 else 0:=by
 have hz:=hb.hz
 have hk0:Grain.Keeps (newS s) []:=Grain.keeps_new hs
 have r0:=Grain.sroll_ok hk0 (by simp) hz.2.1 hz.2.2
 have k0:=Grain.keeps_roll hk0 r0
 have hra0:(Grain.sroll (newS s) b.hz).1.ra=[]:=by rw [Grain.sroll_ra r0];rfl
 have he:=Grain.sapp_err k0 (by rw [hra0];simp) hin
 have hl:Grain.late (Grain.sroll (newS s) b.hz).1 t=false:=by
  unfold Grain.late
  rw [(sroll_same r0).2,hra0]
  have:Grain.nft (newS s) b.hz=b.hz:=by
   show max 0 (Grain.beg b.hz 10)=_
   unfold Grain.beg;omega
  rw [this]
  simp [ht]
 rw [hl,if_neg (by decide)] at he
 unfold putN
 by_cases h8:8≤b.l.length
 ·rw [if_pos h8,if_pos h8]
 ·rw [if_neg h8,if_neg (by simp [r0]),if_neg (by simp [he]),if_neg h8]
theorem takeB_hz (b:Bs) (s:Lb) (t v:Int):(takeB b s t v).1.hz=b.hz:=by
 unfold takeB putB putN
 repeat' split
 all_goals rfl
structure Alike (b b':Bs):Prop where
 i:BInv b
 i':BInv b'
 w:Whole b
 w':Whole b'
 hz:b'.hz=0
 ln:lnsB b.l=lnsB b'.l
theorem Alike.len {b b':Bs} (h:Alike b b'):b.l.length=b'.l.length:=by
 have:=congrArg List.length h.ln
 rw [lnsB_len,lnsB_len] at this
 exact this
theorem Alike.at {b b':Bs} (h:Alike b b') {i:Nat} (hi:i<b.l.length):(kp b.l i).s.se=(kp b'.l i).s.se∧(kp b.l i).A=(kp b'.l i).A:=by
 have h1:=lnn_lnsB hi
 have h2:=lnn_lnsB (l:=b'.l) (k:=i) (by rw [← h.len];exact hi)
 rw [h.ln,h2] at h1
 exact ⟨(Prod.mk.inj h1).1.symm,(Prod.mk.inj h1).2.symm⟩
theorem alike_err {b b':Bs} (h:Alike b b') (h5:FewB 499 b) (s:Lb) (t v:Int) (hne:(takeB b s t v).2≠9):(takeB b' s t v).2=(takeB b s t v).2:=by
 unfold takeB at *
 by_cases h1:wrongS s≠0
 ·rw [if_pos h1,if_pos h1]
 rw [if_neg h1] at hne ⊢
 rw [if_neg h1]
 by_cases h2:Grain.inR t v=false
 ·rw [if_pos h2,if_pos h2]
 rw [if_neg h2] at hne ⊢
 rw [if_neg h2]
 have hin:Grain.inR t v=true:=by simpa using h2
 have ht:0≤t:=by simp [Grain.inR] at hin;omega
 by_cases h3:t<b.hz
 ·rw [if_pos h3] at hne;exact absurd rfl hne
 rw [if_neg h3] at hne ⊢
 have h3':¬ t<b'.hz:=by rw [h.hz];omega
 rw [if_neg h3']
 have hp:bpos b'.l s=bpos b.l s:=by rw [← lpos_lnsB,← lpos_lnsB,h.ln]
 have hh:bhas b'.l s=bhas b.l s:=by rw [← lhas_lnsB,← lhas_lnsB,h.ln]
 rw [hh,hp]
 by_cases h4:bhas b.l s=true
 ·rw [if_pos h4] at hne ⊢
  rw [if_pos h4]
  have hi:=bhas_lt h4
  have hi':bpos b.l s<b'.l.length:=by rw [← h.len];exact hi
  rw [putB_err] at hne ⊢
  rw [putB_err]
  have k1:=h.i.kee _ (kp_mem hi)
  have k2:=h.i'.kee _ (kp_mem hi')
  have r1:=Grain.whole_ra k1 (h.w _ (kp_mem hi))
  have r2:=Grain.whole_ra k2 (h.w' _ (kp_mem hi'))
  have hA:=(h.at hi).2
  have hl:=h5 _ (kp_mem hi)
  have e1:=Grain.sapp_err k1 (by rw [r1];omega) hin
  have e2:=Grain.sapp_err k2 (by rw [r2,← hA];omega) hin
  have ft':(kp b'.l (bpos b.l s)).s.ft=0:=by rw [h.i'.ft _ (kp_mem hi'),h.hz]
  by_cases hl1:Grain.late (kp b.l (bpos b.l s)).s t=true
  ·rw [e1,if_pos hl1] at hne;exact absurd rfl hne
  ·have hl2:¬ Grain.late (kp b'.l (bpos b.l s)).s t=true:=by
    intro hc
    apply hl1
    unfold Grain.late at hc ⊢
    rw [ft',r2,← hA] at hc
    rw [r1]
    have:decide (t<0)=false:=by simp;omega
    rw [this,Bool.false_or] at hc
    rw [hc,Bool.or_true]
   rw [e1,e2,if_neg hl1,if_neg hl2]
 ·rw [if_neg h4] at hne ⊢
  rw [if_neg h4]
  have hs:wrongS s=0:=Decidable.not_not.1 h1
  rw [putN_err h.i hs hin h3,putN_err h.i' hs hin h3',h.len]
theorem alike_take {b b':Bs} (h:Alike b b') (h5:FewB 499 b) (s:Lb) (t v:Int) (hne:(takeB b s t v).2≠9):Alike (takeB b s t v).1 (takeB b' s t v).1:=by
 have he:=alike_err h h5 s t v hne
 refine ⟨takeB_inv h.i s t v,takeB_inv h.i' s t v,whole_take h.w s t v,whole_take h.w' s t v,by rw [takeB_hz];exact h.hz,?_⟩
 by_cases h0:(takeB b s t v).2=0
 ·rw [tell_take h0,tell_take (by rw [he];exact h0),h.ln]
 ·rw [takeB_no h0,takeB_no (by rw [he];exact h0)];exact h.ln
theorem alike_roll {b b':Bs} (h:Alike b b') (t:Int):Alike (rollB b t).1 b':=⟨rollB_inv h.i t,h.i',whole_roll h.w t,h.w',h.hz,by rw [lns_roll];exact h.ln⟩
theorem costg_le {f g:Hd→Nat} {m:Nat} (hf:∀ h,winBad h=0→f h≤g h∧g h≤m):∀ x:Ex,Rt x→costG f x≤costG g x∧costG g x≤m*cnt x:=by
 refine Ex.ind ?_
 intro h kids ih hrt
 obtain ⟨ha,hk⟩:=Rt.parts hrt
 have hL:∀ ks:List Ex,(∀ k∈ks,k∈kids)→costGL f ks≤costGL g ks∧costGL g ks≤m*cntL ks:=by
  intro ks
  induction ks with
  | nil=>intro _;exact ⟨Nat.le_refl _,Nat.zero_le _⟩
  | cons a r ihr =>
   intro hm
   have h1:=ih a (hm a (by simp)) (hk a (hm a (by simp)))
   have h2:=ihr (fun k hk'=>hm k (by simp [hk']))
   rw [costGL,costGL,cntL,Nat.mul_add]
   omega
 have h3:=hL kids (fun k hk=>hk)
 rw [costG,costG,cnt,Nat.mul_add]
 by_cases e1:h.kind=1
 ·rw [if_pos e1,if_pos e1];omega
 rw [if_neg e1,if_neg e1]
 by_cases e2:h.kind=2
 ·rw [if_pos e2,if_pos e2]
  have hwb:winBad h=0:=by
   rcases alone_cases ha with ⟨q,_⟩ | ⟨_,_,q⟩ | ⟨q,_⟩ | ⟨q,_⟩
   ·omega
   ·exact q
   ·omega
   ·omega
  have:=hf h hwb
  omega
 rw [if_neg e2,if_neg e2]
 omega
theorem lookK_eq {s:Grain.Shf} {f t:Int} (hc:(Grain.choose s f t).2=0):lookK s f t=Grain.rdN s (Grain.choose s f t).1:=by
 obtain ⟨hv,_,hw⟩:=Grain.choose_ok hc
 have hf:=Grain.cvr_fol hv
 unfold lookK Grain.read
 rw [if_neg (by simp [hw]),if_neg (by rw [hf];decide)]
 simp
theorem look_cheap {s s':Grain.Shf} {A:List (Int×Int)} (h:Grain.Keeps s A) (h':Grain.Keeps s' A) (hr:s.rf=0) (hr':s'.rf=0) (hft:s'.ft=0) {f t:Int} (h0:0≤f) (h1:f≤t) (h2:t≤1000000):lookK s f t≤lookK s' f t∧lookK s' f t≤A.length:=by
 have c1:=Grain.choose_raw h.sr hr h0 h1 h2
 have c2:=Grain.choose_raw h'.sr hr' h0 h1 h2
 rw [lookK_eq c1,lookK_eq c2]
 have e1:=Grain.rdN_cheap h (by omega) _ _ (Grain.choose_ok c1).1
 have e2:=Grain.rdN_raw h' hft (by have:=h'.sr.bd;omega) h0 _ _ (Grain.choose_ok c2).1
 rw [Grain.whole_ra h hr] at e1
 have:=Grain.win_len A f t
 omega
theorem over_cheap {b b':Bs} (h:Alike b b') (h5:FewB 500 b) {time:Int} (t0:0≤time) (t1:time≤1000000) (hd:Hd) (hw:winBad hd=0):∀ n,n≤b.l.length →
  winKT (fun i=>lookK (kp b.l i).s (max 0 (time-hd.range)) time) hd (sersB b.l) n≤winKT (fun i=>lookK (kp b'.l i).s (max 0 (time-hd.range)) time) hd (sersB b'.l) n∧winKT (fun i=>lookK (kp b'.l i).s (max 0 (time-hd.range)) time) hd (sersB b'.l) n≤500*n:=by
 obtain ⟨_,_,_,r1,r2⟩:=winBad_ok hw
 intro n
 induction n with
 | zero=>intro _;exact ⟨Nat.le_refl _,Nat.le_refl _⟩
 | succ n ih =>
  intro hn
  have ih':=ih (by omega)
  have hi:n<b.l.length:=by omega
  have hi':n<b'.l.length:=by rw [← h.len];exact hi
  rw [winKT,winKT,st_sersB,st_sersB,(h.at hi).1]
  have k1:=h.i.kee _ (kp_mem hi)
  have k2:=h.i'.kee _ (kp_mem hi')
  rw [(h.at hi).2] at k1
  have hc:=look_cheap k1 k2 (h.w _ (kp_mem hi)) (h.w' _ (kp_mem hi')) (by rw [h.i'.ft _ (kp_mem hi'),h.hz]) (f:=max 0 (time-hd.range)) (t:=time) (by omega) (by omega) t1
  have hl:=h5 _ (kp_mem hi)
  rw [(h.at hi).2] at hl
  by_cases hs:says (kp b'.l n).s.se hd.ms=true
  ·rw [if_pos hs,if_pos hs]
   have e1:(fun i=>lookK (kp b.l i).s (max 0 (time-hd.range)) time) n=lookK (kp b.l n).s (max 0 (time-hd.range)) time:=rfl
   omega
  ·rw [if_neg hs,if_neg hs];omega
theorem askK_cheap {b b':Bs} (h:Alike b b') (h5:FewB 500 b) {time:Int} {e:Ex} (hc:chk e time=0):askK b time e≤askK b' time e∧askK b' time e≤400000:=by
 obtain ⟨hrt,t0,t1⟩:=chk_zero hc
 have hcnt:(cnt e:Int)≤100:=by
  unfold chk at hc
  by_cases h1:(wr e 1 0).1=0
  ·have:=(wr_ok e 1 0 (by omega) h1).2.2.1
   omega
  ·rw [if_neg h1] at hc;exact absurd hc h1
 have:=costg_le (f:=overC (fun i f t=>lookK (kp b.l i).s f t) (sersB b.l) b.l.length time) (g:=overC (fun i f t=>lookK (kp b'.l i).s f t) (sersB b'.l) b'.l.length time) (m:=4000) (fun hd hw=>by
  unfold overC
  rw [← h.len]
  have h1:=over_cheap h h5 t0 t1 hd hw b.l.length (Nat.le_refl _)
  have h2:=h.i.len
  exact ⟨h1.1,Nat.le_trans h1.2 (by omega)⟩) e hrt
 unfold askK overK
 refine ⟨this.1,?_⟩
 have h3:4000*cnt e≤4000*100:=Nat.mul_le_mul_left _ (by omega)
 omega
theorem an_alike {b b':Bs} (h:Alike b b') (h5:FewB 500 b) (time:Int) (e:Ex):(anE b' time e).err=(anE b time e).err∧(anE b' time e).cs=(anE b time e).cs∧(anE b time e).cost≤(anE b' time e).cost:=by
 have h5':FewB 500 b':=by
  intro k hk
  obtain ⟨j,hj,rfl⟩:=List.mem_iff_getElem.1 hk
  have hj2:j<b.l.length:=by rw [h.len];exact hj
  have:=h5 _ (kp_mem hj2)
  rw [(h.at hj2).2,kp_get hj] at this
  exact this
 have e1:=askE_whole h.i h5 h.w time e
 have e2:=askE_whole h.i' h5' h.w' time e
 rw [← h.ln] at e2
 have e3:askE b' time e=askE b time e:=by rw [e1,e2]
 unfold anE
 rw [e3]
 cases ho:askE b time e with
 | error x=>exact ⟨rfl,rfl,Int.le_refl _⟩
 | ok m =>
  refine ⟨rfl,rfl,?_⟩
  have hc:chk e time=0:=by
   by_cases hc:chk e time=0
   ·exact hc
   ·rw [e1,if_neg hc] at ho;cases ho
  have:=askK_cheap h h5 hc
  show wrap64 (askK b time e)≤wrap64 (askK b' time e)
  unfold wrap64
  omega
theorem ask_alike {b b':Bs} (h:Alike b b') (h5:FewB 500 b) (tx:ByteArray) (time:Int):(askB b' tx time).err=(askB b tx time).err∧(askB b' tx time).cs=(askB b tx time).cs∧(askB b tx time).cost≤(askB b' tx time).cost:=by
 unfold askB
 cases prs tx.data.toList with
 | error f=>exact ⟨rfl,rfl,Int.le_refl _⟩
 | ok e=>exact an_alike h h5 time e
def unr:List Dn→List An→List An
 | d::r,a::s=>if d.kind=2 then unr r s else a::unr r s
 | _,_=>[]
def keepR (l:List Dn):List Dn:=l.filter fun d=>decide (d.kind≠2)
def Seen (x y:An):Prop:=y.err=x.err∧y.cs=x.cs∧x.cost≤y.cost
theorem alike_play:∀ (l:List Dn) (b b':Bs) (m:Nat),Alike b b'→FewB m b→m+l.length≤499→(∀ d∈l,d.kind≠3)→(∀ a∈(playB b l).2,a.err≠9) →
  (playB b' (keepR l)).2.length=(unr l (playB b l).2).length∧∀ (k:Nat) (x y:An),(unr l (playB b l).2)[k]?=some x→(playB b' (keepR l)).2[k]?=some y→Seen x y:=by
 intro l
 induction l with
 | nil=>intro b b' m _ _ _ _ _;exact ⟨rfl,fun k x y hx=>by simp [unr] at hx⟩
 | cons d r ih =>
  intro b b' m h h5 hm hk ha
  have e2:(playB b (d::r)).2=(doB b d).2::(playB (doB b d).1 r).2:=rfl
  rw [e2] at ha ⊢
  have ha1:=ha _ (List.mem_cons_self ..)
  have ha2:∀ a∈(playB (doB b d).1 r).2,a.err≠9:=fun a h=>ha a (List.mem_cons_of_mem _ h)
  have hk1:=hk d (List.mem_cons_self ..)
  have hk2:∀ x∈r,x.kind≠3:=fun x hx=>hk x (List.mem_cons_of_mem _ hx)
  have h5':=doB_few h5 d
  simp only [List.length_cons] at hm
  by_cases d2:d.kind=2
  ·have ek:keepR (d::r)=keepR r:=by simp [keepR,d2]
   have eu:unr (d::r) ((doB b d).2::(playB (doB b d).1 r).2)=unr r (playB (doB b d).1 r).2:=by simp [unr,d2]
   rw [ek,eu]
   have hd:(doB b d).1=(rollB b d.till).1:=by unfold doB;rw [if_neg (by omega),if_pos d2]
   refine ih _ b' (m+1) ?_ h5' (by omega) hk2 ha2
   rw [hd];exact alike_roll h _
  ·have ek:keepR (d::r)=d::keepR r:=by simp [keepR,d2]
   have eu:unr (d::r) ((doB b d).2::(playB (doB b d).1 r).2)=(doB b d).2::unr r (playB (doB b d).1 r).2:=by simp [unr,d2]
   rw [ek,eu]
   have hstep:Alike (doB b d).1 (doB b' d).1∧Seen (doB b d).2 (doB b' d).2:=by
    by_cases d1:d.kind=1
    ·have q1:doB b d=((takeB b d.se d.t d.v).1,⟨(takeB b d.se d.t d.v).2,0,[],0⟩):=by unfold doB;rw [if_pos d1]
     have q2:doB b' d=((takeB b' d.se d.t d.v).1,⟨(takeB b' d.se d.t d.v).2,0,[],0⟩):=by unfold doB;rw [if_pos d1]
     rw [q1] at ha1
     rw [q1,q2]
     exact ⟨alike_take h (h5.mono (by omega)) _ _ _ ha1,alike_err h (h5.mono (by omega)) _ _ _ ha1,rfl,Int.le_refl _⟩
    ·by_cases d4:d.kind=4
     ·have q:∀ c:Bs,doB c d=(c,askB c d.tx d.till):=fun c=>by unfold doB;rw [if_neg d1,if_neg d2,if_neg hk1,if_pos d4]
      rw [q,q]
      exact ⟨h,ask_alike h (h5.mono (by omega)) _ _⟩
     ·have q:∀ c:Bs,doB c d=(c,⟨1,0,[],0⟩):=fun c=>by unfold doB;rw [if_neg d1,if_neg d2,if_neg hk1,if_neg d4]
      rw [q,q]
      exact ⟨h,rfl,rfl,Int.le_refl _⟩
   have ih':=ih _ (doB b' d).1 (m+1) hstep.1 h5' (by omega) hk2 ha2
   have e3:(playB b' (d::keepR r)).2=(doB b' d).2::(playB (doB b' d).1 (keepR r)).2:=rfl
   rw [e3]
   refine ⟨by simp [ih'.1],fun k x y hx hy=>?_⟩
   cases k with
   | zero =>
    simp at hx hy
    rw [← hx,← hy];exact hstep.2
   | succ k =>
    simp at hx hy
    exact ih'.2 k x y hx hy
theorem alike0:Alike b0 b0:=⟨b0_inv,b0_inv,fun k hk=>by simp [b0] at hk,fun k hk=>by simp [b0] at hk,rfl,rfl⟩
end Go.GrainU
namespace Go.Proofs.YtoldmigappbjcaaGreatDoor
open Go.RowKit Go.GrainU
set_option maxHeartbeats 1000000 in
theorem ladd_any (h:ByteArray) (t v:Int) (w:World) (hh:h.size≤9223372036854775807) :
  Calls Tryz.prog 34 #[.string h,.int .i64 t,.int .i64 v] w fun e w'=>∃ S:Nat,e=.returned (.agg #[.int .i64 1,.int .i64 0,.int .i64 0,.slice (some ⟨S,0,none⟩) 1 1,.int .i64 t,.int .i64 v,.string ⟨#[]⟩])∧DIn w' ⟨dAdd h t v,some ⟨S,0,none⟩,1⟩∧Below w.heap.size w w':=by
 have FIN:∀ o,Hid (DIn ((w.alloc o).alloc (.cells #[.string hostB,.string h] 88)) ⟨dAdd h t v,some ⟨w.heap.size+1,0,none⟩,1⟩∧Below w.heap.size w ((w.alloc o).alloc (.cells #[.string hostB,.string h] 88))):=by
  intro o
  refine ⟨⟨?_,?_,fun h=>(by cases h),by show (ByteArray.mk #[]).size≤_;decide⟩,((Below.refl _ _).alloc (Nat.le_refl _) _).alloc (by simp) _⟩
  ·have:=seg_new (w.alloc o) #[.string hostB,.string h] 88
   simpa [dAdd,lcells] using this
  ·intro k hk
   have:k=0:=by simp [dAdd] at hk;exact hk
   subst this
   exact ⟨by show hostB.size≤_;decide,hh⟩
 have HF:=hide FIN
 clear FIN hh
 unfold hostB at HF
 go_enter Tryz.func34,Tryz.ntmps34
 go_wp2
 exact bodyPost_ret (v:=.agg #[.int .i64 1,.int .i64 0,.int .i64 0,.slice (some ⟨w.heap.size+1,0,none⟩) 1 1,.int .i64 t,.int .i64 v,.string ⟨#[]⟩]) (by simp [results,Tryz.results34,go_sem]) rfl ⟨_,rfl,(HF.out _).out.1,(HF.out _).out.2⟩
def alive9S:ByteArray:=⟨#[97,108,108,32,115,117,109,32,40,115,117,109,40,123,125,91,54,48,93,41,41]⟩
def alive9L:List Dn:=[dAdd ⟨#[120]⟩ 5 7,dAdd ⟨#[121]⟩ 6 8,dRoll 100,dAsk alive9S 60]
theorem alive9_l:(playB b0 alive9L).1.l.length=2:=by kernel_rfl
theorem alive9_a:(playB b0 alive9L).2.getD 3 ⟨1,0,[],0⟩=⟨0,0,[([],15)],2⟩:=by kernel_rfl
set_option maxRecDepth 20000 in
set_option maxHeartbeats 4000000 in
theorem lalive_any (w:World) (hv:ErrV w):Calls Tryz.prog 13 #[] w fun e w'=>e=.returned (.bool true)∧Below w.heap.size w w':=by
 have P1:=hide (ladd_any ⟨#[120]⟩ 5 7 w (by decide))
 have HV:=hide hv
 clear hv
 go_enter Tryz.func13,Tryz.ntmps13
 go_wp2_with fail
 refine P1.out.mono ?_
 rintro e w1 ⟨S,rfl,d1,b1⟩
 have P2:=hide (ladd_any ⟨#[121]⟩ 6 8 w1 (by decide))
 clear P1
 go_wp2_with fail
 refine P2.out.mono ?_
 rintro e w2 ⟨S2,rfl,d2,b2⟩
 have bel2:Below w.heap.size w w2:=b1.trans (b2.mono b1.size)
 have D1:=d1.below b2
 obtain ⟨W,hW⟩:∃ W,W=w2.alloc (.cells #[.int .i64 1,.int .i64 0,.int .i64 0,.slice (some ⟨S,0,none⟩) 1 1,.int .i64 5,.int .i64 7,.string ⟨#[]⟩,.int .i64 1,.int .i64 0,.int .i64 0,.slice (some ⟨S2,0,none⟩) 1 1,.int .i64 6,.int .i64 8,.string ⟨#[]⟩,.int .i64 2,.int .i64 0,.int .i64 100,.slice none 0 0,.int .i64 0,.int .i64 0,.string ⟨#[]⟩,.int .i64 4,.int .i64 0,.int .i64 60,.slice none 0 0,.int .i64 0,.int .i64 0,.string ⟨#[97,108,108,32,115,117,109,32,40,115,117,109,40,123,125,91,54,48,93,41,41]⟩] 36):=⟨_,rfl⟩
 have bW:Below w2.heap.size w2 W:=by rw [hW];exact (Below.refl _ _).alloc (Nat.le_refl _) _
 have belW:Below w.heap.size w W:=bel2.trans (bW.mono bel2.size)
 obtain ⟨l,hl⟩:∃ l:List DT,l=[⟨dAdd ⟨#[120]⟩ 5 7,some ⟨S,0,none⟩,1⟩,⟨dAdd ⟨#[121]⟩ 6 8,some ⟨S2,0,none⟩,1⟩,⟨dRoll 100,none,0⟩,⟨dAsk alive9S 60,none,0⟩]:=⟨_,rfl⟩
 have hd:dns l=alive9L:=by rw [hl];rfl
 have hl4:l.length=4:=by rw [hl];rfl
 have sg:Seg W (some ⟨w2.heap.size,0,none⟩) (dcells l):=by
  rw [hW,hl];exact seg_new w2 _ _
 have P3:=hide (play_any l (some ⟨w2.heap.size,0,none⟩) 4 4 W sg (fun x hx=>by
  rw [hl] at hx
  simp at hx
  rcases hx with e | e | e | e
  ·rw [e];exact D1.below bW
  ·rw [e];exact d2.below bW
  ·rw [e];exact din_none _ _ rfl (by show (ByteArray.mk #[]).size≤_;decide)
  ·rw [e];exact din_none _ _ rfl (by show alive9S.size≤_;decide)) hl4.symm (HV.out.below belW))
 have HW:=hide hW
 have HD:=hide hd
 have HL4:=hide hl4
 clear P2 d1 d2 D1 b1 b2 bel2 hW sg bW HV hd hl hl4
 go_wp2_with fail
 rw [← HW.out]
 refine P3.out.mono ?_
 intro e w3 hh
 rcases hh with ⟨h120,_⟩ | ⟨h120,ro,oo,rn,rc,d,hz,sl,ys,rfl,hrow,hli,hhz,hout,hys,b3⟩
 ·rw [HL4.out] at h120;exact absurd h120 (by decide)
 ·rw [HD.out] at hli hys
  rw [HL4.out] at hout ⊢
  have bel3:Below w.heap.size w w3:=belW.trans (b3.mono belW.size)
  have hrn:rn=2:=by
   have h1:=hrow.len
   have h2:=hli.len
   rw [h1,h2,alive9_l]
  have hyl:=hout.len
  obtain ⟨y,hy⟩:∃ y,y=ys.getD 3 ⟨⟨1,0,[],0⟩,[],none,0⟩:=⟨_,rfl⟩
  have hmy:3<ys.length:=by omega
  have yin:AnIn w3 y:=by
   rw [hy]
   refine hout.ans _ ?_
   simp only [List.getD,List.getElem?_eq_getElem hmy,Option.getD_some];exact List.getElem_mem hmy
  have ya:y.a=⟨0,0,[([],15)],2⟩:=by
   rw [← alive9_a,← hys,hy]
   simp [List.getD,List.getElem?_eq_getElem hmy]
  obtain ⟨bb,off,hoo,hcs⟩:∃ b off,oo=some ⟨b,off,none⟩∧∀ j,j<(acells4 ys).length→w3.cell? ⟨b,off+j,none⟩=(acells4 ys)[j]?:=by
   rcases own_seg' hout.own with h | ⟨b,off,h1,h2⟩
   ·have:=acells4_length ys
    rw [h] at this
    simp at this
    omega
   ·exact ⟨b,off,h1,h2⟩
  have hal:=acells4_length ys
  have cc:∀ j,j<4→w3.cell? ⟨bb,off+12+j,none⟩=y.cells[j]?:=fun j hj=>by
   rw [hy,← acells4_at ys 3 j hmy hj,Nat.add_assoc];exact hcs (3*4+j) (by omega)
  obtain ⟨ya',cts,co,cap⟩:=y
  simp only at ya
  subst ya
  have hc:=yin.cs
  have hci:=yin.inn
  simp only at hc hci
  have hl1:cts.length=1:=by have:=congrArg List.length hc;simpa [cls] using this
  have hk:0<cts.length:=by omega
  obtain ⟨b,off2,hco,hbb,hcell⟩:=seg_cell hci.seg hk
  have hv0:(ct cts 0).v=15:=by
   match cts,hl1,hc with
   | [c],_,h =>
    simp [cls,CT.cl] at h
    exact h.2
  have q1:w3.cell? ⟨b,off2+1,none⟩=some (.int .i64 15):=by
   have:=(hcell 0 hk).2
   rw [hv0] at this
   simpa using this
  have c2:w3.cell? ⟨bb,off+12+2,none⟩=some (.slice (some ⟨b,off2,none⟩) 1 cap):=by rw [← hco,← hl1];exact cc 2 (by omega)
  have c3:w3.cell? ⟨bb,off+12+3,none⟩=some (.int .i64 2):=cc 3 (by omega)
  have l1:bb<w3.heap.size:=World.block_lt_of_cell? w3 _ c2
  have l2:b<w3.heap.size:=World.block_lt_of_cell? w3 _ q1
  have HB:Hid (∀ o,Below w.heap.size w (w3.alloc o)):=fun o=>bel3.alloc bel3.size _
  subst hoo
  subst hrn
  clear P3 hrow hli hhz hout hys b3 bel3 hcs cc hal yin hc hci hcell hv0 hl1 hk hyl hmy hy h120 HW HD HL4
  go_wp2
  go_ret
  exact ⟨rfl,HB.out _⟩
open Go.RowKit Go.GrainU
def at0:AT:=⟨⟨1,0,[],0⟩,[],none,0⟩
theorem dcells_append (a b:List DT):dcells (a++b)=dcells a++dcells b:=by
 induction a with
 | nil=>rfl
 | cons x r ih=>simp only [List.cons_append,dcells,ih,List.append_assoc]
theorem Tryz.infoDo:(Tryz.prog.info? 36).map (fun i=>(i.zero,i.size,i.bytes))=some (some (.agg #[.int .i64 0,.int .i64 0,.int .i64 0,.slice none 0 0,.int .i64 0,.int .i64 0,.string ⟨#[]⟩]),7,80):=by kernel_rfl
end Go.Proofs.YtoldmigappbjcaaGreatDoor
namespace Go.GrainU
open Go.RowKit
theorem own_beside {w w':World} {base e size n:Nat} {v:Value} {xs:List Value} {r:Option Nat} (h:w.ownsRow base e size v n xs) (hg:w.grownBy w' r) (hne:∀ g,v.ownBlock=some g→r≠some g):w'.ownsRow base e size v n xs:=by
 refine ⟨h.1,?_⟩
 rcases h.2 with h0 | ⟨g,cap,cur,hv,hb,hgb,q⟩
 ·exact .inl h0
 ·refine .inr ⟨g,cap,cur,hv,hb,?_,q⟩
  have hlt:g<w.heap.size:=by
   rcases Nat.lt_or_ge g w.heap.size with h1 | h1
   ·exact h1
   ·rw [Array.getElem?_eq_none h1] at hgb;cases hgb
  rw [hg.block g hlt (fun e=>hne g (by rw [hv];rfl) e.symm)]
  exact hgb
theorem own_is {w:World} {base e size n:Nat} {v:Value} {xs:List Value} (h:w.ownsRow base e size v n xs):∀ k,v.ownBlock=some k→∃ c fr,w.heap[k]?=some (.cells c e fr):=by
 intro k hk
 rcases h.2 with ⟨hv,_⟩ | ⟨g,cap,cur,hv,_,hgb,_⟩
 ·rw [hv] at hk;cases hk
 ·rw [hv] at hk
  injection hk with hk
  subst hk
  exact ⟨_,_,hgb⟩
theorem own_two {w w':World} {base base' e e' size size' n n':Nat} {v v':Value} {xs xs':List Value} (h:w.ownsRow base e size v n xs) (h':w.ownsRow base' e' size' v' n' xs') (hg:w.grownBy w' v'.ownBlock) (hne:e≠e'):w'.ownsRow base e size v n xs:=by
 refine own_beside h hg (fun g h1 h2=>?_)
 obtain ⟨c,fr,k1⟩:=own_is h g h1
 obtain ⟨c',fr',k2⟩:=own_is h' g h2
 rw [k1] at k2
 injection k2 with k2
 injection k2 with _ k3 _
 exact hne k3
def Few8 (cs:List Cl):Prop:=cs.length≤8∧∀ c∈cs,c.1.length≤4
theorem few8_nil:Few8 []:=⟨by simp,fun c hc=>by cases hc⟩
theorem an_few {b:Bs} (hb:BInv b) (h5:FewB 500 b) (time:Int) (e:Ex):Few8 (anE b time e).cs:=by
 unfold anE
 cases ho:askE b time e with
 | error x=>exact few8_nil
 | ok m =>
  unfold askE overE at ho
  by_cases hc:chk e time=0
  ·rw [if_pos hc] at ho
   have hg:=evg_gd (base_gd hb h5 time) e (chk_zero hc).1 m ho
   exact ⟨hg.len,fun c hc=>(hg.fine c hc).2.2⟩
  ·rw [if_neg hc] at ho;cases ho
theorem do_few {b:Bs} (hb:BInv b) (h5:FewB 500 b) (d:Dn):Few8 (doB b d).2.cs:=by
 unfold doB
 by_cases k1:d.kind=1
 ·rw [if_pos k1];exact few8_nil
 rw [if_neg k1]
 by_cases k2:d.kind=2
 ·rw [if_pos k2];exact few8_nil
 rw [if_neg k2]
 by_cases k3:d.kind=3
 ·rw [if_pos k3];exact few8_nil
 rw [if_neg k3]
 by_cases k4:d.kind=4
 ·rw [if_pos k4]
  show Few8 (askB b d.tx d.till).cs
  unfold askB
  cases prs d.tx.data.toList with
  | error f=>exact few8_nil
  | ok e=>exact an_few hb h5 _ _
 ·rw [if_neg k4];exact few8_nil
theorem play_few:∀ (l:List Dn) (b:Bs) (m:Nat),BInv b→FewB m b→m+l.length≤500→∀ a∈(playB b l).2,Few8 a.cs
 | [],b,m,_,_,_=>fun a ha=>by simp [playB] at ha
 | d::r,b,m,hb,h5,hm=>fun a ha=>by
  simp only [List.length_cons] at hm
  have e:(playB b (d::r)).2=(doB b d).2::(playB (doB b d).1 r).2:=rfl
  rw [e] at ha
  rcases List.mem_cons.1 ha with q | q
  ·rw [q];exact do_few hb (h5.mono (by omega)) d
  ·exact play_few r _ (m+1) (doB_inv hb d) (doB_few h5 d) (by omega) a q
theorem few0:FewB 0 b0:=fun k hk=>by simp [b0] at hk
end Go.GrainU
namespace Go.Proofs.YtoldmigappbjcaaGreatDoor
open Go.RowKit Go.GrainU
theorem few_cts {y:AT} {w:World} (h:AnIn w y) (hf:Few8 y.a.cs):y.cts.length≤8∧∀ x∈y.cts,x.ser.length≤4:=by
 rw [← h.cs] at hf
 refine ⟨by have:=hf.1;rwa [cls_len] at this,fun x hx=>hf.2 x.cl (List.mem_map_of_mem hx)⟩
end Go.Proofs.YtoldmigappbjcaaGreatDoor
