import Derived.Test.YtoldmigappbjcaaGreatDoorK01
import Derived.Test.YtoldmigappbjcaaGreatDoorK02
import Derived.Test.YtoldmigappbjcaaGreatDoorK05
import Derived.Test.YtoldmigappbjcaaGreatDoorK06
import Derived.Test.YtoldmigappbjcaaGreatDoorK07
import Derived.Test.YtoldmigappbjcaaGreatDoorK15
import Derived.Test.YtoldmigappbjcaaGreatDoorK17
import Derived.Test.YtoldmigappbjcaaGreatDoorK25
import Derived.Test.YtoldmigappbjcaaGreatDoorK28
import Derived.Test.YtoldmigappbjcaaGreatDoorK30
import Derived.Test.YtoldmigappbjcaaGreatDoorK31
import Derived.Test.YtoldmigappbjcaaGreatDoorTopWords01
namespace Grain
theorem wrongAt_of {s:Shf} {tq:Int} (h:SR s) (h1:0≤tq) (h2:tq≤1000000):wrongAt s tq=0:=by
 unfold wrongAt
 rw [if_neg (by simp [(sr_iff s).2 h]),if_neg (by omega)]
theorem choose_gone {s:Shf} {f t:Int} (h0:swrong s=0) (h1:0≤f) (h2:f≤t) (h3:t≤1000000) (h:(choose s f t).2≠0):(choose s f t).2=10:=by
 unfold choose at *
 rw [if_neg (by simp [h0]),if_neg (by omega)] at *
 exact ((chs_all (s:=s) (f:=f) (tq:=t) (t-f).toNat f [] (by simp [cvr]) (fun i a b=>by simp at b) (by omega) (Nat.le_refl _)).2 h).2
theorem chs_gone {s:Shf} (sr:SR s) (hc:s.cf=0) {t:Int} (ht:t≤1000000) (h1:t%60=0∨s.ct≤t) (h2:t%10=0∨s.ft≤t):∀ (n:Nat) (a:Int) (out:List Pt),0≤a→(a%60=0∨s.ct≤a)→(a%10=0∨s.ft≤a)→(chs s t n a out).2=0:=by
 have f1:=sr.fsp
 have f2:=sr.csp
 have f3:=sr.bd
 intro n
 induction n with
 | zero=>intro a out _ _ _;rfl
 | succ n ih =>
  intro a out h0 h3 h4
  by_cases e:a<t
  ·rw [chs,if_pos e]
   by_cases c1:a<s.ct
   ·have m:may s ⟨2,a,a+60⟩=true:=by
     unfold may
     rw [if_neg (by simp only;omega),if_neg (by simp),if_neg (by simp),if_pos rfl]
     simp only [decide_eq_true_eq]
     omega
    have en:nxt s a t=⟨2,a,a+60⟩:=by
     rw [nxt,if_pos ⟨by omega,m⟩]
    rw [en,if_pos m]
    exact ih _ _ (by simp only;omega) (by simp only;omega) (by simp only;omega)
   ·have nm:¬ (a+60≤t∧may s ⟨2,a,a+60⟩=true):=by
     rintro ⟨_,m⟩
     unfold may at m
     rw [if_neg (by simp only;omega),if_neg (by simp),if_neg (by simp),if_pos rfl] at m
     simp only [decide_eq_true_eq] at m
     omega
    by_cases c2:a<s.ft
    ·have m:may s ⟨1,a,a+10⟩=true:=by
      unfold may
      rw [if_neg (by simp only;omega),if_neg (by simp),if_pos rfl]
      simp only [decide_eq_true_eq]
      omega
     have en:nxt s a t=⟨1,a,a+10⟩:=by
      rw [nxt,if_neg nm,if_pos ⟨by omega,m⟩]
     rw [en,if_pos m]
     exact ih _ _ (by simp only;omega) (by simp only;omega) (by simp only;omega)
    ·have nm2:¬ (a+10≤t∧may s ⟨1,a,a+10⟩=true):=by
      rintro ⟨_,m⟩
      unfold may at m
      rw [if_neg (by simp only;omega),if_neg (by simp),if_pos rfl] at m
      simp only [decide_eq_true_eq] at m
      omega
     have en:nxt s a t=⟨0,a,t⟩:=by
      rw [nxt,if_neg nm,if_neg nm2,if_pos (by omega)]
     have m:may s ⟨0,a,t⟩=true:=by
      unfold may
      rw [if_neg (by simp only;omega),if_pos rfl]
      simp only [decide_eq_true_eq]
      omega
     rw [en,if_pos m]
     exact ih _ _ (by simp only;omega) (by simp only;omega) (by simp only;omega)
  ·rw [chs_end e]
theorem choose_gets {s:Shf} (sr:SR s) (hc:s.cf=0) {f t:Int} (h0:0≤f) (hft:f≤t) (ht:t≤1000000) (hf:f%60=0) (h1:t%60=0∨s.ct≤t) (h2:t%10=0∨s.ft≤t):(choose s f t).2=0:=by
 unfold choose
 rw [if_neg (by simp [(sr_iff s).2 sr]),if_neg (by omega)]
 exact chs_gone sr hc ht h1 h2 _ _ _ h0 (.inl hf) (.inl (by omega))
theorem up_fewer (st:Int) {l:List (Int×Int)} (h:l.length≤1000000):(up l st).length≤l.length:=by
 have:=(up_fit st l h).len
 omega
end Grain
namespace Go.GrainU
open Go.RowKit
def lser (l:List Ln) (k:Nat):Lb:=(l.getD k ([],[])).1
theorem cmpS_self (a:Lb):cmpS a a=0:=by rw [cmpS_L];exact cmpL_self a
open Go.RowKit
theorem playB_len:∀ (l:List Dn) (b:Bs),(playB b l).2.length=l.length
 | [],b=>rfl
 | x::r,b=>by simp [playB,playB_len r]
open Go.RowKit
theorem look_gone {s:Grain.Shf} (hs:Grain.swrong s=0) {f t:Int} (h1:0≤f) (h2:f≤t) (h3:t≤1000000) {E:Int} (h:lookS s f t=.error E):E=10:=by
 unfold lookS at h
 by_cases h0:(Grain.choose s f t).2=0
 ·rw [if_pos h0] at h
  obtain ⟨hc,_,hw⟩:=Grain.choose_ok h0
  have hf:=Grain.cvr_fol hc
  have hr:Grain.read s (Grain.choose s f t).1=(Grain.rdS s (Grain.choose s f t).1,(Grain.rdN s (Grain.choose s f t).1:Int),0):=by
   unfold Grain.read
   rw [if_neg (by simp [hw]),if_neg (by rw [hf];decide)]
  rw [hr] at h
  simp at h
 ·rw [if_neg h0] at h
  injection h with h
  rw [← h];exact Grain.choose_gone hs h1 h2 h3 h0
open Go.RowKit
theorem putB_no {b:Bs} {i:Nat} {t v:Int} (h:(putB b i t v).2≠0):(putB b i t v).1=b:=by
 unfold putB at *
 by_cases h1:(Grain.sapp (kp b.l i).s t v).2=0
 ·rw [if_pos h1] at h;exact absurd rfl h
 ·rw [if_neg h1]
theorem putN_no {b:Bs} {i:Nat} {s:Lb} {t v:Int} (h:(putN b i s t v).2≠0):(putN b i s t v).1=b:=by
 unfold putN at *
 by_cases h1:8≤b.l.length
 ·rw [if_pos h1]
 rw [if_neg h1] at h ⊢
 by_cases h2:(Grain.sroll (newS s) b.hz).2≠0
 ·rw [if_pos h2]
 rw [if_neg h2] at h ⊢
 by_cases h3:(Grain.sapp (Grain.sroll (newS s) b.hz).1 t v).2≠0
 ·rw [if_pos h3]
 rw [if_neg h3] at h
 exact absurd rfl h
theorem takeB_no {b:Bs} {s:Lb} {t v:Int} (h:(takeB b s t v).2≠0):(takeB b s t v).1=b:=by
 unfold takeB at *
 by_cases h1:wrongS s≠0
 ·rw [if_pos h1]
 rw [if_neg h1] at h ⊢
 by_cases h2:Grain.inR t v=false
 ·rw [if_pos h2]
 rw [if_neg h2] at h ⊢
 by_cases h3:t<b.hz
 ·rw [if_pos h3]
 rw [if_neg h3] at h ⊢
 by_cases h4:bhas b.l s=true
 ·rw [if_pos h4] at h ⊢;exact putB_no h
 ·rw [if_neg h4] at h ⊢;exact putN_no h
open Go.RowKit
def lnn (o:List Ln) (k:Nat):Ln:=o.getD k ([],[])
def lpos (o:List Ln) (s:Lb):Nat:=(o.takeWhile fun x=>decide (cmpS x.1 s<0)).length
def lhas (o:List Ln) (s:Lb):Bool:=decide (lpos o s<o.length) && decide (cmpS (lnn o (lpos o s)).1 s=0)
def tellP (o:List Ln) (s:Lb) (x:Int×Int):List Ln :=
 if lhas o s=true then o.set (lpos o s) ((lnn o (lpos o s)).1,(lnn o (lpos o s)).2++[x]) else o.take (lpos o s)++[(s,[x])]++o.drop (lpos o s)
theorem lnsB_len (l:List Kp):(lnsB l).length=l.length:=by simp [lnsB]
theorem lnn_lnsB {l:List Kp} {k:Nat} (h:k<l.length):lnn (lnsB l) k=((kp l k).s.se,(kp l k).A):=by
 rw [kp_get h]
 simp [lnn,lnsB,List.getD,h]
theorem lpos_lnsB (s:Lb):∀ l:List Kp,lpos (lnsB l) s=bpos l s
 | []=>rfl
 | k::r=>by
  have ih:=lpos_lnsB s r
  unfold lpos bpos lnsB at *
  by_cases h:cmpS k.s.se s<0
  ·simp only [List.map_cons,List.takeWhile_cons,h,decide_true,if_true,List.length_cons]
   rw [ih]
  ·simp [h]
theorem lhas_lnsB (l:List Kp) (s:Lb):lhas (lnsB l) s=bhas l s:=by
 unfold lhas bhas
 rw [lpos_lnsB,lnsB_len]
 by_cases h:bpos l s<l.length
 ·rw [lnn_lnsB h]
 ·simp [h]
theorem eachB_se {f:Grain.Shf→Grain.Shf×Int} (hs:∀ s,(f s).2=0→(f s).1.se=s.se):∀ (l l':List Kp),eachB f l=.ok l'→lnsB l'=lnsB l:=by
 intro l
 induction l with
 | nil=>intro l' h;simp [eachB] at h;subst h;rfl
 | cons a r ih =>
  intro l' h
  by_cases ha:(f a.s).2=0
  ·simp only [eachB,ha,if_true] at h
   cases hr:eachB f r with
   | error x=>rw [hr] at h;simp at h
   | ok r' =>
    rw [hr] at h
    simp at h
    subst h
    have:=ih r' hr
    unfold lnsB at this ⊢
    simp [this,hs _ ha]
  ·simp [eachB,ha] at h
theorem lnsB_set (l:List Kp) (i:Nat) (k:Kp):lnsB (l.set i k)=(lnsB l).set i (k.s.se,k.A):=by
 unfold lnsB
 rw [List.map_set]
theorem tell_take {b:Bs} {s:Lb} {t v:Int} (h:(takeB b s t v).2=0):lnsB (takeB b s t v).1.l=tellP (lnsB b.l) s (t,v):=by
 unfold takeB at *
 by_cases h1:wrongS s≠0
 ·rw [if_pos h1] at h;exact absurd h h1
 rw [if_neg h1] at h ⊢
 by_cases h2:Grain.inR t v=false
 ·rw [if_pos h2] at h;exact absurd h (by simp)
 rw [if_neg h2] at h ⊢
 by_cases h3:t<b.hz
 ·rw [if_pos h3] at h;exact absurd h (by simp)
 rw [if_neg h3] at h ⊢
 unfold tellP
 rw [lhas_lnsB,lpos_lnsB]
 by_cases h4:bhas b.l s=true
 ·rw [if_pos h4] at h ⊢
  rw [if_pos h4,lnn_lnsB (bhas_lt h4)]
  unfold putB at *
  by_cases h5:(Grain.sapp (kp b.l (bpos b.l s)).s t v).2=0
  ·rw [if_pos h5]
   show lnsB (b.l.set _ _)=_
   rw [lnsB_set]
   simp only [(sapp_same h5).1]
  ·rw [if_neg h5] at h;exact absurd h h5
 ·rw [if_neg h4] at h ⊢
  rw [if_neg h4]
  unfold putN at *
  by_cases h5:8≤b.l.length
  ·rw [if_pos h5] at h;exact absurd h (by simp)
  rw [if_neg h5] at h ⊢
  by_cases h6:(Grain.sroll (newS s) b.hz).2≠0
  ·rw [if_pos h6] at h;exact absurd h h6
  rw [if_neg h6] at h ⊢
  by_cases h7:(Grain.sapp (Grain.sroll (newS s) b.hz).1 t v).2≠0
  ·rw [if_pos h7] at h;exact absurd h h7
  rw [if_neg h7]
  have e1:=sroll_same (Decidable.not_not.1 h6)
  have e2:=sapp_same (Decidable.not_not.1 h7)
  have ese:(Grain.sapp (Grain.sroll (newS s) b.hz).1 t v).1.se=s:=by rw [e2.1,e1.1];rfl
  show lnsB (b.l.take _++[_]++b.l.drop _)=_
  unfold lnsB
  simp [List.map_append,List.map_take,List.map_drop,ese]
end Go.GrainU
namespace Grain
end Grain
namespace Go.GrainU
open Go.RowKit
theorem winT_error {S:Nat→Except Int Grain.Sm} {h:Hd} {l:List ST} {x:Int}:∀ n:Nat,winT S h l n=.error x→∃ i,i<n∧S i=.error x
 | 0,e=>by simp [winT] at e
 | n+1,e=>by
  rw [winT] at e
  cases hp:winT S h l n with
  | error y =>
   rw [hp] at e
   injection e with e
   subst e
   obtain ⟨i,hi,hs⟩:=winT_error n hp
   exact ⟨i,by omega,hs⟩
  | ok c =>
   rw [hp] at e
   by_cases hs:says (st l n).ser h.ms=true
   ·simp only [hs,if_true] at e
    cases hS:S n with
    | error y =>
     rw [hS] at e
     injection e with e
     subst e
     exact ⟨n,by omega,hS⟩
    | ok J=>rw [hS] at e;simp at e
   ·simp [hs] at e
def Whole (b:Bs):Prop:=∀ k∈b.l,k.s.rf=0
theorem winT_base {b:Bs} (hb:BInv b) (h5:FewB 500 b) {time:Int} (t0:0≤time) (t1:time≤1000000) (h:Hd) (hw:winBad h=0) :
  overW (fun i f t=>lookS (kp b.l i).s f t) (sersB b.l) b.l.length time h=.error 10∨overW (fun i f t=>lookS (kp b.l i).s f t) (sersB b.l) b.l.length time h=.ok (winC (lnsB b.l) h time):=by
 obtain ⟨_,_,_,r1,r2⟩:=winBad_ok hw
 cases ho:overW (fun i f t=>lookS (kp b.l i).s f t) (sersB b.l) b.l.length time h with
 | error x =>
  left
  obtain ⟨i,hi,hs⟩:=winT_error _ ho
  have:=look_gone ((Grain.sr_iff _).2 (hb.kee _ (kp_mem hi)).sr) (by omega) (by omega) t1 hs
  rw [this]
 | ok c =>
  right
  have e:=winT_keeps hb.kee h5 h time b.l.length (Nat.le_refl _) c ho
  rw [List.take_of_length_le (Nat.le_refl _)] at e
  rw [e]
end Go.GrainU
namespace Grain
theorem sroll_ok {s:Shf} {A:List (Int×Int)} (h:Keeps s A) (h5:A.length≤500) {t:Int} (h0:0≤t) (h1:t≤1000000):(sroll s t).2=0:=by
 have f1:=h.sr.fsp
 have f2:=h.sr.csp
 have f3:=h.sr.bd
 have hb:=beg_bd (t:=t) (st:=10) (.inl rfl) h0
 have g1:s.ft≤nft s t∧nft s t≤1000000∧nft s t%10=0∧0≤nft s t:=by
  unfold nft;omega
 have hb2:=beg_bd (t:=nft s t) (st:=60) (.inr rfl) g1.2.2.2
 have g2:s.ct≤nct s t∧nct s t≤nft s t∧nct s t%60=0∧0≤nct s t:=by
  unfold nct;omega
 have e1:nfi s t=up (win A s.ff (nft s t)) 10:=by
  unfold nfi
  rw [h.ra,win_ra f3.2.1,h.fi,up_split (.inl rfl) f1.2.1 f1.2.2.2.1 g1.1 h.took]
 have e2:nco s t=up (win A s.cf (nct s t)) 60:=by
  unfold nco
  rw [e1,up_winB f1.1 (by omega) (by omega) f3.2.2.1 g2.1 g2.2.1 h.took,great_up _ (h.took.win_len (by omega) (by omega) g2.1),h.co,← up_split (.inr rfl) f2.2.1 f2.2.2.2.1 g2.1 h.took]
 have l1:(nfi s t).length≤500:=by
  rw [e1]
  have a:=win_len A s.ff (nft s t)
  have:=up_fewer 10 (l:=win A s.ff (nft s t)) (by omega)
  omega
 have l2:(nco s t).length≤500:=by
  rw [e2]
  have a:=win_len A s.cf (nct s t)
  have:=up_fewer 60 (l:=win A s.cf (nct s t)) (by omega)
  omega
 unfold sroll
 rw [if_neg (by rw [wrongAt_of h.sr h0 h1];simp),if_neg (by omega),if_neg (by omega)]
theorem sroll_ra {s:Shf} {t:Int} (h:(sroll s t).2=0):(sroll s t).1.ra=s.ra:=by
 unfold sroll at *
 repeat' (split at h)
 all_goals first | (exfalso;simp_all;done) | skip
 all_goals (simp_all;try (repeat rw [if_neg (by omega)]);try simp)
theorem sforg_ok {s:Shf} (h:SR s) {k t:Int} (h0:0≤t) (h1:t≤1000000) (hk:k=0∨k=1∨k=2):(sforg s k t).2=0:=by
 unfold sforg
 rw [if_neg (by rw [wrongAt_of h h0 h1];simp)]
 rcases hk with e | e | e <;> subst e <;> simp
theorem sapp_err {s:Shf} {A:List (Int×Int)} (h:Keeps s A) (h5:s.ra.length<500) {t v:Int} (hin:inR t v=true):(sapp s t v).2=if late s t=true then 9 else 0:=by
 unfold sapp
 rw [if_neg (by rw [(sr_iff s).2 h.sr];simp),if_neg (by rw [hin];decide)]
 by_cases hl:late s t=true
 ·rw [if_pos hl,if_pos hl]
 ·rw [if_neg hl,if_neg hl,if_neg (by omega)]
end Grain
namespace Go.GrainU
open Go.RowKit
theorem eachB_all {f:Grain.Shf→Grain.Shf×Int}:∀ (l:List Kp),(∀ k∈l,(f k.s).2=0)→eachB f l=.ok (l.map fun k=>⟨(f k.s).1,k.A⟩)
 | [],_=>rfl
 | k::r,h=>by
  simp only [eachB,h k (by simp),if_true,eachB_all r (fun x hx=>h x (by simp [hx])),List.map_cons]
theorem rollB_ok {b:Bs} (hb:BInv b) (h5:FewB 500 b) {t:Int} (h0:0≤t) (h1:t≤1000000):rollB b t=(⟨b.l.map fun k=>⟨(Grain.sroll k.s t).1,k.A⟩,max b.hz (Grain.beg t 10)⟩,0):=by
 unfold rollB
 rw [if_neg (by omega),eachB_all (f:=fun s=>Grain.sroll s t) b.l (fun k hk=>Grain.sroll_ok (hb.kee k hk) (h5 k hk) h0 h1)]
theorem forgB_ok {b:Bs} (hb:BInv b) {k t:Int} (h0:0≤t) (h1:t≤1000000) (hk:k=0∨k=1∨k=2):forgB b k t=(⟨b.l.map fun x=>⟨(Grain.sforg x.s k t).1,x.A⟩,b.hz⟩,0):=by
 unfold forgB
 rw [if_neg (by omega),if_pos hk,eachB_all (f:=fun s=>Grain.sforg s k t) b.l (fun x hx=>Grain.sforg_ok (hb.kee x hx).sr h0 h1 hk)]
end Go.GrainU
namespace Grain
theorem whole_ra {s:Shf} {A:List (Int×Int)} (h:Keeps s A) (hr:s.rf=0):s.ra=A:=by
 rw [h.ra,hr,List.filter_eq_self]
 intro x hx
 have:=h.took.rin x hx
 simp [inR] at this
 simp
 omega
theorem sapp_rf {s:Shf} {t v:Int} (h:(sapp s t v).2=0):(sapp s t v).1.rf=s.rf:=by
 unfold sapp at *
 repeat' (split at h)
 all_goals first | (exfalso;simp_all;done) | skip
 all_goals (simp_all;try (repeat rw [if_neg (by omega)]);try simp)
theorem sroll_rf {s:Shf} {t:Int} (h:(sroll s t).2=0):(sroll s t).1.rf=s.rf:=by
 unfold sroll at *
 repeat' (split at h)
 all_goals first | (exfalso;simp_all;done) | skip
 all_goals (simp_all;try (repeat rw [if_neg (by omega)]);try simp)
end Grain
namespace Go.GrainU
open Go.RowKit
theorem whole_take {b:Bs} (h:Whole b) (s:Lb) (t v:Int):Whole (takeB b s t v).1:=by
 by_cases he:(takeB b s t v).2=0
 ·unfold takeB at *
  by_cases h1:wrongS s≠0
  ·rw [if_pos h1];exact h
  rw [if_neg h1] at he ⊢
  by_cases h2:Grain.inR t v=false
  ·rw [if_pos h2];exact h
  rw [if_neg h2] at he ⊢
  by_cases h3:t<b.hz
  ·rw [if_pos h3];exact h
  rw [if_neg h3] at he ⊢
  by_cases h4:bhas b.l s=true
  ·rw [if_pos h4] at he ⊢
   unfold putB at *
   by_cases h5:(Grain.sapp (kp b.l (bpos b.l s)).s t v).2=0
   ·rw [if_pos h5]
    intro k hk
    rcases List.mem_or_eq_of_mem_set hk with e | e
    ·exact h k e
    ·rw [e]
     show (Grain.sapp _ t v).1.rf=0
     rw [Grain.sapp_rf h5];exact h _ (kp_mem (bhas_lt h4))
   ·rw [if_neg h5];exact h
  ·rw [if_neg h4] at he ⊢
   unfold putN at *
   by_cases h5:8≤b.l.length
   ·rw [if_pos h5];exact h
   rw [if_neg h5] at he ⊢
   by_cases h6:(Grain.sroll (newS s) b.hz).2≠0
   ·rw [if_pos h6];exact h
   rw [if_neg h6] at he ⊢
   by_cases h7:(Grain.sapp (Grain.sroll (newS s) b.hz).1 t v).2≠0
   ·rw [if_pos h7];exact h
   rw [if_neg h7]
   intro k hk
   rcases List.mem_append.1 hk with hk | hk
   ·rcases List.mem_append.1 hk with hk | hk
    ·exact h k (List.mem_of_mem_take hk)
    ·simp at hk
     rw [hk]
     show (Grain.sapp _ t v).1.rf=0
     rw [Grain.sapp_rf (Decidable.not_not.1 h7),Grain.sroll_rf (Decidable.not_not.1 h6)];rfl
   ·exact h k (List.mem_of_mem_drop hk)
 ·rw [takeB_no he];exact h
theorem eachB_whole {f:Grain.Shf→Grain.Shf×Int} (hs:∀ s,(f s).2=0→(f s).1.rf=s.rf):∀ (l l':List Kp),eachB f l=.ok l'→(∀ k∈l,k.s.rf=0)→∀ k∈l',k.s.rf=0:=by
 intro l
 induction l with
 | nil=>intro l' h _;simp [eachB] at h;subst h;simp
 | cons a r ih =>
  intro l' h h1
  by_cases ha:(f a.s).2=0
  ·simp only [eachB,ha,if_true] at h
   cases hr:eachB f r with
   | error x=>rw [hr] at h;simp at h
   | ok r' =>
    rw [hr] at h
    simp at h
    subst h
    intro k hk
    rcases List.mem_cons.1 hk with e | e
    ·rw [e]
     show (f a.s).1.rf=0
     rw [hs _ ha];exact h1 a (by simp)
    ·exact ih r' hr (fun k hk=>h1 k (by simp [hk])) k e
  ·simp [eachB,ha] at h
theorem whole_roll {b:Bs} (h:Whole b) (t:Int):Whole (rollB b t).1:=by
 unfold rollB
 split
 ·exact h
 ·cases he:eachB (fun s=>Grain.sroll s t) b.l with
  | error x=>exact h
  | ok l=>exact eachB_whole (fun s hz=>Grain.sroll_rf hz) _ _ he h
theorem lns_roll (b:Bs) (t:Int):lnsB (rollB b t).1.l=lnsB b.l:=by
 unfold rollB
 split
 ·rfl
 ·cases he:eachB (fun s=>Grain.sroll s t) b.l with
  | error x=>rfl
  | ok l=>exact eachB_se (fun s hz=>(sroll_same hz).1) _ _ he
theorem putB_err (b:Bs) (i:Nat) (t v:Int):(putB b i t v).2=(Grain.sapp (kp b.l i).s t v).2:=by
 unfold putB
 by_cases h:(Grain.sapp (kp b.l i).s t v).2=0
 ·rw [if_pos h,h]
 ·rw [if_neg h]
theorem putN_err {b:Bs} (hb:BInv b) {s:Lb} (hs:wrongS s=0) {t v:Int} (hin:Grain.inR t v=true) (ht:¬ t<b.hz) (i:Nat):(putN b i s t v).2=if 8≤b.l.length then 5 else 0:=by
 have hz:=hb.hz
 have hk0:Grain.Keeps (newS s) []:=Grain.keeps_new hs
 have r0:=Grain.sroll_ok hk0 (by simp) hz.2.1 hz.2.2
 have k0:=Grain.keeps_roll hk0 r0
 have hra0:(Grain.sroll (newS s) b.hz).1.ra=[]:=by rw [Grain.sroll_ra r0];rfl
 have he:=Grain.sapp_err k0 (by rw [hra0];simp) hin
 have hl:Grain.late (Grain.sroll (newS s) b.hz).1 t=false:=by
  unfold Grain.late
  rw [(sroll_same r0).2,hra0]
  have:Grain.nft (newS s) b.hz=b.hz:=by
   show max 0 (Grain.beg b.hz 10)=_
   unfold Grain.beg;omega
  rw [this]
  simp [ht]
 rw [hl,if_neg (by decide)] at he
 unfold putN
 by_cases h8:8≤b.l.length
 ·rw [if_pos h8,if_pos h8]
 ·rw [if_neg h8,if_neg (by simp [r0]),if_neg (by simp [he]),if_neg h8]
theorem takeB_hz (b:Bs) (s:Lb) (t v:Int):(takeB b s t v).1.hz=b.hz:=by
 unfold takeB putB putN
 repeat' split
 all_goals rfl
open Go.RowKit
theorem bl_app (a b:ByteArray):bl (a++b)=bl a++bl b:=by simp [bl,ByteArray.data_append]
theorem lit_bl (s:ByteArray):lit (bl s)=s:=by
 apply ByteArray.ext
 simp [bl,lit]
theorem bl_len (s:ByteArray):(bl s).length=s.size:=Array.length_toList
theorem skip_32 (r:List UInt8):skip (32::r)=skip r:=by simp [skip]
theorem skip_of {c:UInt8} (r:List UInt8) (h:(c == 32)=false):skip (c::r)=c::r:=by simp [skip,h]
theorem acc_hit {c:UInt8} {r r':List UInt8} (h:skip r=c::r'):acc [c] r=some r':=by
 unfold acc;rw [h];simp [List.isPrefixOf]
theorem acc_miss {c d:UInt8} {r r':List UInt8} (h:skip r=d::r') (hne:(c == d)=false):acc [c] r=none:=by
 unfold acc;rw [h];simp [List.isPrefixOf,hne]
theorem acc_nil {c:UInt8} {r:List UInt8} (h:skip r=[]):acc [c] r=none:=by
 unfold acc;rw [h];simp [List.isPrefixOf]
theorem acc_hit2 {c d:UInt8} {r r':List UInt8} (h:skip r=c::d::r'):acc [c,d] r=some r':=by
 unfold acc;rw [h];simp [List.isPrefixOf]
theorem acc_miss2 {c d e:UInt8} {r r':List UInt8} (h:skip r=e::r') (hne:(c == e)=false):acc [c,d] r=none:=by
 unfold acc;rw [h];simp [List.isPrefixOf,hne]
theorem acc_32 (sg r:List UInt8):acc sg (32::r)=acc sg r:=by unfold acc;rw [skip_32]
theorem expe_hit {c:UInt8} {r r':List UInt8} (h:skip r=c::r'):expe [c] r=.ok r':=by unfold expe;rw [acc_hit h]
theorem take_app {p:UInt8→Bool} {l r:List UInt8} (h:l.all p=true) (hr:∀ c t,r=c::t→p c=false):(l++r).takeWhile p=l∧(l++r).dropWhile p=r:=by
 induction l with
 | nil =>
  cases r with
  | nil=>simp
  | cons c t=>have:=hr c t rfl;simp [this]
 | cons a l ih =>
  simp only [List.all_cons,Bool.and_eq_true] at h
  obtain ⟨i1,i2⟩:=ih h.2
  simp [h.1,i1,i2]
theorem ofNat_digit {d:Nat} (h:d<10):digit (UInt8.ofNat (48+d))=true∧(UInt8.ofNat (48+d)).toNat=48+d:=by
 have h1:(UInt8.ofNat (48+d)).toNat=48+d:=by
  rw [UInt8.toNat_ofNat']
  omega
 refine ⟨?_,h1⟩
 unfold digit
 rw [h1]
 simp
 omega
theorem dec_digit:∀ u,(Go.Lib.decDigits u).all digit=true:=by
 intro u
 induction u using Nat.strongRecOn with
 | _ u ih =>
  rw [Go.Lib.decDigits]
  split
  ·rename_i h;simp only [List.all_cons,List.all_nil,Bool.and_true];exact (ofNat_digit h).1
  ·rename_i h
   rw [List.all_append,ih (u / 10) (by omega)]
   simp only [List.all_cons,List.all_nil,Bool.and_true,Bool.true_and];exact (ofNat_digit (d:=u%10) (by omega)).1
theorem pu_app (b:List UInt8):∀ (a:List UInt8) (n v:Nat),Go.Lib.parseUint10 n a=.ok v→Go.Lib.parseUint10 n (a++b)=Go.Lib.parseUint10 v b:=by
 intro a
 induction a with
 | nil=>intro n v h;simp only [Go.Lib.parseUint10] at h;injection h with h;rw [h];rfl
 | cons c r ih =>
  intro n v h
  simp only [Go.Lib.parseUint10,List.cons_append] at h ⊢
  split at h
  ·rename_i h1
   rw [if_pos h1]
   split at h
   ·cases h
   ·rename_i h2
    rw [if_neg h2]
    split at h
    ·cases h
    ·rename_i h3
     rw [if_neg h3]
     exact ih _ _ h
  ·cases h
theorem pu_dec:∀ u,u≤1000000→Go.Lib.parseUint10 0 (Go.Lib.decDigits u)=.ok u:=by
 intro u
 induction u using Nat.strongRecOn with
 | _ u ih =>
  intro hu
  rw [Go.Lib.decDigits]
  split
  ·rename_i h
   have e:=(ofNat_digit h).2
   simp only [Go.Lib.parseUint10]
   rw [e]
   rw [if_pos (by omega),if_neg (by omega),if_neg (by omega)]
   simp
  ·rename_i h
   rw [pu_app _ _ _ _ (ih (u / 10) (by omega) (by omega))]
   have e:=(ofNat_digit (d:=u%10) (by omega)).2
   simp only [Go.Lib.parseUint10]
   rw [e]
   rw [if_pos (by omega),if_neg (by omega),if_neg (by omega)]
   congr 1
   omega
theorem dec_cons:∀ u,∃ c t,Go.Lib.decDigits u=c::t∧(10≤u→c.toNat≠48)∧(t≠[]→10≤u):=by
 intro u
 induction u using Nat.strongRecOn with
 | _ u ih =>
  rw [Go.Lib.decDigits]
  split
  ·rename_i h;exact ⟨_,[],rfl,by omega,fun h=>absurd rfl h⟩
  ·rename_i h
   obtain ⟨c,t,e,h1,h2⟩:=ih (u / 10) (by omega)
   rw [e]
   refine ⟨c,t++[UInt8.ofNat (48+u%10)],rfl,fun _=>?_,fun _=>by omega⟩
   by_cases h3:10≤u / 10
   ·exact h1 h3
   ·have e2:Go.Lib.decDigits (u / 10)=[UInt8.ofNat (48+u / 10)]:=by rw [Go.Lib.decDigits,dif_pos (by omega)]
    rw [e2] at e
    injection e with e _
    rw [← e,(ofNat_digit (d:=u / 10) (by omega)).2]
    omega
theorem digit_bd {c:UInt8} (h:digit c=true):48≤c.toNat∧c.toNat≤57:=by
 unfold digit at h
 simp at h
 exact h
theorem ne_of_toNat {c d:UInt8} (h:c.toNat≠d.toNat):(c == d)=false:=by
 rw [beq_eq_false_iff_ne]
 exact fun e=>h (by rw [e])
theorem itoa_cons {n:Int} (h0:0≤n):∃ c t,Go.Lib.itoa n=c::t∧digit c=true:=by
 have e:Go.Lib.itoa n=Go.Lib.decDigits n.toNat:=by unfold Go.Lib.itoa;rw [if_neg (by omega)]
 obtain ⟨c,t,e1,_,_⟩:=dec_cons n.toNat
 have hd:=dec_digit n.toNat
 rw [e1] at hd
 simp only [List.all_cons,Bool.and_eq_true] at hd
 exact ⟨c,t,by rw [e,e1],hd.1⟩
theorem numb_read {a b n:Int} {r:List UInt8} (h0:0≤n) (h1:n≤1000000) (ha:a≤n) (hb:n≤b) (hr:∀ c t,r=c::t→digit c=false):numb a b (Go.Lib.itoa n++r)=.ok (n,r):=by
 obtain ⟨u,hu⟩:∃ u:Nat,n=u:=⟨n.toNat,by omega⟩
 have e:Go.Lib.itoa n=Go.Lib.decDigits u:=by unfold Go.Lib.itoa;rw [if_neg (by omega)];congr 1;omega
 obtain ⟨c,t,e1,h2,h3⟩:=dec_cons u
 have hd:=dec_digit u
 have hp:=pu_dec u (by omega)
 obtain ⟨t1,t2⟩:=take_app hd hr
 rw [e]
 have hc:digit c=true:=by rw [e1] at hd;simp only [List.all_cons,Bool.and_eq_true] at hd;exact hd.1
 have hbd:=digit_bd hc
 have hs:skip (Go.Lib.decDigits u++r)=Go.Lib.decDigits u++r:=by
  rw [e1,List.cons_append]
  exact skip_of _ (ne_of_toNat (by show c.toNat≠32;omega))
 have hat:Go.Lib.atoiAll (Go.Lib.decDigits u)=.ok n:=by
  rw [e1] at hp ⊢
  simp only [Go.Lib.atoiAll,Go.Lib.parseMag]
  rw [if_neg (by omega:¬ (c.toNat=43∨c.toNat=45)),if_neg (by simp:¬ (c::t=[])),hp]
  simp only
  rw [if_neg (by omega),if_neg (by omega),if_neg (by omega),hu]
 unfold numb
 rw [hs,t1,t2,if_neg (by rw [e1];simp),hat]
 have hok:numOk a b (Go.Lib.decDigits u) n=true:=by
  unfold numOk
  simp only [Bool.and_eq_true,Bool.not_eq_true',Bool.and_eq_false_iff,decide_eq_true_eq,decide_eq_false_iff_not]
  refine ⟨?_,ha,hb⟩
  rw [e1]
  by_cases ht:t=[]
  ·left;rw [ht];simp
  ·right
   have:=h2 (h3 ht)
   exact ne_of_toNat (by show c.toNat≠48;exact this)
 simp only
 rw [if_pos hok]
theorem letter_bd {c:UInt8} (h:letter c=true):97≤c.toNat∧c.toNat≤122:=by
 unfold letter at h
 simp at h
 exact h
theorem letter_ne {c d:UInt8} (h:letter c=true) (hd:d.toNat<97∨122<d.toNat):(c == d)=false:=by
 have:=letter_bd h
 exact ne_of_toNat (by omega)
theorem letter_ne' {c d:UInt8} (h:letter c=true) (hd:d.toNat<97∨122<d.toNat):(d == c)=false:=by
 have:=letter_bd h
 exact ne_of_toNat (by omega)
theorem letter_no_digit {c:UInt8} (h:letter c=true):digit c=false:=by
 have:=letter_bd h
 unfold digit
 simp
 omega
theorem wordy_skip {x:List UInt8} (h:wordy x) (r:List UInt8):∃ c t,x=c::t∧letter c=true∧skip (x++r)=c::(t++r):=by
 obtain ⟨c,t,rfl,h1,_,_⟩:=h
 exact ⟨c,t,rfl,h1,by rw [List.cons_append];exact skip_of _ (letter_ne h1 (by decide))⟩
theorem anyW_read {x r:List UInt8} (h:wordy x) (hr:∀ c t,r=c::t→wbyte c=false):anyW (x++r)=(x,r):=by
 obtain ⟨c,t,e,h1,hs⟩:=wordy_skip h r
 have hall:x.all wbyte=true:=by
  obtain ⟨c,t,rfl,h1,h2,_⟩:=h
  simp only [List.all_cons,Bool.and_eq_true]
  exact ⟨by unfold wbyte;rw [h1];rfl,h2⟩
 obtain ⟨t1,t2⟩:=take_app hall hr
 have hs':skip (x++r)=x++r:=by rw [hs,e];rfl
 unfold anyW nxt
 rw [hs',t1,t2]
 rw [if_pos]
 rw [e]
 simpa using h1
theorem wrd_read {x r:List UInt8} (h:wordy x) (hr:∀ c t,r=c::t→wbyte c=false):wrd (x++r)=.ok (x,r):=by
 unfold wrd
 rw [anyW_read h hr]
 obtain ⟨c,t,rfl,h1,h2,h3⟩:=h
 simp only
 rw [if_neg (by simp),if_neg (by simp;omega)]
theorem wrd_32 (r:List UInt8):wrd (32::r)=wrd r:=by
 unfold wrd anyW nxt
 rw [skip_32]
 split
 ·rfl
 ·simp
theorem wrdOf_32 (m:List ByteArray) (r:List UInt8):wrdOf m (32::r)=wrdOf m r:=by
 unfold wrdOf
 rw [wrd_32,skip_32]
theorem words1_32 (r:List UInt8):words1 (32::r)=words1 r:=by unfold words1;rw [wrd_32]
theorem lst_32 (m:Nat) (r:List UInt8):lst words1 m (32::r)=lst words1 m r:=by unfold lst;rw [words1_32]
theorem numb_32 (a b:Int) (r:List UInt8):numb a b (32::r)=numb a b r:=by unfold numb;rw [skip_32]
theorem fine_at {s:ByteArray}:∀ n,Grain.fineN s n=true→∀ k,k<n→Grain.badN k (Grain.byt s k)=false:=by
 intro n
 induction n with
 | zero=>intro _ k hk;omega
 | succ n ih =>
  intro h k hk
  simp only [Grain.fineN,Bool.and_eq_true,Bool.not_eq_true'] at h
  rcases (show k<n∨k=n from by omega) with e | e
  ·exact ih h.1 k e
  ·rw [e];exact h.2
theorem named_wordy {s:ByteArray} (h:Grain.named s=true):wordy (bl s):=by
 unfold Grain.named at h
 simp only [Bool.and_eq_true,decide_eq_true_eq] at h
 obtain ⟨hf,h0,h1⟩:=h
 have hat:=fine_at _ hf
 have hl:=bl_len s
 cases hb:bl s with
 | nil=>rw [hb] at hl;simp at hl;omega
 | cons c t =>
  rw [hb] at hl
  simp at hl
  refine ⟨c,t,rfl,?_,?_,by omega⟩
  ·have:=hat 0 (by omega)
   rw [bytL_at (c:=c) (by rw [hb];rfl)] at this
   exact (badN_zero c).1 this
  ·rw [List.all_eq_true]
   intro d hd
   obtain ⟨k,hk,e⟩:=List.mem_iff_getElem.1 hd
   have:=hat (k+1) (by omega)
   rw [bytL_at (c:=d) (by rw [hb,List.getElem?_cons_succ,List.getElem?_eq_getElem hk,e])] at this
   exact (badN_succ k d).1 this
open Go.RowKit
def comB:List (List UInt8)→List UInt8
 | []=>[]
 | x::r=>44::(x++comB r)
theorem bl_commas (l:List ByteArray):bl (commas l)=comB (l.map bl):=by
 induction l with
 | nil=>simp [commas,comB,bl_lit]
 | cons a r ih=>simp [commas,comB,bl_app,bl_lit,ih]
theorem lstF_read {α:Type} {part:List UInt8→Except Flt (α×List UInt8)} {most:Nat} {S:List UInt8→Prop} (hS:∀ t,S (44::t)) :
  ∀ (items:List (List UInt8×α)) (k:Nat) (l:List α) (r:List UInt8),(∀ x∈items,∀ r,S r→part (x.1++r)=.ok (x.2,r))→S r→acc [44] r=none→l.length+items.length≤most→items.length≤k →
  lstF part most k l (comB (items.map (·.1))++r)=.ok (l++items.map (·.2),r):=by
 intro items
 induction items with
 | nil =>
  intro k l r _ _ ha _ _
  cases k with
  | zero=>simp [lstF,comB]
  | succ k=>simp [lstF,comB,ha]
 | cons x items ih =>
  intro k l r hp hr ha hl hk
  cases k with
  | zero=>simp at hk
  | succ k =>
   simp only [List.length_cons] at hl hk
   have h1:acc [44] (comB ((x::items).map (·.1))++r)=some (x.1++(comB (items.map (·.1))++r)):=by
    simp only [List.map_cons,comB,List.cons_append,List.append_assoc]
    exact acc_hit (skip_of _ (by decide))
   have hS2:S (comB (items.map (·.1))++r):=by
    cases items with
    | nil=>simpa [comB] using hr
    | cons y items=>simp only [List.map_cons,comB,List.cons_append];exact hS _
   have h2:=hp x (by simp) _ hS2
   unfold lstF
   rw [h1]
   simp only
   rw [if_neg (by omega),h2]
   simp only
   rw [ih k (l++[x.2]) r (fun y hy=>hp y (by simp [hy])) hr ha (by simp;omega) (by omega)]
   simp
theorem lst_read {α:Type} {part:List UInt8→Except Flt (α×List UInt8)} {most:Nat} {S:List UInt8→Prop} (hS:∀ t,S (44::t)) (x:List UInt8×α) (items:List (List UInt8×α)) (r:List UInt8)
  (hp:∀ y∈x::items,∀ r,S r→part (y.1++r)=.ok (y.2,r)) (hr:S r) (ha:acc [44] r=none) (hl:items.length+1≤most) :
  lst part most (x.1++comB (items.map (·.1))++r)=.ok (x.2::items.map (·.2),r):=by
 have hS2:S (comB (items.map (·.1))++r):=by
  cases items with
  | nil=>simpa [comB] using hr
  | cons y items=>simp only [List.map_cons,comB,List.cons_append];exact hS _
 unfold lst
 rw [List.append_assoc,hp x (by simp) _ hS2]
 simp only
 rw [lstF_read hS items most [x.2] r (fun y hy=>hp y (by simp [hy])) hr ha (by simp;omega) (by omega)]
 simp
def SepM (r:List UInt8):Prop:=∃ c t,r=c::t∧(c=44∨c=125)
def SepK (r:List UInt8):Prop:=∃ c t,r=c::t∧(c=44∨c=32)
theorem sepM_end {r:List UInt8} (h:SepM r):∀ c t,r=c::t→wbyte c=false:=by
 obtain ⟨c,t,rfl,h | h⟩:=h <;> (intro d u e;injection e with e _;rw [← e,h];decide)
theorem sepK_end {r:List UInt8} (h:SepK r):∀ c t,r=c::t→wbyte c=false:=by
 obtain ⟨c,t,rfl,h | h⟩:=h <;> (intro d u e;injection e with e _;rw [← e,h];decide)
theorem sepM_miss {r:List UInt8} (h:SepM r):acc [61] r=none∧acc [33,61] r=none:=by
 obtain ⟨c,t,rfl,h | h⟩:=h <;> (subst h;exact ⟨acc_miss (skip_of _ (by decide)) (by decide),acc_miss2 (skip_of _ (by decide)) (by decide)⟩)
theorem ends_of {c:UInt8} {t:List UInt8} (h:wbyte c=false):∀ d u,c::t=d::u→wbyte d=false:=by
 intro d u e;injection e with e _;rw [← e];exact h
theorem mtc_read {m:Mt} (h:mBad m=0) {r:List UInt8} (hr:SepM r):mtc (bl (mtx m)++r)=.ok (bareM m,r):=by
 obtain ⟨h1,h2,h3,h4⟩:=mBad_ok h
 have hk:=named_wordy h3
 obtain ⟨kd,key,val⟩:=m
 simp only at h1 h2 h3 h4 hk
 have hcases:kd=1∨kd=2∨kd=3∨kd=4:=by omega
 rcases hcases with rfl | rfl | rfl | rfl
 ·have hv:=named_wordy (h4 (by omega))
  have e:bl (mtx ⟨1,key,val⟩)++r=bl key++(61::(bl val++r)):=by simp [mtx,bl_app,bl_lit]
  rw [e]
  obtain ⟨c,t,e1,hc,hs⟩:=wordy_skip hk (61::(bl val++r))
  unfold mtc
  rw [acc_miss hs (letter_ne' hc (by decide)),wrd_read hk (ends_of (by decide))]
  simp only
  rw [acc_hit (r':=bl val++r) (skip_of _ (by decide))]
  simp only
  rw [wrd_read hv (sepM_end hr)]
  simp [bareM,lit_bl]
 ·have hv:=named_wordy (h4 (by omega))
  have e:bl (mtx ⟨2,key,val⟩)++r=bl key++(33::61::(bl val++r)):=by simp [mtx,bl_app,bl_lit]
  rw [e]
  obtain ⟨c,t,e1,hc,hs⟩:=wordy_skip hk (33::61::(bl val++r))
  unfold mtc
  rw [acc_miss hs (letter_ne' hc (by decide)),wrd_read hk (ends_of (by decide))]
  simp only
  rw [acc_miss (c:=61) (d:=33) (skip_of _ (by decide)) (by decide)]
  simp only
  rw [acc_hit2 (r':=bl val++r) (skip_of _ (by decide))]
  simp only
  rw [wrd_read hv (sepM_end hr)]
  simp [bareM,lit_bl]
 ·have e:bl (mtx ⟨3,key,val⟩)++r=bl key++r:=by simp [mtx]
  rw [e]
  obtain ⟨c,t,e1,hc,hs⟩:=wordy_skip hk r
  unfold mtc
  rw [acc_miss hs (letter_ne' hc (by decide)),wrd_read hk (sepM_end hr)]
  simp only
  rw [(sepM_miss hr).1]
  simp only
  rw [(sepM_miss hr).2]
  simp [bareM,lit_bl]
 ·have e:bl (mtx ⟨4,key,val⟩)++r=33::(bl key++r):=by simp [mtx,bl_app,bl_lit]
  rw [e]
  unfold mtc
  rw [acc_hit (r':=bl key++r) (skip_of _ (by decide))]
  simp only
  rw [wrd_read hk (sepM_end hr)]
  simp [bareM,lit_bl]
theorem mtx_head {m:Mt} (h:mBad m=0) (r:List UInt8):∃ c t,skip (bl (mtx m)++r)=c::t∧((125:UInt8) == c)=false:=by
 obtain ⟨h1,h2,h3,h4⟩:=mBad_ok h
 have hk:=named_wordy h3
 obtain ⟨kd,key,val⟩:=m
 simp only at h1 h2 h3 h4 hk
 have hcases:kd=1∨kd=2∨kd=3∨kd=4:=by omega
 rcases hcases with rfl | rfl | rfl | rfl
 ·obtain ⟨c,t,e1,hc,hs⟩:=wordy_skip hk (61::(bl val++r))
  exact ⟨c,_,by rw [← hs];simp [mtx,bl_app,bl_lit],letter_ne' hc (by decide)⟩
 ·obtain ⟨c,t,e1,hc,hs⟩:=wordy_skip hk (33::61::(bl val++r))
  exact ⟨c,_,by rw [← hs];simp [mtx,bl_app,bl_lit],letter_ne' hc (by decide)⟩
 ·obtain ⟨c,t,e1,hc,hs⟩:=wordy_skip hk r
  exact ⟨c,_,by rw [← hs];simp [mtx],letter_ne' hc (by decide)⟩
 ·refine ⟨33,bl key++r,?_,by decide⟩
  simp only [mtx]
  exact skip_of _ (by decide)
theorem wnM_read {l:List Mt} (h:msBad l=0) (hl:l.length≤5) (r:List UInt8):wnM (bl (jn (l.map mtx))++125::r)=.ok (l.map bareM,r):=by
 cases l with
 | nil =>
  have e:bl (jn (([]:List Mt).map mtx))++125::r=125::r:=by simp [jn,bl_lit]
  rw [e]
  unfold wnM
  rw [acc_hit (r':=r) (skip_of _ (by decide))]
  rfl
 | cons m l =>
  have hm:=msBad_ok h
  have e:bl (jn ((m::l).map mtx))++125::r=bl (mtx m)++comB ((l.map fun x=>(bl (mtx x),bareM x)).map (·.1))++125::r:=by
   simp [jn,bl_app,bl_commas,Function.comp_def]
  obtain ⟨c,t,hs,hc⟩:=mtx_head (hm m (by simp)) (comB ((l.map fun x=>(bl (mtx x),bareM x)).map (·.1))++125::r)
  have hrd:=lst_read (part:=mtc) (most:=5) (S:=SepM) (fun t=>⟨44,t,rfl,.inl rfl⟩) (bl (mtx m),bareM m) (l.map fun x=>(bl (mtx x),bareM x)) (125::r)
   (fun y hy s hs=>by
    rcases List.mem_cons.1 hy with e | e
    ·rw [e];exact mtc_read (hm m (by simp)) hs
    ·obtain ⟨x,hx,rfl⟩:=List.mem_map.1 e
     exact mtc_read (hm x (by simp [hx])) hs)
   ⟨125,r,rfl,.inr rfl⟩ (acc_miss (skip_of _ (by decide)) (by decide)) (by simp at hl ⊢;omega)
  rw [e]
  unfold wnM
  rw [List.append_assoc,acc_miss hs hc,← List.append_assoc,hrd]
  simp only
  rw [expe_hit (r':=r) (skip_of _ (by decide))]
  simp [Function.comp_def]
theorem wnd_read {h:Hd} (hb:winBad h=0) (n:Nat) (hn:n+1≤100) (r:List UInt8) :
  wnd h.word ⟨40::123::(bl (jn (h.ms.map mtx))++125::91::(Go.Lib.itoa h.range++93::41::r)),n⟩=.ok (.mk ⟨2,0,h.range,h.word,h.ms.map bareM,[]⟩ [],⟨r,n+1⟩):=by
 obtain ⟨a1,a2,a3,a4,a5⟩:=winBad_ok hb
 unfold wnd
 simp only
 rw [expe_hit (c:=40) (skip_of _ (by decide))]
 simp only
 rw [expe_hit (c:=123) (skip_of _ (by decide))]
 simp only
 rw [wnM_read a3 a2]
 simp only
 rw [expe_hit (c:=91) (skip_of _ (by decide))]
 simp only
 rw [numb_read (by omega) (by omega) a4 a5 (fun c t e=>by injection e with e _;rw [← e];decide)]
 simp only
 rw [expe_hit (c:=93) (skip_of _ (by decide))]
 simp only
 rw [expe_hit (c:=41) (skip_of _ (by decide))]
 simp only [fin]
 rw [if_neg (by omega)]
theorem alB_read {l:List ByteArray} (h:l.all Grain.named=true) (hl:l.length≤4) (r:List UInt8):alB (bl (byt l)++32::40::r)=.ok (l,r):=by
 cases l with
 | nil =>
  have e:bl (byt [])++32::40::r=32::40::r:=by simp [byt,bl_lit]
  rw [e]
  unfold alB
  rw [acc_hit (r':=r) (by rw [skip_32];exact skip_of _ (by decide))]
 | cons m l =>
  rw [List.all_eq_true] at h
  have e:bl (byt (m::l))++32::40::r=32::([98,121]++(32::(bl m++comB ((l.map fun x=>(bl x,x)).map (·.1))++32::40::r))):=by
   simp [byt,jn,bl_app,bl_lit,bl_commas,Function.comp_def]
  have hby:wordy [98,121]:=⟨98,[121],rfl,by decide,by decide,by decide⟩
  have hrd:=lst_read (part:=words1) (most:=4) (S:=SepK) (fun t=>⟨44,t,rfl,.inl rfl⟩) (bl m,m) (l.map fun x=>(bl x,x)) (32::40::r)
   (fun y hy s hs=>by
    have key:∀ x:ByteArray,Grain.named x=true→words1 (bl x++s)=.ok (x,s):=fun x hx=>by
     unfold words1
     rw [wrd_read (named_wordy hx) (sepK_end hs)]
     simp [lit_bl]
    rcases List.mem_cons.1 hy with e | e
    ·rw [e];exact key m (h m (by simp))
    ·obtain ⟨x,hx,rfl⟩:=List.mem_map.1 e
     exact key x (h x (by simp [hx])))
   ⟨32,_,rfl,.inr rfl⟩ (by rw [acc_32];exact acc_miss (skip_of _ (by decide)) (by decide)) (by simp at hl ⊢;omega)
  have hbw:byW (32::([98,121]++(32::(bl m++comB ((l.map fun x=>(bl x,x)).map (·.1))++32::40::r))))=.ok (32::(bl m++comB ((l.map fun x=>(bl x,x)).map (·.1))++32::40::r)):=by
   have:=anyW_read (r:=32::(bl m++comB ((l.map fun x=>(bl x,x)).map (·.1))++32::40::r)) hby (ends_of (by decide))
   unfold byW
   unfold anyW nxt at this ⊢
   rw [skip_32]
   split at this
   ·rename_i hl
    rw [if_pos hl]
    rw [this]
    simp
   ·injection this with h1 _;cases h1
  rw [e]
  unfold alB
  rw [acc_miss (c:=40) (d:=98) (by rw [skip_32];exact skip_of _ (by decide)) (by decide),hbw]
  simp only
  rw [lst_32,hrd]
  simp only
  rw [expe_hit (r':=r) (by rw [skip_32];exact skip_of _ (by decide))]
  simp [Function.comp_def]
open Go.RowKit
theorem bl_itoa (n:Int):bl (itoaB n)=Go.Lib.itoa n:=by simp [itoaB,bl]
theorem accAny_lt {l:List (List UInt8)} {r x r1:List UInt8} (h:accAny l r=some (x,r1)) (hl:∀ y∈l,0<y.length):r1.length<r.length:=by
 induction l with
 | nil=>simp [accAny] at h
 | cons s l ih =>
  unfold accAny at h
  cases ha:acc s r with
  | none=>rw [ha] at h;exact ih h fun y hy=>hl y (by simp [hy])
  | some r2 =>
   rw [ha] at h
   simp only [Option.some.injEq,Prod.mk.injEq] at h
   rw [← h.2]
   have h0:=hl s (by simp)
   unfold acc at ha
   split at ha
   ·rename_i hp
    injection ha with ha
    have h1:=skip_le r
    have h2:=(List.isPrefixOf_iff_prefix.1 hp).length_le
    rw [← ha,List.length_drop]
    omega
   ·cases ha
theorem chnF_more {p:St→Except Flt (Ex×St)} (hp:∀ st x q,p st=.ok (x,q)→q.r.length≤st.r.length) {sg:List (List UInt8)} (hsg:∀ y∈sg,0<y.length) :
  ∀ (k m:Nat) (e:Ex) (st:St),st.r.length<k→st.r.length<m→chnF p sg k e st=chnF p sg m e st:=by
 intro k
 induction k with
 | zero=>intro m e st h;omega
 | succ k ih =>
  intro m e st h1 h2
  cases m with
  | zero=>omega
  | succ m =>
   unfold chnF
   cases ha:accAny sg st.r with
   | none=>rfl
   | some a =>
    obtain ⟨x,r1⟩:=a
    have hl:=accAny_lt ha hsg
    simp only
    cases hq:p ⟨r1,st.n⟩ with
    | error f=>rfl
    | ok b =>
     obtain ⟨f,s1⟩:=b
     have hl2:=hp _ _ _ hq
     simp only at hl2 ⊢
     cases hf:fin (.mk ⟨4,0,0,lit x,[],[]⟩ [e,f]) s1 with
     | error f=>rfl
     | ok c =>
      obtain ⟨g,s2⟩:=c
      have hl3:=fin_le hf
      simp only
      exact ih m g s2 (by omega) (by omega)
def chnW (p:St→Except Flt (Ex×St)) (sg:List (List UInt8)) (e:Ex) (st:St):Except Flt (Ex×St):=chnF p sg (st.r.length+1) e st
theorem chn_ok {p:St→Except Flt (Ex×St)} {sg:List (List UInt8)} {st q:St} {e:Ex} (h:p st=.ok (e,q)):chn p sg st=chnW p sg e q:=by
 unfold chn;rw [h];rfl
theorem chnW_end {p:St→Except Flt (Ex×St)} {sg:List (List UInt8)} {st:St} {e:Ex} (h:accAny sg st.r=none):chnW p sg e st=.ok (e,st):=by
 unfold chnW chnF;rw [h]
theorem chnW_go {p:St→Except Flt (Ex×St)} (hp:∀ st x q,p st=.ok (x,q)→q.r.length≤st.r.length) {sg:List (List UInt8)} (hsg:∀ y∈sg,0<y.length) {st q:St} {e f:Ex} {x r1:List UInt8}
  (h:accAny sg st.r=some (x,r1)) (hq:p ⟨r1,st.n⟩=.ok (f,q)) (hn:q.n+1≤100):chnW p sg e st=chnW p sg (.mk ⟨4,0,0,lit x,[],[]⟩ [e,f]) ⟨q.r,q.n+1⟩:=by
 have h1:=accAny_lt h hsg
 have h2:=hp _ _ _ hq
 simp only at h2
 unfold chnW
 rw [chnF]
 simp only [h,hq,fin]
 rw [if_neg (by omega)]
 simp only
 exact chnF_more hp hsg _ _ _ _ (by simp only;omega) (by simp only;omega)
theorem sg1:∀ y∈([[42]]:List (List UInt8)),0<y.length:=by simp
theorem sg2:∀ y∈([[43],[45]]:List (List UInt8)),0<y.length:=by simp
def Fol (r:List UInt8):Prop:=∀ c t,r=c::t→c=32∨c=41
theorem fol_digit {r:List UInt8} (h:Fol r):∀ c t,r=c::t→digit c=false:=by
 intro c t e
 rcases h c t e with h | h <;> (rw [h];decide)
theorem fol_32 (t:List UInt8):Fol (32::t):=fun c u e=>by injection e with e _;exact .inl e.symm
theorem fol_41 (t:List UInt8):Fol (41::t):=fun c u e=>by injection e with e _;exact .inr e.symm
theorem fct_32 (k n:Nat) (r:List UInt8):fct (k+1) ⟨32::r,n⟩=fct (k+1) ⟨r,n⟩:=by
 rw [fct,fct]
 simp only [acc_32,numb_32,wrdOf_32]
 have:nxt (32::r)=nxt r:=by unfold nxt;rw [skip_32]
 rw [this]
theorem trm_32 (k n:Nat) (r:List UInt8):trm (fct (k+1)) ⟨32::r,n⟩=trm (fct (k+1)) ⟨r,n⟩:=by
 unfold trm chn
 rw [fct_32]
theorem trm_le (k:Nat):∀ st x q,trm (fct k) st=.ok (x,q)→q.r.length≤st.r.length:=chn_le (fct_le k)
theorem dpr_kids {h:Hd} {kids:List Ex} {k:Nat} (e:dpr (.mk h kids) k=false):∃ j,k=j+1∧∀ x∈kids,dpr x j=false:=by
 cases k with
 | zero=>simp [dpr] at e
 | succ j =>
  refine ⟨j,rfl,?_⟩
  simp only [dpr] at e
  induction kids with
  | nil=>intro x hx;cases hx
  | cons a l ih =>
   simp only [dprL,Bool.or_eq_false_iff] at e
   intro x hx
   rcases List.mem_cons.1 hx with e1 | e1
   ·rw [e1];exact e.1
   ·exact ih e.2 x e1
theorem dpr_more:∀ (x:Ex) (k:Nat),dpr x k=false→dpr x (k+1)=false:=by
 refine Ex.ind ?_
 intro h kids ih k e
 obtain ⟨j,rfl,hj⟩:=dpr_kids e
 simp only [dpr]
 have:∀ l:List Ex,(∀ x∈l,x∈kids)→dprL l (j+1)=false:=by
  intro l
  induction l with
  | nil=>intro _;rfl
  | cons a l ihl =>
   intro hl
   simp only [dprL,Bool.or_eq_false_iff]
   exact ⟨ih a (hl a (by simp)) j (hj a (hl a (by simp))),ihl fun x hx=>hl x (by simp [hx])⟩
 exact this kids fun x hx=>hx
structure Rds (e:Ex):Prop where
 fl:∀ k n r,rk e.hd=2→dpr e k=false→n+cnt e≤100→Fol r→fct k ⟨bl (tx e)++r,n⟩=.ok (bare e,⟨r,n+cnt e⟩)
 p1:∀ k n r,1≤rk e.hd→dpr e k=false→n+cnt e≤100→Fol r→trm (fct k) ⟨bl (tx e)++r,n⟩=chnW (fct k) [[42]] (bare e) ⟨r,n+cnt e⟩
 p0:∀ k n r,dpr e k=false→n+cnt e≤100→Fol r→acc [42] r=none→smm (fct k) ⟨bl (tx e)++r,n⟩=chnW (trm (fct k)) [[43],[45]] (bare e) ⟨r,n+cnt e⟩
theorem acc41 (c:UInt8) (r:List UInt8) (h:(c == 41)=false):acc [c] (41::r)=none:=acc_miss (skip_of _ (by decide)) h
theorem Rds.br {e:Ex} (h:Rds e) {k n:Nat} {r:List UInt8} (hd:dpr e k=false) (hn:n+cnt e≤100):fct (k+1) ⟨40::(bl (tx e)++41::r),n⟩=.ok (bare e,⟨r,n+cnt e⟩):=by
 have h1:=h.p0 k n (41::r) hd hn (fol_41 r) (acc41 42 r (by decide))
 rw [chnW_end (by simp only [accAny,acc41 43 r (by decide),acc41 45 r (by decide)])] at h1
 rw [fct]
 simp only
 rw [acc_hit (c:=40) (skip_of _ (by decide))]
 simp only
 rw [h1]
 simp only
 rw [expe_hit (c:=41) (skip_of _ (by decide))]
theorem Rds.wi2 {e:Ex} (h:Rds e) {k n:Nat} {r:List UInt8} (hd:dpr e k=false) (hn:n+cnt e≤100) (hr:Fol r):fct (k+1) ⟨bl (wi 2 (rk e.hd,tx e))++r,n⟩=.ok (bare e,⟨r,n+cnt e⟩):=by
 unfold wi
 simp only
 split
 ·have e1:bl (lit [40]++tx e++lit [41])++r=40::(bl (tx e)++41::r):=by simp [bl_app,bl_lit]
  rw [e1]
  exact h.br hd hn
 ·rename_i h2
  have:rk e.hd=2:=by unfold rk at h2 ⊢;(repeat' split at h2) <;> simp_all
  exact h.fl (k+1) n r this (dpr_more e k hd) hn hr
theorem Rds.wi1 {e:Ex} (h:Rds e) {k n:Nat} {r:List UInt8} (hd:dpr e k=false) (hn:n+cnt e≤100) (hr:Fol r):trm (fct (k+1)) ⟨bl (wi 1 (rk e.hd,tx e))++r,n⟩=chnW (fct (k+1)) [[42]] (bare e) ⟨r,n+cnt e⟩:=by
 unfold wi
 simp only
 split
 ·have e1:bl (lit [40]++tx e++lit [41])++r=40::(bl (tx e)++41::r):=by simp [bl_app,bl_lit]
  rw [e1]
  exact chn_ok (h.br hd hn)
 ·rename_i h2
  exact h.p1 (k+1) n r (by omega) (dpr_more e k hd) hn hr
theorem wi_0 (p:Int×ByteArray) (h:0≤p.1):wi 0 p=p.2:=by unfold wi;rw [if_neg (by omega)]
theorem rk_nn (h:Hd):0≤rk h:=by unfold rk;(repeat' split) <;> omega
theorem words_wordy {x:ByteArray} (h:has words8 x=true):wordy (bl x)∧bl x≠wordAll:=by
 have:=has_mem h
 simp only [words8,List.mem_cons,List.not_mem_nil,or_false] at this
 rcases this with e | e | e | e | e | e | e | e <;> (rw [e,bl_lit];exact ⟨⟨_,_,rfl,by decide,by decide,by decide⟩,by decide⟩)
theorem totals_wordy {x:ByteArray} (h:has totals4 x=true):wordy (bl x):=by
 have:=has_mem h
 simp only [totals4,List.mem_cons,List.not_mem_nil,or_false] at this
 rcases this with e | e | e | e <;> (rw [e,bl_lit];exact ⟨_,_,rfl,by decide,by decide,by decide⟩)
theorem byt_head {bs:List ByteArray} (r:List UInt8):∃ t,bl (byt bs)++32::r=32::t:=by
 unfold byt
 split
 ·exact ⟨r,by simp [bl_lit]⟩
 ·exact ⟨98::121::32::(bl (jn bs)++32::r),by simp [bl_app,bl_lit]⟩
theorem reads_all:∀ e:Ex,Rt e→Rds e:=by
 refine Ex.ind ?_
 intro h kids ih hr
 obtain ⟨ha,hk⟩:=hr.parts
 -- a factor is a term and a sum
 have up:(∀ k n r,rk h=2→dpr (.mk h kids) k=false→n+cnt (.mk h kids)≤100→Fol r→fct k ⟨bl (tx (.mk h kids))++r,n⟩=.ok (bare (.mk h kids),⟨r,n+cnt (.mk h kids)⟩))→rk h=2→Rds (.mk h kids):=by
  intro hfl h2
  have hp1:∀ k n r,1≤rk (Ex.mk h kids).hd→dpr (.mk h kids) k=false→n+cnt (.mk h kids)≤100→Fol r→trm (fct k) ⟨bl (tx (.mk h kids))++r,n⟩=chnW (fct k) [[42]] (bare (.mk h kids)) ⟨r,n+cnt (.mk h kids)⟩:=fun k n r _ hd hn hf=>chn_ok (hfl k n r h2 hd hn hf)
  exact ⟨hfl,hp1,fun k n r hd hn hf h42=>chn_ok ((hp1 k n r (by show 1≤rk h;omega) hd hn hf).trans (chnW_end (by simp only [accAny,h42])))⟩
 rcases alone_cases ha with ⟨e,k0,n0,n1⟩ | ⟨e,k0,wb⟩ | ⟨e,k0,ab⟩ | ⟨e,k0,sg⟩
 ·
  have h2:rk h=2:=by unfold rk;rw [if_neg (by omega)]
  refine up ?_ h2
  intro k n r _ hd hn hf
  obtain ⟨j,rfl,_⟩:=dpr_kids hd
  have hkids:kids=[]:=List.eq_nil_of_length_eq_zero k0
  subst hkids
  have et:bl (tx (.mk h []))++r=Go.Lib.itoa h.n++r:=by
   simp only [tx,bodyT,e,if_true]
   simp [itoaB,bl]
  rw [et,fct]
  obtain ⟨c,t,ec,hc⟩:=itoa_cons n0
  have hbd:=digit_bd hc
  have hs:skip (Go.Lib.itoa h.n++r)=c::(t++r):=by rw [ec,List.cons_append];exact skip_of _ (ne_of_toNat (by show c.toNat≠32;omega))
  simp only
  rw [acc_miss hs (ne_of_toNat (by show (40:Nat)≠c.toNat;omega))]
  simp only
  have hx:nxt (Go.Lib.itoa h.n++r)=c:=by unfold nxt;rw [hs];rfl
  rw [hx,if_pos hc,numb_read n0 n1 n0 n1 (fol_digit hf)]
  simp only [fin,cnt,cntL] at hn ⊢
  rw [if_neg (by omega)]
  simp [bare,bareL,bareH,e]
 ·
  have h2:rk h=2:=by unfold rk;rw [if_neg (by omega)]
  refine up ?_ h2
  intro k n r _ hd hn hf
  obtain ⟨j,rfl,_⟩:=dpr_kids hd
  have hkids:kids=[]:=List.eq_nil_of_length_eq_zero k0
  subst hkids
  obtain ⟨a1,a2,a3,a4,a5⟩:=winBad_ok wb
  obtain ⟨hw,hnall⟩:=words_wordy a1
  have et:bl (tx (.mk h []))++r=bl h.word++(40::123::(bl (jn (h.ms.map mtx))++125::91::(Go.Lib.itoa h.range++93::41::r))):=by
   simp only [tx,bodyT,e,show ((2:Int)=1)=False from by simp,if_false,if_true]
   simp [bl_app,bl_lit,bl_itoa]
  rw [et,fct]
  obtain ⟨c,t,ec,hc,hs⟩:=wordy_skip hw (40::123::(bl (jn (h.ms.map mtx))++125::91::(Go.Lib.itoa h.range++93::41::r)))
  simp only
  rw [acc_miss hs (letter_ne' hc (by decide))]
  simp only
  have hx:nxt (bl h.word++(40::123::(bl (jn (h.ms.map mtx))++125::91::(Go.Lib.itoa h.range++93::41::r))))=c:=by unfold nxt;rw [hs];rfl
  have hwo:wrdOf (words8++[lit wordAll]) (bl h.word++(40::123::(bl (jn (h.ms.map mtx))++125::91::(Go.Lib.itoa h.range++93::41::r))))=.ok (bl h.word,40::123::(bl (jn (h.ms.map mtx))++125::91::(Go.Lib.itoa h.range++93::41::r))):=by
   unfold wrdOf
   rw [wrd_read hw (ends_of (by decide))]
   simp only
   rw [lit_bl,has_app,a1]
   simp
  rw [hx,letter_no_digit hc,if_neg (by simp),hwo]
  simp only
  rw [if_neg hnall,lit_bl]
  simp only [cnt,cntL] at hn ⊢
  rw [wnd_read wb n (by omega) r]
  simp [bare,bareL,bareH,e]
 ·
  have h2:rk h=2:=by unfold rk;rw [if_neg (by omega)]
  refine up ?_ h2
  intro k n r _ hd hn hf
  obtain ⟨j,rfl,hj⟩:=dpr_kids hd
  match kids,k0 with
  | [x],_ =>
   have hx:=ih x (by simp) (hk x (by simp))
   have hdx:=hj x (by simp)
   obtain ⟨a1,a2,a3⟩:=allBad_ok ab
   have hw:=totals_wordy a1
   have et:bl (tx (.mk h [x]))++r=wordAll++(32::(bl h.word++(bl (byt h.bs)++32::40::(bl (tx x)++41::r)))):=by
    simp only [tx,bodyT,e,show ((3:Int)=1)=False from by simp,show ((3:Int)=2)=False from by simp,if_false,if_true,txL]
    simp [bl_app,bl_lit,at2,wordAll]
   have hall:wordy wordAll:=⟨97,[108,108],rfl,by decide,by decide,by decide⟩
   obtain ⟨u,eu⟩:=byt_head (bs:=h.bs) (40::(bl (tx x)++41::r))
   rw [et,fct]
   obtain ⟨c,t,ec,hc,hs⟩:=wordy_skip hall (32::(bl h.word++(bl (byt h.bs)++32::40::(bl (tx x)++41::r))))
   simp only
   rw [acc_miss hs (letter_ne' hc (by decide))]
   simp only
   have hnx:nxt (wordAll++(32::(bl h.word++(bl (byt h.bs)++32::40::(bl (tx x)++41::r)))))=c:=by unfold nxt;rw [hs];rfl
   have hwo:wrdOf (words8++[lit wordAll]) (wordAll++(32::(bl h.word++(bl (byt h.bs)++32::40::(bl (tx x)++41::r)))))=.ok (wordAll,32::(bl h.word++(bl (byt h.bs)++32::40::(bl (tx x)++41::r)))):=by
    unfold wrdOf
    rw [wrd_read hall (ends_of (by decide))]
    simp only
    rw [has_app,show has [lit wordAll] (lit wordAll)=true from by simp [has]]
    simp
   have hwt:wrdOf totals4 (bl h.word++(bl (byt h.bs)++32::40::(bl (tx x)++41::r)))=.ok (bl h.word,bl (byt h.bs)++32::40::(bl (tx x)++41::r)):=by
    unfold wrdOf
    rw [wrd_read hw (by rw [eu];exact ends_of (by decide))]
    simp only
    rw [lit_bl,a1]
    simp
   have hn':n+cnt x+1≤100:=by simp only [cnt,cntL] at hn;omega
   have hp:=hx.p0 j n (41::r) hdx (by omega) (fol_41 r) (acc41 42 r (by decide))
   rw [chnW_end (by simp only [accAny,acc41 43 r (by decide),acc41 45 r (by decide)])] at hp
   rw [hnx,letter_no_digit hc,if_neg (by simp),hwo]
   simp only
   rw [if_pos trivial]
   unfold al
   simp only
   rw [wrdOf_32,hwt]
   simp only
   rw [alB_read a3 a2]
   simp only
   rw [hp]
   simp only
   rw [expe_hit (c:=41) (skip_of _ (by decide))]
   simp only [fin]
   rw [if_neg (by omega),lit_bl]
   simp [bare,bareL,bareH,e,cnt,cntL]
   omega
 ·
  match kids,k0 with
  | [a,b],_ =>
   have hA:=ih a (by simp) (hk a (by simp))
   have hB:=ih b (by simp) (hk b (by simp))
   have ecnt:cnt (.mk h [a,b])=cnt a+cnt b+1:=by simp only [cnt,cntL];omega
   have ebare:bare (.mk h [a,b])=.mk ⟨4,0,0,h.word,[],[]⟩ [bare a,bare b]:=by simp [bare,bareL,bareH,e]
   have etx:∀ r,bl (tx (.mk h [a,b]))++r=bl (wi (rk h) (rk a.hd,tx a))++(32::(bl h.word++(32::(bl (wi (rk h+1) (rk b.hd,tx b))++r)))):=by
    intro r
    simp only [tx,bodyT,e,show ((4:Int)=1)=False from by simp,show ((4:Int)=2)=False from by simp,show ((4:Int)=3)=False from by simp,if_false,txL]
    simp [bl_app,bl_lit,at2]
   have hs:=has_mem sg
   simp only [signs3,List.mem_cons,List.not_mem_nil,or_false] at hs
   by_cases hstar:h.word=lit [42]
   ·have h1:rk h=1:=by unfold rk;rw [if_pos e,if_pos hstar]
    have hp1:∀ k n r,1≤rk (Ex.mk h [a,b]).hd→dpr (.mk h [a,b]) k=false→n+cnt (.mk h [a,b])≤100→Fol r→trm (fct k) ⟨bl (tx (.mk h [a,b]))++r,n⟩=chnW (fct k) [[42]] (bare (.mk h [a,b])) ⟨r,n+cnt (.mk h [a,b])⟩:=by
     intro k n r _ hd hn hf
     obtain ⟨j,rfl,hj⟩:=dpr_kids hd
     rw [ecnt] at hn ⊢
     rw [etx,h1,hstar,bl_lit,ebare,hstar]
     rw [hA.wi1 (hj a (by simp)) (by omega) (fol_32 _)]
     rw [chnW_go (fct_le _) sg1 (x:=[42]) (r1:=32::(bl (wi (1+1) (rk b.hd,tx b))++r)) (q:=⟨r,n+cnt a+cnt b⟩) (f:=bare b) (by simp only [accAny];rw [acc_32,List.cons_append,List.nil_append,acc_hit (skip_of _ (by decide))]) (by rw [fct_32];exact hB.wi2 (hj b (by simp)) (by simp only;omega) hf) (by simp only;omega)]
     simp only [Nat.add_assoc]
    refine ⟨fun k n r h2=>?_,hp1,fun k n r hd hn hf h42=>?_⟩
    ·have h2':rk h=2:=h2
     omega
    ·exact chn_ok ((hp1 k n r (by show 1≤rk h;omega) hd hn hf).trans (chnW_end (by simp only [accAny,h42])))
   ·have h1:rk h=0:=by unfold rk;rw [if_pos e,if_neg hstar]
    refine ⟨fun k n r h2=>?_,fun k n r h2=>?_,?_⟩
    ·have h2':rk h=2:=h2
     omega
    ·have h2':1≤rk h:=h2
     omega
    ·intro k n r hd hn hf h42
     obtain ⟨j,rfl,hj⟩:=dpr_kids hd
     rw [ecnt] at hn ⊢
     obtain ⟨sb,hsb,hsb2⟩:∃ sb:UInt8,h.word=lit [sb]∧(sb=43∨sb=45):=by
      rcases hs with e | e | e
      ·exact ⟨43,e,.inl rfl⟩
      ·exact ⟨45,e,.inr rfl⟩
      ·exact absurd e hstar
     have h42':∀ t,acc [42] (32::([sb]++t))=none:=fun t=>by
      rw [acc_32,List.cons_append,List.nil_append]
      rcases hsb2 with e | e <;> (subst e;exact acc_miss (skip_of _ (by decide)) (by decide))
     have hany:∀ t,accAny [[43],[45]] (32::([sb]++t))=some ([sb],t):=fun t=>by
      simp only [accAny,acc_32,List.cons_append,List.nil_append]
      rcases hsb2 with e | e
      ·subst e;rw [acc_hit (c:=43) (skip_of _ (by decide))]
      ·subst e;rw [acc_miss (c:=43) (d:=45) (skip_of _ (by decide)) (by decide),acc_hit (c:=45) (skip_of _ (by decide))]
     rw [etx,h1,hsb,bl_lit,ebare,hsb,wi_0 _ (rk_nn _)]
     rw [hA.p0 (j+1) n _ (dpr_more a j (hj a (by simp))) (by omega) (fol_32 _) (h42' _)]
     rw [chnW_go (trm_le _) sg2 (x:=[sb]) (r1:=32::(bl (wi (0+1) (rk b.hd,tx b))++r)) (q:=⟨r,n+cnt a+cnt b⟩) (f:=bare b) (hany _) (by rw [trm_32];exact (hB.wi1 (hj b (by simp)) (by simp only;omega) hf).trans (chnW_end (by simp only [accAny,h42]))) (by simp only;omega)]
     simp only [Nat.add_assoc]
mutual
theorem dpr_bare:∀ (x:Ex) (k:Nat),dpr (bare x) k=dpr x k
 | .mk h kids,0=>by simp [bare,dpr]
 | .mk h kids,k+1=>by simp only [bare,dpr];exact dprL_bare kids k
theorem dprL_bare:∀ (l:List Ex) (k:Nat),dprL (bareL l) k=dprL l k
 | [],k=>by simp [bareL]
 | x::l,k=>by simp only [bareL,dprL];rw [dpr_bare x k,dprL_bare l k]
end
theorem wr_deep:∀ (x:Ex) (d n:Int) (k:Nat),(wr x d n).1=0→d+k=21→dpr x k=false:=by
 refine Ex.ind ?_
 intro h kids ih d n k e hk
 have hL:∀ l:List Ex,(∀ x∈l,x∈kids)→∀ m j,(wrL l (d+1) m).1=0→d+1+(j:Nat)=21→dprL l j=false:=by
  intro l
  induction l with
  | nil=>intro _ m j _ _;rfl
  | cons a r ihr =>
   intro hin m j e1 hj
   simp only [wrL] at e1
   by_cases e2:(wr a (d+1) m).1=0
   ·rw [if_pos e2] at e1
    simp only [dprL,Bool.or_eq_false_iff]
    exact ⟨ih a (hin a (by simp)) (d+1) m j e2 hj,ihr (fun x hx=>hin x (by simp [hx])) _ j e1 hj⟩
   ·rw [if_neg e2] at e1;exact absurd e1 e2
 simp only [wr] at e
 by_cases h1:100<n+1∨20<d
 ·rw [if_pos h1] at e;simp at e
 ·rw [if_neg h1] at e
  by_cases h2:alone h kids.length=0
  ·rw [if_pos h2] at e
   cases k with
   | zero=>omega
   | succ k=>simp only [dpr];exact hL kids (fun x hx=>hx) _ k e (by omega)
  ·rw [if_neg h2] at e;exact absurd e h2
theorem prs_tx {x:Ex} (h:(wr x 1 0).1=0) (hs:(tx x).size≤2000):prs (bl (tx x))=.ok (bare x):=by
 obtain ⟨h1,h2,h3,_⟩:=wr_ok x 1 0 (by omega) h
 have hd:=wr_deep x 1 0 20 h (by omega)
 have hp:=(reads_all x h1).p0 20 0 [] hd (by omega) (fun c t e=>by cases e) (acc_nil rfl)
 rw [chnW_end (by simp only [accAny,acc_nil (c:=43) (r:=[]) rfl,acc_nil (c:=45) (r:=[]) rfl]),List.append_nil] at hp
 unfold prs
 rw [if_neg (by rw [bl_len];omega),hp]
 simp only
 rw [if_neg (by simp [skip]),dpr_bare,hd,if_neg (by simp)]
end Go.GrainU
namespace Go.Proofs.YtoldmigappbjcaaGreatDoor
open Go.RowKit Go.GrainU
set_option maxHeartbeats 1000000 in
theorem tadd_any (h:ByteArray) (t v:Int) (w:World) (hh:h.size≤9223372036854775807) :
  Calls Tryz.prog 33 #[.string h,.int .i64 t,.int .i64 v] w fun e w'=>∃ S:Nat,e=.returned (.agg #[.int .i64 1,.int .i64 0,.int .i64 0,.slice (some ⟨S,0,none⟩) 1 1,.int .i64 t,.int .i64 v,.string ⟨#[]⟩])∧DIn w' ⟨dAdd h t v,some ⟨S,0,none⟩,1⟩∧Below w.heap.size w w':=by
 have FIN:∀ o,Hid (DIn ((w.alloc o).alloc (.cells #[.string hostB,.string h] 88)) ⟨dAdd h t v,some ⟨w.heap.size+1,0,none⟩,1⟩∧Below w.heap.size w ((w.alloc o).alloc (.cells #[.string hostB,.string h] 88))):=by
  intro o
  refine ⟨⟨?_,?_,fun h=>(by cases h),by show (ByteArray.mk #[]).size≤_;decide⟩,((Below.refl _ _).alloc (Nat.le_refl _) _).alloc (by simp) _⟩
  ·have:=seg_new (w.alloc o) #[.string hostB,.string h] 88
   simpa [dAdd,lcells] using this
  ·intro k hk
   have:k=0:=by simp [dAdd] at hk;exact hk
   subst this
   exact ⟨by show hostB.size≤_;decide,hh⟩
 have HF:=hide FIN
 clear FIN hh
 unfold hostB at HF
 go_enter Tryz.func33,Tryz.ntmps33
 go_wp2
 exact bodyPost_ret (v:=.agg #[.int .i64 1,.int .i64 0,.int .i64 0,.slice (some ⟨w.heap.size+1,0,none⟩) 1 1,.int .i64 t,.int .i64 v,.string ⟨#[]⟩]) (by simp [results,Tryz.results33,go_sem]) rfl ⟨_,rfl,(HF.out _).out.1,(HF.out _).out.2⟩
set_option maxHeartbeats 1000000 in
theorem task_any (s:ByteArray) (t:Int) (w:World) :
  Calls Tryz.prog 29 #[.string s,.int .i64 t] w fun e w'=>e=.returned (.agg #[.int .i64 4,.int .i64 0,.int .i64 t,.slice none 0 0,.int .i64 0,.int .i64 0,.string s])∧Below w.heap.size w w':=by
 have bel:∀ o,Below w.heap.size w (w.alloc o):=fun o=>(Below.refl _ _).alloc (Nat.le_refl _) _
 have HB:=hide bel
 clear bel
 go_enter Tryz.func29,Tryz.ntmps29
 go_wp2
 exact bodyPost_ret (v:=.agg #[.int .i64 4,.int .i64 0,.int .i64 t,.slice none 0 0,.int .i64 0,.int .i64 0,.string s]) (by simp [results,Tryz.results29,go_sem]) rfl ⟨rfl,HB.out _⟩
set_option maxHeartbeats 1000000 in
theorem troll_any (t:Int) (w:World) :
  Calls Tryz.prog 25 #[.int .i64 t] w fun e w'=>e=.returned (.agg #[.int .i64 2,.int .i64 0,.int .i64 t,.slice none 0 0,.int .i64 0,.int .i64 0,.string ⟨#[]⟩])∧Below w.heap.size w w':=by
 have bel:∀ o,Below w.heap.size w (w.alloc o):=fun o=>(Below.refl _ _).alloc (Nat.le_refl _) _
 have HB:=hide bel
 clear bel
 go_enter Tryz.func25,Tryz.ntmps25
 go_wp2
 exact bodyPost_ret (v:=.agg #[.int .i64 2,.int .i64 0,.int .i64 t,.slice none 0 0,.int .i64 0,.int .i64 0,.string ⟨#[]⟩]) (by simp [results,Tryz.results25,go_sem]) rfl ⟨rfl,HB.out _⟩
def lastA (l:List Dn):An:=if 120<l.length∨l.length=0 then ⟨1,0,[],0⟩ else (playB b0 l).2.getD (l.length-1) ⟨1,0,[],0⟩
set_option maxRecDepth 20000 in
set_option maxHeartbeats 2000000 in
theorem last_any (l:List DT) (ao:Option Addr) (n cap:Nat) (w:World) (hs:Seg w ao (dcells l)) (hd:∀ x∈l,DIn w x) (hn:n=l.length) (hv:ErrV w) :
  Calls Tryz.prog 28 #[.slice ao n cap] w fun e w'=>∃ y:AT,e=.returned (.agg #[.int .i64 y.a.err,.int .i64 y.a.pos,.slice y.co y.cts.length y.cap,.int .i64 y.a.cost])∧y.a=lastA (dns l)∧AnIn w' y∧Below w.heap.size w w':=by
 obtain ⟨V,hV⟩:∃ V,V=w.alloc (.cells #[.int .i64 0,.int .i64 0,.slice none 0 0,.int .i64 0] 48):=⟨_,rfl⟩
 have bel:Below w.heap.size w V:=by rw [hV];exact (Below.refl _ _).alloc (Nat.le_refl _) _
 have R0:V.heap[w.heap.size]?=some (.cells #[.int .i64 0,.int .i64 0,.slice none 0 0,.int .i64 0] 48 (0,0)):=by rw [hV];exact heap_alloc_new w _
 have P:=hide (play_any l ao n cap V (hs.below bel) (fun x hx=>(hd x hx).below bel) hn (hv.below bel))
 have HN:=hide hn
 have HV:=hide hV
 have hlen:(dns l).length=l.length:=by simp [dns]
 have HLen:=hide hlen
 clear hV hs hd hn hv hlen
 go_enter Tryz.func28,Tryz.ntmps28
 go_wp2_with fail
 rw [← HV.out]
 refine P.out.mono ?_
 intro e w1 hh
 have HH:=hide hh
 clear hh P
 rcases HH.out with ⟨h120,rfl,b1⟩ | ⟨h120,ro,oo,rn,rc,d,hz,sl,ys,rfl,hrow,hli,hhz,hout,hys,b1⟩
 ·have R1:=below_block b1 R0
  have bel1:Below w.heap.size w w1:=bel.trans (b1.mono bel.size)
  obtain ⟨W2,hW2⟩:∃ W2,W2=w1.alloc (.cells #[.slice none 0 0,.int .i64 0] 26):=⟨_,rfl⟩
  have b2:Below w1.heap.size w1 W2:=by rw [hW2];exact (Below.refl _ _).alloc (Nat.le_refl _) _
  have R2:=below_block b2 R1
  have bel2:Below w.heap.size w W2:=bel1.trans (b2.mono bel1.size)
  obtain ⟨r0,r1,r2,r3,f0,f1,f2,f3⟩:=four_cells R2
  have HA:Hid (lastA (dns l)=⟨1,0,[],0⟩):=by show _=_;unfold lastA;rw [HLen.out,if_pos (.inl h120)]
  have HW2:=hide hW2
  have HB2:=hide bel2
  clear HH hW2 R1 b1 b2 bel1 bel2 R0 R2
  go_upto_region 2 with fail
  rw [← HW2.out]
  go_wp2
  exact bodyPost_ret (v:=.agg #[.int .i64 1,.int .i64 0,.slice none 0 0,.int .i64 0]) (by simp [results,Tryz.results28,go_sem,r0,r1,r2,r3]) rfl ⟨⟨⟨1,0,[],0⟩,[],none,0⟩,rfl,HA.out.symm,⟨rfl,.inl rfl,fun c hc=>(by cases hc),.inl rfl,fun c hc=>(by cases hc)⟩,below_set4 HB2.out (Nat.le_refl _) _ _ _ _⟩
 ·have R1:=below_block b1 R0
  have bel1:Below w.heap.size w w1:=bel.trans (b1.mono bel.size)
  obtain ⟨W2,hW2⟩:∃ W2,W2=w1.alloc (.cells #[.slice ro rn rc,.int .i64 hz] 26):=⟨_,rfl⟩
  have b2:Below w1.heap.size w1 W2:=by rw [hW2];exact (Below.refl _ _).alloc (Nat.le_refl _) _
  have R2:=below_block b2 R1
  have bel2:Below w.heap.size w W2:=bel1.trans (b2.mono bel1.size)
  have out2:=hout.below b2
  obtain ⟨r0,r1,r2,r3,f0,f1,f2,f3⟩:=four_cells R2
  have hnl:n=l.length:=HN.out
  have HW2:=hide hW2
  have HB2:=hide bel2
  have HO:=hide out2
  have HYS:=hide hys
  have HR2:=hide R2
  rw [← hnl] at out2 h120 ⊢
  clear HH hW2 R1 b1 b2 bel1 bel2 R0 R2 hrow hli hhz hout hys hnl
  by_cases h0:n=0
  ·have HA:Hid (lastA (dns l)=⟨1,0,[],0⟩):=by show _=_;unfold lastA;rw [HLen.out,← HN.out,if_pos (.inr h0)]
   subst h0
   clear out2
   go_upto_region 2 with fail
   rw [← HW2.out]
   go_wp2
   exact bodyPost_ret (v:=.agg #[.int .i64 1,.int .i64 0,.slice none 0 0,.int .i64 0]) (by simp [results,Tryz.results28,go_sem,r0,r1,r2,r3]) rfl ⟨⟨⟨1,0,[],0⟩,[],none,0⟩,rfl,HA.out.symm,⟨rfl,.inl rfl,fun c hc=>(by cases hc),.inl rfl,fun c hc=>(by cases hc)⟩,below_set4 HB2.out (Nat.le_refl _) _ _ _ _⟩
  ·obtain ⟨m,hm⟩:∃ m,m=n-1:=⟨_,rfl⟩
   have hm1:n=m+1:=by omega
   have hyl:=out2.len
   obtain ⟨y,hy⟩:∃ y,y=ys.getD m ⟨⟨1,0,[],0⟩,[],none,0⟩:=⟨_,rfl⟩
   have hmy:m<ys.length:=by omega
   have yin:AnIn W2 y:=by
    rw [hy]
    refine out2.ans _ ?_
    simp only [List.getD,List.getElem?_eq_getElem hmy,Option.getD_some];exact List.getElem_mem hmy
   have HA:Hid (y.a=lastA (dns l)):=by
    show _=_
    unfold lastA
    rw [HLen.out,← HN.out,if_neg (by omega),← hm,← HYS.out,hy]
    simp [List.getD,List.getElem?_eq_getElem hmy]
   obtain ⟨bb,off,hoo,hcs⟩:∃ b off,oo=some ⟨b,off,none⟩∧∀ j,j<(acells4 ys).length→W2.cell? ⟨b,off+j,none⟩=(acells4 ys)[j]?:=by
    rcases own_seg' out2.own with h | ⟨b,off,h1,h2⟩
    ·have:=acells4_length ys
     rw [h] at this
     simp at this
     omega
    ·exact ⟨b,off,h1,h2⟩
   have hal:=acells4_length ys
   have cc:∀ j,j<4→W2.cell? ⟨bb,off+m*4+j,none⟩=y.cells[j]?:=fun j hj=>by
    rw [hy,← acells4_at ys m j hmy hj,Nat.add_assoc];exact hcs (m*4+j) (by omega)
   obtain ⟨y0,hy0⟩:∃ y0,y0=y.a.err:=⟨_,rfl⟩
   obtain ⟨y1,hy1⟩:∃ y1,y1=y.a.pos:=⟨_,rfl⟩
   obtain ⟨y2,hy2⟩:∃ y2,y2=y.cts.length:=⟨_,rfl⟩
   obtain ⟨y3,hy3⟩:∃ y3,y3=y.a.cost:=⟨_,rfl⟩
   have q0:W2.cell? ⟨bb,off+m*4,none⟩=some (.int .i64 y0):=by rw [hy0];exact cc 0 (by omega)
   have q1:W2.cell? ⟨bb,off+m*4+1,none⟩=some (.int .i64 y1):=by rw [hy1];exact cc 1 (by omega)
   have q2:W2.cell? ⟨bb,off+m*4+2,none⟩=some (.slice y.co y2 y.cap):=by rw [hy2];exact cc 2 (by omega)
   have q3:W2.cell? ⟨bb,off+m*4+3,none⟩=some (.int .i64 y3):=by rw [hy3];exact cc 3 (by omega)
   have FIN:Hid (∃ y:AT,(Ending.returned (.agg #[.int .i64 y0,.int .i64 y1,.slice (ys.getD m ⟨⟨1,0,[],0⟩,[],none,0⟩).co y2 (ys.getD m ⟨⟨1,0,[],0⟩,[],none,0⟩).cap,.int .i64 y3]))=.returned (.agg #[.int .i64 y.a.err,.int .i64 y.a.pos,.slice y.co y.cts.length y.cap,.int .i64 y.a.cost])∧y.a=lastA (dns l)∧AnIn (Set4 W2 w.heap.size (.int .i64 y0) (.int .i64 y1) (.slice (ys.getD m ⟨⟨1,0,[],0⟩,[],none,0⟩).co y2 (ys.getD m ⟨⟨1,0,[],0⟩,[],none,0⟩).cap) (.int .i64 y3)) y∧Below w.heap.size w (Set4 W2 w.heap.size (.int .i64 y0) (.int .i64 y1) (.slice (ys.getD m ⟨⟨1,0,[],0⟩,[],none,0⟩).co y2 (ys.getD m ⟨⟨1,0,[],0⟩,[],none,0⟩).cap) (.int .i64 y3))):=by
    rw [← hy]
    exact ⟨y,by rw [hy0,hy1,hy2,hy3],HA.out,⟨yin.cs,csin_keep yin.inn HR2.out (by decide) (by decide) (set4_grown _ _ _ _ _ _)⟩,below_set4 HB2.out (Nat.le_refl _) _ _ _ _⟩
   rw [← hy] at FIN
   have hm2:(n:Int)-1=(m:Int):=by omega
   have hm3:IntKind.i64.wrap (m:Int)=(m:Int):=by rw [IntKind.wrap_i64];omega
   have hm4:(m:Int)<(n:Int):=by omega
   have hm5:m<n:=by omega
   have hn0:¬ ((n:Int)=0):=by omega
   have hn1:((n:Int) == 0)=false:=by simpa using hn0
   subst hoo
   clear out2 hcs cc hal yin HA hy hyl hmy hm hy0 hy1 hy2 hy3 HO HYS
   go_upto_region 2 with fail
   rw [← HW2.out]
   subst hm1
   go_wp2
   exact bodyPost_ret (v:=.agg #[.int .i64 y0,.int .i64 y1,.slice y.co y2 y.cap,.int .i64 y3]) (by simp [results,Tryz.results28,go_sem,r0,r1,r2,r3]) rfl FIN.out
def aliveL:List Dn:=[dAdd ⟨#[97]⟩ 5 7,dRoll 60,dAsk ⟨#[115,117,109,40,123,125,91,54,48,93,41]⟩ 60]
theorem aliveL_is:lastA aliveL=⟨0,0,[([(hostB,⟨#[97]⟩)],7)],1⟩:=by kernel_rfl
theorem dcells3 (x y z:DT):dcells [x,y,z]=x.cells++(y.cells++z.cells):=by simp [dcells]
theorem last3 (a b c:DT) (w:World) (arr:Array Value) (ha:arr.toList=a.cells++(b.cells++c.cells)) (da:DIn w a) (db:DIn w b) (dc:DIn w c) (hv:ErrV w) :
  Calls Tryz.prog 28 #[.slice (some ⟨w.heap.size,0,none⟩) 3 3] (w.alloc (.cells arr 36)) fun e w'=>∃ y:AT,e=.returned (.agg #[.int .i64 y.a.err,.int .i64 y.a.pos,.slice y.co y.cts.length y.cap,.int .i64 y.a.cost])∧y.a=lastA [a.d,b.d,c.d]∧AnIn w' y∧Below w.heap.size w w':=by
 have bel:Below w.heap.size w (w.alloc (.cells arr 36)):=(Below.refl _ _).alloc (Nat.le_refl _) _
 have hs:Seg (w.alloc (.cells arr 36)) (some ⟨w.heap.size,0,none⟩) (dcells [a,b,c]):=by
  rw [dcells3,← ha];exact seg_new w arr _
 refine (last_any [a,b,c] _ 3 3 _ hs (fun x hx=>?_) rfl (hv.below bel)).mono ?_
 ·simp at hx
  rcases hx with e | e | e
  ·rw [e];exact da.below bel
  ·rw [e];exact db.below bel
  ·rw [e];exact dc.below bel
 ·rintro e w' ⟨y,rfl,h1,h2,h3⟩
  exact ⟨y,rfl,h1,h2,bel.trans (h3.mono bel.size)⟩
set_option maxRecDepth 20000 in
set_option maxHeartbeats 4000000 in
theorem talive_any (w:World) (hv:ErrV w):Calls Tryz.prog 22 #[] w fun e w'=>e=.returned (.bool true)∧Below w.heap.size w w':=by
 have P1:=hide (tadd_any ⟨#[97]⟩ 5 7 w (by decide))
 have HV:=hide hv
 clear hv
 go_enter Tryz.func22,Tryz.ntmps22
 go_wp2_with fail
 refine P1.out.mono ?_
 rintro e w1 ⟨S,rfl,d1,b1⟩
 clear P1
 go_wp2_with fail
 refine (troll_any 60 w1).mono ?_
 rintro e w2 ⟨rfl,b2⟩
 have bel2:Below w.heap.size w w2:=b1.trans (b2.mono b1.size)
 have D1:=d1.below b2
 clear d1 b1 b2
 go_wp2_with fail
 refine (task_any ⟨#[115,117,109,40,123,125,91,54,48,93,41]⟩ 60 w2).mono ?_
 rintro e w3 ⟨rfl,b3⟩
 have bel3:Below w.heap.size w w3:=bel2.trans (b3.mono bel2.size)
 have P4:=hide (last3 ⟨dAdd ⟨#[97]⟩ 5 7,some ⟨S,0,none⟩,1⟩ ⟨dRoll 60,none,0⟩ ⟨dAsk ⟨#[115,117,109,40,123,125,91,54,48,93,41]⟩ 60,none,0⟩ w3 #[.int .i64 1,.int .i64 0,.int .i64 0,.slice (some ⟨S,0,none⟩) 1 1,.int .i64 5,.int .i64 7,.string ⟨#[]⟩,.int .i64 2,.int .i64 0,.int .i64 60,.slice none 0 0,.int .i64 0,.int .i64 0,.string ⟨#[]⟩,.int .i64 4,.int .i64 0,.int .i64 60,.slice none 0 0,.int .i64 0,.int .i64 0,.string ⟨#[115,117,109,40,123,125,91,54,48,93,41]⟩] rfl (D1.below b3) (din_none _ _ rfl (by show (ByteArray.mk #[]).size≤_;decide)) (din_none _ _ rfl (by show (ByteArray.mk #[115,117,109,40,123,125,91,54,48,93,41]).size≤_;decide)) (HV.out.below bel3))
 clear D1 bel2 b3
 go_wp2_with fail
 refine P4.out.mono ?_
 rintro e w4 ⟨⟨ya,cts,co,cap⟩,rfl,hya,hyin,b4⟩
 have hya2:ya=⟨0,0,[([(hostB,⟨#[97]⟩)],7)],1⟩:=hya.trans aliveL_is
 have bel4:Below w.heap.size w w4:=bel3.trans (b4.mono bel3.size)
 have hcs:cls cts=[([(hostB,⟨#[97]⟩)],7)]:=by have:=hyin.cs;rw [hya2] at this;exact this
 have hl:cts.length=1:=by have:=congrArg List.length hcs;simpa [cls] using this
 have hk:0<cts.length:=by omega
 obtain ⟨b,off,hco,hbb,hcell⟩:=seg_cell hyin.inn.seg hk
 have hv0:(ct cts 0).v=7:=by
  match cts,hl,hcs with
  | [c],_,h =>
   simp [cls,CT.cl] at h
   exact h.2
 have q1:w4.cell? ⟨b,off+1,none⟩=some (.int .i64 7):=by
  have:=(hcell 0 hk).2
  rw [hv0] at this
  simpa using this
 have q0:w4.cell? ⟨b,off,none⟩=some (.slice (ct cts 0).sa (ct cts 0).ser.length (ct cts 0).sc):=by simpa using (hcell 0 hk).1
 simp only at hco
 rw [hya2,hl,hco]
 have bA:∀ o,Below w.heap.size w (w4.alloc o):=fun o=>bel4.alloc bel4.size _
 have HB:=hide bA
 have h3:=bel4.size
 clear P4 hya hyin hya2 hcs hcell hv0 hl hk bel4 b4 bel3 bA HV
 simp only
 go_wp2
 go_ret
 exact ⟨rfl,HB.out _⟩
open Go.RowKit Go.GrainU
theorem dcells_append (a b:List DT):dcells (a++b)=dcells a++dcells b:=by
 induction a with
 | nil=>rfl
 | cons x r ih=>simp only [List.cons_append,dcells,ih,List.append_assoc]
theorem Tryz.infoDo:(Tryz.prog.info? 36).map (fun i=>(i.zero,i.size,i.bytes))=some (some (.agg #[.int .i64 0,.int .i64 0,.int .i64 0,.slice none 0 0,.int .i64 0,.int .i64 0,.string ⟨#[]⟩]),7,80):=by kernel_rfl
end Go.Proofs.YtoldmigappbjcaaGreatDoor
namespace Go.GrainU
open Go.RowKit
theorem own_is {w:World} {base e size n:Nat} {v:Value} {xs:List Value} (h:w.ownsRow base e size v n xs):∀ k,v.ownBlock=some k→∃ c fr,w.heap[k]?=some (.cells c e fr):=by
 intro k hk
 rcases h.2 with ⟨hv,_⟩ | ⟨g,cap,cur,hv,_,hgb,_⟩
 ·rw [hv] at hk;cases hk
 ·rw [hv] at hk
  injection hk with hk
  subst hk
  exact ⟨_,_,hgb⟩
end Go.GrainU
namespace Go.Proofs.YtoldmigappbjcaaGreatDoor
open Go.RowKit Go.GrainU
end Go.Proofs.YtoldmigappbjcaaGreatDoor
