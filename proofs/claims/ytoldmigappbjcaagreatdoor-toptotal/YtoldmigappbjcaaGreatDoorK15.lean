import Derived.Deep.AppendLies
import Derived.Test.YtoldmigappbjcaaGreatDoorK01
import Derived.Test.YtoldmigappbjcaaGreatDoorK02
import Derived.Test.YtoldmigappbjcaaGreatDoorK04
import Derived.Test.YtoldmigappbjcaaGreatDoorK05
import Derived.Test.YtoldmigappbjcaaGreatDoorRows
namespace Grain
structure Shf where
 se:List (ByteArray×ByteArray)
 ra:List (Int×Int)
 fi:List Bk
 co:List Bk
 rf:Int
 ff:Int
 ft:Int
 cf:Int
 ct:Int
def szero:Shf:=⟨[],[],[],[],0,0,0,0,0⟩
def span (f t st:Int):Bool:=decide (f%st=0∧t%st=0∧0≤f∧f≤t∧t≤1000000)
def bfit (s:Shf):Bool:=span s.ff s.ft 10 && (span s.cf s.ct 60 && decide (0≤s.rf∧s.rf≤s.ft∧s.ff≤s.ct∧s.ct≤s.ft))
def within (B:List Bk) (f t:Int):Bool:=B.all fun b=>decide (f≤b.a∧b.a<t)
def efit (s:Shf):Bool:=(s.ra.all fun x=>decide (s.rf≤x.1)) && (within s.fi s.ff s.ft && within s.co s.cf s.ct)
def swrong (s:Shf):Int :=
 if Go.GrainU.wrongS s.se≠0 then Go.GrainU.wrongS s.se
 else if (wrong s.ra).1≠0 then (wrong s.ra).1
 else if (wrongB s.fi 10).1≠0 then (wrongB s.fi 10).1
 else if (wrongB s.co 60).1≠0 then (wrongB s.co 60).1
 else if (bfit s && efit s)=true then 0 else 8
def late (s:Shf) (t:Int):Bool:=decide (t<s.ft) || (match s.ra.getLast? with | some y=>decide (t≤y.1) | none=>false)
def sapp (s:Shf) (t v:Int):Shf×Int :=
 if swrong s≠0 then (szero,swrong s)
 else if inR t v=false then (szero,3)
 else if late s t=true then (szero,9)
 else if 500≤s.ra.length then (szero,5)
 else ({ s with ra:=s.ra++[(t,v)] },0)
def winB (B:List Bk) (f t:Int):List Bk:=B.filter fun b=>decide (f≤b.a∧b.a<t)
def nft (s:Shf) (tq:Int):Int:=max s.ft (beg tq 10)
def nfi (s:Shf) (tq:Int):List Bk:=s.fi++up (win s.ra s.ft (nft s tq)) 10
def nct (s:Shf) (tq:Int):Int:=max s.ct (beg (nft s tq) 60)
def nco (s:Shf) (tq:Int):List Bk:=s.co++great (winB (nfi s tq) s.ct (nct s tq))
def wrongAt (s:Shf) (tq:Int):Int:=if swrong s≠0 then swrong s else if tq<0∨1000000<tq then 3 else 0
def sroll (s:Shf) (tq:Int):Shf×Int :=
 if wrongAt s tq≠0 then (szero,wrongAt s tq)
 else if 500<(nfi s tq).length then (szero,5)
 else if 500<(nco s tq).length then (szero,5)
 else ({ s with fi:=nfi s tq,co:=nco s tq,ft:=nft s tq,ct:=nct s tq },0)
def nrf (s:Shf) (tq:Int):Int:=max s.rf (min tq s.ft)
def nff (s:Shf) (tq:Int):Int:=max s.ff (beg (min tq s.ct) 10)
def ncf (s:Shf) (tq:Int):Int:=max s.cf (beg (min tq s.ct) 60)
def sforg (s:Shf) (tier tq:Int):Shf×Int :=
 if wrongAt s tq≠0 then (szero,wrongAt s tq)
 else if tier=0 then ({ s with rf:=nrf s tq,ra:=s.ra.filter fun x=>decide (nrf s tq≤x.1) },0)
 else if tier=1 then ({ s with ff:=nff s tq,fi:=s.fi.filter fun b=>decide (nff s tq≤b.a) },0)
 else if tier=2 then ({ s with cf:=ncf s tq,co:=s.co.filter fun b=>decide (ncf s tq≤b.a) },0)
 else (szero,1)
theorem bk_get {l:List Bk} {k:Nat} (h:k<l.length):bk l k=l[k]:=by simp [bk,List.getD,List.getElem?_eq_getElem h]
theorem rb_iff (B:List Bk) (st:Int):RB B st↔(∀ b∈B,inRB b st=true)∧B.Pairwise (fun x y=>x.a<y.a):=by
 constructor
 ·intro h
  refine ⟨fun x hx=>?_,List.pairwise_iff_getElem.2 fun i j hi hj hij=>?_⟩
  ·obtain ⟨k,hk,rfl⟩:=List.mem_iff_getElem.1 hx
   rw [← bk_get hk];exact h.rng k hk
  ·obtain ⟨d,rfl⟩:∃ d,j=i+d+1:=⟨j-i-1,by omega⟩
   have:=steps_lt (fun k=>(bk B k).a) B.length h.rise d i hj
   rwa [bk_get hi,bk_get hj] at this
 ·rintro ⟨h1,h2⟩
  rw [List.pairwise_iff_getElem] at h2
  refine ⟨fun k hk=>?_,fun k hk=>?_⟩
  ·rw [bk_get hk];exact h1 _ (List.getElem_mem hk)
  ·rw [bk_get hk,bk_get (k:=k) (by omega)];exact h2 k (k+1) (by omega) hk (by omega)
theorem wrongB_iff (B:List Bk) {st:Int} (h0:st≠0):(wrongB B st).1=0↔B.length≤500∧(∀ b∈B,inRB b st=true)∧B.Pairwise (fun x y=>x.a<y.a):=by
 rw [← rb_iff]
 constructor
 ·intro h;exact (rb_of h).2
 ·rintro ⟨h5,h⟩;rw [wrongB_of h0 h5 h]
theorem tim_of {l:List (Int×Int)} (h1:∀ x∈l,0≤x.1∧x.1≤1000000) (h2:l.Pairwise (fun x y=>x.1<y.1)):Tim l:=by
 refine ⟨h1,?_⟩
 rintro r x y ⟨q,rfl⟩
 rw [List.append_assoc,List.append_assoc,List.pairwise_append] at h2
 have:=h2.2.1
 simp at this
 exact this.1.1
theorem put_mem (X:List Bk) (A:Int) (s:Sm):∀ b∈put X A s,b.a=A∨b∈X:=by
 intro b hb
 rcases put_cases X A with ho | ⟨R,q,rfl⟩
 ·rw [put_off ho] at hb
  simp at hb
  rcases hb with h | rfl
  ·exact .inr h
  ·exact .inl rfl
 ·rw [put_same] at hb
  simp at hb
  rcases hb with h | rfl
  ·exact .inr (by simp [h])
  ·exact .inl rfl
theorem up_mem (st:Int):∀ l:List (Int×Int),∀ b∈up l st,∃ x∈l,b.a=beg x.1 st:=by
 refine snoc_ind ?_ ?_
 ·intro b hb;simp [up] at hb
 ·intro l x ih b hb
  rw [up_snoc] at hb
  rcases put_mem _ _ _ b hb with h | h
  ·exact ⟨x,by simp,h⟩
  ·obtain ⟨y,hy,e⟩:=ih b h
   exact ⟨y,by simp [hy],e⟩
theorem great_mem:∀ B:List Bk,∀ b∈great B,∃ x∈B,b.a=beg x.a 60:=by
 refine snoc_ind ?_ ?_
 ·intro b hb;simp [great] at hb
 ·intro l x ih b hb
  rw [great_snoc] at hb
  rcases put_mem _ _ _ b hb with h | h
  ·exact ⟨x,by simp,h⟩
  ·obtain ⟨y,hy,e⟩:=ih b h
   exact ⟨y,by simp [hy],e⟩
theorem great_rb:∀ B:List Bk,RB B 10→RB (great B) 60∧∀ r x,B=r++[x]→∃ R q,great B=R++[⟨beg x.a 60,q⟩]∧1≤q.c∧q.c≤x.a-beg x.a 60+10:=by
 refine snoc_ind ?_ ?_
 ·intro _
  exact ⟨RB.nil 60,fun r x e=>by simp at e⟩
 ·intro l x ih h
  obtain ⟨h1,h2,h3⟩:=h.head
  have h2':=inRB_get h2
  obtain ⟨i1,i2⟩:=ih h1
  have hbeg:0≤beg x.a 60∧beg x.a 60≤1000000∧beg x.a 60%60=0∧0≤x.a-beg x.a 60∧x.a-beg x.a 60+10≤60:=by
   unfold beg;omega
  rw [great_snoc]
  have key:∃ R q,put (great l) (beg x.a 60) x.s=R++[⟨beg x.a 60,q⟩]∧1≤q.c∧q.c≤x.a-beg x.a 60+10∧RB R 60∧∀ R' c,R=R'++[c]→c.a<beg x.a 60:=by
   rcases put_cases (great l) (beg x.a 60) with ho | ⟨R,q,e⟩
   ·refine ⟨_,_,put_off ho _,by omega,by omega,i1,fun R' c e=>?_⟩
    rcases snoc_or l with rfl | ⟨r,y,rfl⟩
    ·simp [great] at e
    ·obtain ⟨R2,q2,e2,_,_⟩:=i2 r y rfl
     rw [e2] at e
     have hc:=(List.append_inj' e rfl).2
     simp at hc
     subst hc
     have hy:=h3 r y rfl
     have hne:=ho _ _ e2
     simp only at hne ⊢
     unfold beg at hne ⊢
     omega
   ·rcases snoc_or l with rfl | ⟨r,y,rfl⟩
    ·simp [great] at e
    ·obtain ⟨R2,q2,e2,c1,c2⟩:=i2 r y rfl
     rw [e2] at e
     have hc:=(List.append_inj' e rfl)
     obtain ⟨hR,hc⟩:=hc
     simp at hc
     obtain ⟨ha,rfl⟩:=hc
     subst hR
     have hy:=h3 r y rfl
     have hy2:=inRB_get h1.head.2.1
     rw [e2] at i1
     rw [e2,ha,put_same]
     obtain ⟨j1,j2,j3⟩:=i1.head
     simp only at j3
     have hj:(join q2 x.s).c=q2.c+x.s.c:=join_c (by omega) (by omega) (by unfold beg at c2;omega)
     rw [ha] at c2 j3
     exact ⟨R2,_,rfl,by omega,by omega,j1,j3⟩
  obtain ⟨R,q,e,k1,k2,k3,k4⟩:=key
  refine ⟨?_,fun r y e'=>?_⟩
  ·rw [e]
   refine k3.snoc ?_ k4
   simp only [inRB,decide_eq_true_eq]
   omega
  ·have:=(List.append_inj' e' rfl).2
   simp at this
   subst this
   exact ⟨R,q,e,k1,k2⟩
structure SR (s:Shf):Prop where
 se:Go.GrainU.wrongS s.se=0
 rlen:s.ra.length≤500
 rin:∀ x∈s.ra,inR x.1 x.2=true
 rpw:s.ra.Pairwise (fun x y=>x.1<y.1)
 flen:s.fi.length≤500
 fin:∀ b∈s.fi,inRB b 10=true
 fpw:s.fi.Pairwise (fun x y=>x.a<y.a)
 clen:s.co.length≤500
 cin:∀ b∈s.co,inRB b 60=true
 cpw:s.co.Pairwise (fun x y=>x.a<y.a)
 fsp:s.ff%10=0∧s.ft%10=0∧0≤s.ff∧s.ff≤s.ft∧s.ft≤1000000
 csp:s.cf%60=0∧s.ct%60=0∧0≤s.cf∧s.cf≤s.ct∧s.ct≤1000000
 bd:0≤s.rf∧s.rf≤s.ft∧s.ff≤s.ct∧s.ct≤s.ft
 rw':∀ x∈s.ra,s.rf≤x.1
 fw:∀ b∈s.fi,s.ff≤b.a∧b.a<s.ft
 cw:∀ b∈s.co,s.cf≤b.a∧b.a<s.ct
theorem sr_iff (s:Shf):swrong s=0↔SR s:=by
 constructor
 ·intro h
  unfold swrong at h
  by_cases h1:Go.GrainU.wrongS s.se=0
  ·by_cases h2:(wrong s.ra).1=0
   ·by_cases h3:(wrongB s.fi 10).1=0
    ·by_cases h4:(wrongB s.co 60).1=0
     ·rw [if_neg (by simp [h1]),if_neg (by simp [h2]),if_neg (by simp [h3]),if_neg (by simp [h4])] at h
      by_cases h5:(bfit s && efit s)=true
      ·obtain ⟨a1,a2,a3⟩:=(right_iff _).1 h2
       obtain ⟨b1,b2,b3⟩:=(wrongB_iff _ (by decide)).1 h3
       obtain ⟨c1,c2,c3⟩:=(wrongB_iff _ (by decide)).1 h4
       simp [bfit,efit,span,within] at h5
       obtain ⟨⟨d1,d2,d3⟩,d4,d5,d6⟩:=h5
       exact ⟨h1,a1,a2,a3,b1,b2,b3,c1,c2,c3,d1,d2,d3,fun x hx=>d4 x.1 x.2 hx,d5,d6⟩
      ·rw [if_neg h5] at h;exact absurd h (by decide)
     ·rw [if_neg (by simp [h1]),if_neg (by simp [h2]),if_neg (by simp [h3]),if_pos h4] at h;exact absurd h h4
    ·rw [if_neg (by simp [h1]),if_neg (by simp [h2]),if_pos h3] at h;exact absurd h h3
   ·rw [if_neg (by simp [h1]),if_pos h2] at h;exact absurd h h2
  ·rw [if_pos h1] at h;exact absurd h h1
 ·rintro ⟨h1,a1,a2,a3,b1,b2,b3,c1,c2,c3,d1,d2,d3,d4,d5,d6⟩
  unfold swrong
  rw [if_neg (by simp [h1]),if_neg (by simp [(right_iff _).2 ⟨a1,a2,a3⟩]),if_neg (by simp [(wrongB_iff _ (by decide)).2 ⟨b1,b2,b3⟩]),if_neg (by simp [(wrongB_iff _ (by decide)).2 ⟨c1,c2,c3⟩]),if_pos]
  simp [bfit,efit,span,within]
  exact ⟨⟨d1,d2,d3⟩,fun a b h=>d4 _ h,d5,d6⟩
def Fwd (s t:Shf):Prop:=s.rf≤t.rf∧s.ff≤t.ff∧s.ft≤t.ft∧s.cf≤t.cf∧s.ct≤t.ct
theorem sapp_right {s:Shf} (h:SR s) {t v:Int} (h':(sapp s t v).2=0):SR (sapp s t v).1∧Fwd s (sapp s t v).1:=by
 unfold sapp at *
 rw [if_neg (by simp [(sr_iff s).2 h])] at *
 by_cases h1:inR t v=false
 ·rw [if_pos h1] at h';exact absurd h' (by decide)
 ·rw [if_neg h1] at *
  by_cases h2:late s t=true
  ·rw [if_pos h2] at h';exact absurd h' (by decide)
  ·rw [if_neg h2] at *
   by_cases h3:500≤s.ra.length
   ·rw [if_pos h3] at h';exact absurd h' (by decide)
   ·rw [if_neg h3] at *
    have hin:inR t v=true:=by simpa using h1
    simp only [late,Bool.or_eq_true,not_or,decide_eq_true_eq] at h2
    refine ⟨⟨h.se,by simp;omega,?_,?_,h.flen,h.fin,h.fpw,h.clen,h.cin,h.cpw,h.fsp,h.csp,h.bd,?_,h.fw,h.cw⟩,?_⟩
    ·intro x hx
     simp at hx
     rcases hx with hx | rfl
     ·exact h.rin x hx
     ·exact hin
    ·show (s.ra++[(t,v)]).Pairwise _
     rw [List.pairwise_append]
     refine ⟨h.rpw,by simp,fun x hx y hy=>?_⟩
     simp at hy
     subst hy
     rcases snoc_or s.ra with e | ⟨r,y,e⟩
     ·rw [e] at hx;simp at hx
     ·have h22:=h2.2
      rw [e] at h22
      simp at h22
      rw [e] at hx
      have hp:=h.rpw
      rw [e,List.pairwise_append] at hp
      simp at hx
      rcases hx with hx | rfl
      ·have:=hp.2.2 x hx y (by simp)
       simp only;omega
      ·exact h22
    ·intro x hx
     simp at hx
     rcases hx with hx | rfl
     ·exact h.rw' x hx
     ·have:=h.bd;simp only;omega
    ·simp [Fwd]
theorem beg_bd {t st:Int} (hst:st=10∨st=60) (ht:0≤t):0≤beg t st∧beg t st≤t∧beg t st%st=0∧t<beg t st+st:=by
 unfold beg;rcases hst with e | e <;> subst e <;> omega
theorem beg_ge {t st f:Int} (hst:st=10∨st=60) (hf:f%st=0) (h:f≤t):f≤beg t st:=by
 unfold beg;rcases hst with e | e <;> subst e <;> omega
theorem sroll_right {s:Shf} (h:SR s) {tq:Int} (h':(sroll s tq).2=0):SR (sroll s tq).1∧Fwd s (sroll s tq).1:=by
 unfold sroll at *
 by_cases h0:wrongAt s tq=0
 ·rw [if_neg (by simp [h0])] at *
  by_cases h1:500<(nfi s tq).length
  ·rw [if_pos h1] at h';exact absurd h' (by decide)
  ·rw [if_neg h1] at *
   by_cases h2:500<(nco s tq).length
   ·rw [if_pos h2] at h';exact absurd h' (by decide)
   ·rw [if_neg h2] at *
    have hto:0≤tq∧tq≤1000000:=by
     unfold wrongAt at h0
     rw [if_neg (by simp [(sr_iff s).2 h])] at h0
     by_cases e:tq<0∨1000000<tq
     ·rw [if_pos e] at h0;exact absurd h0 (by decide)
     ·omega
    obtain ⟨g1,g2,g3,g4⟩:=beg_bd (.inl rfl) hto.1
    have hfs:=h.fsp
    have hcs:=h.csp
    have hbd:=h.bd
    have hnft:s.ft≤nft s tq∧nft s tq%10=0∧nft s tq≤1000000:=by unfold nft;omega
    obtain ⟨k1,k2,k3,k4⟩:=beg_bd (t:=nft s tq) (st:=60) (.inr rfl) (by omega)
    have hnct:s.ct≤nct s tq∧nct s tq%60=0∧nct s tq≤nft s tq:=by unfold nct;omega
    have htim:Tim (win s.ra s.ft (nft s tq)):=by
     refine tim_of (fun x hx=>?_) (h.rpw.filter _)
     have:=h.rin x (List.mem_filter.1 hx).1
     simp [inR] at this
     omega
    have hup:=(rb_iff _ _).1 (up_rb (.inl rfl) _ htim (by have:=win_len s.ra s.ft (nft s tq);have:=h.rlen;omega)).1
    have hupm:∀ b∈up (win s.ra s.ft (nft s tq)) 10,s.ft≤b.a∧b.a<nft s tq:=by
     intro b hb
     obtain ⟨x,hx,e⟩:=up_mem 10 _ b hb
     simp [win] at hx
     rw [e]
     have:=beg_ge (st:=10) (f:=s.ft) (t:=x.1) (.inl rfl) hfs.2.1 hx.2.1
     have:=beg_bd (st:=10) (t:=x.1) (.inl rfl) (by omega)
     omega
    have hnfi:(∀ b∈nfi s tq,inRB b 10=true)∧(nfi s tq).Pairwise (fun x y=>x.a<y.a)∧∀ b∈nfi s tq,s.ff≤b.a∧b.a<nft s tq:=by
     unfold nfi
     refine ⟨fun b hb=>?_,?_,fun b hb=>?_⟩
     ·rw [List.mem_append] at hb
      rcases hb with hb | hb
      ·exact h.fin b hb
      ·exact hup.1 b hb
     ·rw [List.pairwise_append]
      refine ⟨h.fpw,hup.2,fun x hx y hy=>?_⟩
      have:=h.fw x hx
      have:=hupm y hy
      omega
     ·rw [List.mem_append] at hb
      rcases hb with hb | hb
      ·have:=h.fw b hb;omega
      ·have:=hupm b hb;omega
    have hgr:=(rb_iff _ _).1 (great_rb (winB (nfi s tq) s.ct (nct s tq)) ((rb_iff _ _).2 ⟨fun b hb=>hnfi.1 b (List.mem_filter.1 hb).1,hnfi.2.1.filter _⟩)).1
    have hgrm:∀ b∈great (winB (nfi s tq) s.ct (nct s tq)),s.ct≤b.a∧b.a<nct s tq:=by
     intro b hb
     obtain ⟨x,hx,e⟩:=great_mem _ b hb
     simp [winB] at hx
     rw [e]
     have:=beg_ge (st:=60) (f:=s.ct) (t:=x.a) (.inr rfl) hcs.2.1 hx.2.1
     have:=beg_bd (st:=60) (t:=x.a) (.inr rfl) (by omega)
     omega
    refine ⟨⟨h.se,h.rlen,h.rin,h.rpw,Nat.le_of_not_lt h1,hnfi.1,hnfi.2.1,Nat.le_of_not_lt h2,?_,?_,?_,?_,?_,h.rw',hnfi.2.2,?_⟩,?_⟩
    ·intro b hb
     simp only [nco,List.mem_append] at hb
     rcases hb with hb | hb
     ·exact h.cin b hb
     ·exact hgr.1 b hb
    ·simp only [nco]
     rw [List.pairwise_append]
     refine ⟨h.cpw,hgr.2,fun x hx y hy=>?_⟩
     have:=h.cw x hx
     have:=hgrm y hy
     omega
    ·simp only;omega
    ·simp only;omega
    ·simp only;omega
    ·intro b hb
     simp only [nco,List.mem_append] at hb
     rcases hb with hb | hb
     ·have:=h.cw b hb;simp only;omega
     ·have:=hgrm b hb;simp only;omega
    ·simp only [Fwd];omega
 ·rw [if_pos h0] at h';exact absurd h' h0
theorem wrongAt_zero {s:Shf} {tq:Int} (h:wrongAt s tq=0):SR s∧0≤tq∧tq≤1000000:=by
 unfold wrongAt at h
 by_cases h1:swrong s=0
 ·rw [if_neg (by simp [h1])] at h
  by_cases e:tq<0∨1000000<tq
  ·rw [if_pos e] at h;exact absurd h (by decide)
  ·exact ⟨(sr_iff s).1 h1,by omega,by omega⟩
 ·rw [if_pos h1] at h;exact absurd h h1
theorem sforg_right {s:Shf} (h:SR s) {tier tq:Int} (h':(sforg s tier tq).2=0):SR (sforg s tier tq).1∧Fwd s (sforg s tier tq).1:=by
 unfold sforg at *
 by_cases h0:wrongAt s tq=0
 ·rw [if_neg (by simp [h0])] at *
  obtain ⟨_,t0,t1⟩:=wrongAt_zero h0
  have hfs:=h.fsp
  have hcs:=h.csp
  have hbd:=h.bd
  by_cases h1:tier=0
  ·rw [if_pos h1] at *
   have hn:s.rf≤nrf s tq∧nrf s tq≤s.ft:=by unfold nrf;omega
   refine ⟨⟨h.se,?_,?_,h.rpw.filter _,h.flen,h.fin,h.fpw,h.clen,h.cin,h.cpw,h.fsp,h.csp,?_,?_,h.fw,h.cw⟩,?_⟩
   ·exact Nat.le_trans (List.length_filter_le _ _) h.rlen
   ·exact fun x hx=>h.rin x (List.mem_filter.1 hx).1
   ·simp only;omega
   ·intro x hx;simp at hx;exact hx.2
   ·simp only [Fwd];omega
  ·rw [if_neg h1] at *
   by_cases h2:tier=1
   ·rw [if_pos h2] at *
    obtain ⟨g1,g2,g3,g4⟩:=beg_bd (t:=min tq s.ct) (st:=10) (.inl rfl) (by omega)
    have hn:s.ff≤nff s tq∧nff s tq≤s.ct∧nff s tq%10=0:=by unfold nff;omega
    refine ⟨⟨h.se,h.rlen,h.rin,h.rpw,?_,?_,h.fpw.filter _,h.clen,h.cin,h.cpw,?_,h.csp,?_,h.rw',?_,h.cw⟩,?_⟩
    ·exact Nat.le_trans (List.length_filter_le _ _) h.flen
    ·exact fun x hx=>h.fin x (List.mem_filter.1 hx).1
    ·simp only;omega
    ·simp only;omega
    ·intro b hb;simp at hb;have:=h.fw b hb.1;simp only;omega
    ·simp only [Fwd];omega
   ·rw [if_neg h2] at *
    by_cases h3:tier=2
    ·rw [if_pos h3] at *
     obtain ⟨g1,g2,g3,g4⟩:=beg_bd (t:=min tq s.ct) (st:=60) (.inr rfl) (by omega)
     have hn:s.cf≤ncf s tq∧ncf s tq≤s.ct∧ncf s tq%60=0:=by unfold ncf;omega
     refine ⟨⟨h.se,h.rlen,h.rin,h.rpw,h.flen,h.fin,h.fpw,?_,?_,h.cpw.filter _,h.fsp,?_,h.bd,h.rw',h.fw,?_⟩,?_⟩
     ·exact Nat.le_trans (List.length_filter_le _ _) h.clen
     ·exact fun x hx=>h.cin x (List.mem_filter.1 hx).1
     ·simp only;omega
     ·intro b hb;simp at hb;have:=h.cw b hb.1;simp only;omega
     ·simp only [Fwd];omega
    ·rw [if_neg h3] at h';exact absurd h' (by decide)
 ·rw [if_pos h0] at h';exact absurd h' h0
theorem put_append {X Y:List Bk} {A:Int} (h:Y=[]→Off X A) (s:Sm):put (X++Y) A s=X++put Y A s:=by
 rcases snoc_or Y with rfl | ⟨R,b,rfl⟩
 ·rw [List.append_nil,put_off (h rfl)];rfl
 ·by_cases e:b.a=A
  ·subst e
   obtain ⟨a,q⟩:=b
   rw [← List.append_assoc,put_same,put_same,List.append_assoc]
  ·rw [← List.append_assoc,put_other _ _ _ _ e,put_other _ _ _ _ e];simp
theorem up_append {st m:Int} (hst:st=10∨st=60) (hm:m%st=0) {a:List (Int×Int)} (ha:∀ x∈a,x.1<m):∀ b:List (Int×Int),(∀ x∈b,m≤x.1)→up (a++b) st=up a st++up b st:=by
 refine snoc_ind ?_ ?_
 ·intro _;simp [up]
 ·intro b y ih hb
  have hy:m≤y.1:=hb y (by simp)
  rw [← List.append_assoc,up_snoc,up_snoc,ih (fun x hx=>hb x (by simp [hx]))]
  refine put_append (fun _ R c e=>?_) _
  obtain ⟨x,hx,ex⟩:=up_mem st a c (by rw [e];simp)
  have:=ha x hx
  have:=beg_ge hst hm hy
  rw [ex]
  unfold beg at *
  rcases hst with e | e <;> subst e <;> omega
structure Took (A:List (Int×Int)):Prop where
 rin:∀ x∈A,inR x.1 x.2=true
 pw:A.Pairwise (fun x y=>x.1<y.1)
theorem pigeon (hi:Int):∀ (l:List (Int×Int)) (lo:Int),lo≤hi→(∀ x∈l,lo≤x.1∧x.1<hi)→l.Pairwise (fun x y=>x.1<y.1)→(l.length:Int)≤hi-lo:=by
 intro l
 induction l with
 | nil=>intro lo h _ _;simp;omega
 | cons x r ih =>
  intro lo h h1 h2
  rw [List.pairwise_cons] at h2
  have hx:=h1 x (by simp)
  have:=ih (x.1+1) (by omega) (fun y hy=>⟨by have:=h2.1 y hy;omega,(h1 y (by simp [hy])).2⟩) h2.2
  simp
  omega
theorem Took.len {A:List (Int×Int)} (h:Took A):A.length≤1000001:=by
 have:=pigeon 1000001 A 0 (by decide) (fun x hx=>by have:=h.rin x hx;simp [inR] at this;omega) h.pw
 omega
theorem Took.win_len {A:List (Int×Int)} (h:Took A) {f t:Int} (ht:t≤1000000) (h0:0≤f) (hf:f≤t):(win A f t).length≤1000000:=by
 have:=pigeon t (win A f t) f hf (fun x hx=>by simp [win] at hx;omega) (h.pw.filter _)
 omega
theorem win_split {f m t:Int} (h1:f≤m) (h2:m≤t):∀ l:List (Int×Int),l.Pairwise (fun x y=>x.1<y.1)→win l f t=win l f m++win l m t:=by
 intro l
 induction l with
 | nil=>intro _;rfl
 | cons x r ih =>
  intro h
  rw [List.pairwise_cons] at h
  have ih:=ih h.2
  simp only [win] at ih ⊢
  by_cases c1:f≤x.1∧x.1<m
  ·rw [List.filter_cons_of_pos (by simp;omega),List.filter_cons_of_pos (p:=fun x:Int×Int=>decide (f≤x.1∧x.1<m)) (by simp;omega),List.filter_cons_of_neg (p:=fun x:Int×Int=>decide (m≤x.1∧x.1<t)) (by simp;omega),ih];rfl
  ·by_cases c2:m≤x.1∧x.1<t
   ·have hn:List.filter (fun x=>decide (f≤x.1∧x.1<m)) r=[]:=by
     rw [List.filter_eq_nil_iff]
     intro y hy
     have:=h.1 y hy
     simp;omega
    rw [hn] at ih
    rw [List.filter_cons_of_pos (by simp;omega),List.filter_cons_of_neg (p:=fun x:Int×Int=>decide (f≤x.1∧x.1<m)) (by simp;omega),List.filter_cons_of_pos (p:=fun x:Int×Int=>decide (m≤x.1∧x.1<t)) (by simp;omega),hn,ih];rfl
   ·rw [List.filter_cons_of_neg (by simp;omega),List.filter_cons_of_neg (p:=fun x:Int×Int=>decide (f≤x.1∧x.1<m)) (by simp;omega),List.filter_cons_of_neg (p:=fun x:Int×Int=>decide (m≤x.1∧x.1<t)) (by simp;omega),ih]
theorem win_in {l:List (Int×Int)} {f t:Int} {x:Int×Int} (h:x∈win l f t):f≤x.1∧x.1<t:=by simp [win] at h;exact h.2
theorem up_split {st f m t:Int} (hst:st=10∨st=60) (hm:m%st=0) (h1:f≤m) (h2:m≤t) {A:List (Int×Int)} (h:Took A):up (win A f t) st=up (win A f m) st++up (win A m t) st:=by
 rw [win_split h1 h2 A h.pw]
 exact up_append hst hm (fun x hx=>(win_in hx).2) _ (fun x hx=>(win_in hx).1)
theorem up_in {st f t:Int} (hst:st=10∨st=60) (hf:f%st=0) {A:List (Int×Int)} (h:Took A):∀ b∈up (win A f t) st,f≤b.a∧b.a<t:=by
 intro b hb
 obtain ⟨x,hx,e⟩:=up_mem st _ b hb
 have:=win_in hx
 have h3:=h.rin x (List.mem_filter.1 hx).1
 simp [inR] at h3
 have:=beg_ge hst hf this.1
 have:=beg_bd hst h3.1
 rw [e]
 omega
theorem filter_none {α:Type} {p:α→Bool} {l:List α} (h:∀ x∈l,p x=false):l.filter p=[]:=by
 rw [List.filter_eq_nil_iff];intro x hx;rw [h x hx];decide
theorem filter_all {α:Type} {p:α→Bool} {l:List α} (h:∀ x∈l,p x=true):l.filter p=l:=List.filter_eq_self.2 h
theorem up_from {st f m t:Int} (hst:st=10∨st=60) (hf:f%st=0) (hm:m%st=0) (h1:f≤m) (h2:m≤t) {A:List (Int×Int)} (h:Took A) :
  (up (win A f t) st).filter (fun b=>decide (m≤b.a))=up (win A m t) st:=by
 rw [up_split hst hm h1 h2 h,List.filter_append,filter_none (fun b hb=>by have:=up_in hst hf h b hb;simp;omega),filter_all (fun b hb=>by have:=up_in hst hm h b hb;simp;omega)]
 rfl
theorem up_winB {f m n t:Int} (hf:f%10=0) (hm:m%10=0) (hn:n%10=0) (h1:f≤m) (h2:m≤n) (h3:n≤t) {A:List (Int×Int)} (h:Took A) :
  winB (up (win A f t) 10) m n=up (win A m n) 10:=by
 rw [up_split (.inl rfl) hm h1 (by omega) h,up_split (f:=m) (.inl rfl) hn h2 h3 h]
 simp only [winB,List.filter_append]
 rw [filter_none (fun b hb=>by have:=up_in (.inl rfl) hf h b hb;simp;omega),filter_all (fun b hb=>by have:=up_in (.inl rfl) hm h b hb;simp;omega),filter_none (fun b hb=>by have:=up_in (.inl rfl) hn h b hb;simp;omega)]
 simp
structure Keeps (s:Shf) (A:List (Int×Int)):Prop where
 sr:SR s
 took:Took A
 ra:s.ra=A.filter fun x=>decide (s.rf≤x.1)
 fi:s.fi=up (win A s.ff s.ft) 10
 co:s.co=up (win A s.cf s.ct) 60
theorem keeps_new {se:List (ByteArray×ByteArray)} (h:Go.GrainU.wrongS se=0):Keeps { szero with se:=se } []:=by
 refine ⟨⟨h,?_,?_,?_,?_,?_,?_,?_,?_,?_,?_,?_,?_,?_,?_,?_⟩,⟨?_,?_⟩,rfl,rfl,rfl⟩ <;> simp [szero]
theorem win_ra {A:List (Int×Int)} {r f t:Int} (h:r≤f):win (A.filter fun x=>decide (r≤x.1)) f t=win A f t:=by
 simp only [win,List.filter_filter]
 congr 1
 funext x
 simp
 omega
theorem keeps_app {s:Shf} {A:List (Int×Int)} (h:Keeps s A) {t v:Int} (h':(sapp s t v).2=0):Keeps (sapp s t v).1 (A++[(t,v)]):=by
 have hr:=(sapp_right h.sr h').1
 unfold sapp at *
 rw [if_neg (by simp [(sr_iff s).2 h.sr])] at *
 by_cases h1:inR t v=false
 ·rw [if_pos h1] at h';exact absurd h' (by decide)
 ·rw [if_neg h1] at *
  by_cases h2:late s t=true
  ·rw [if_pos h2] at h';exact absurd h' (by decide)
  ·rw [if_neg h2] at *
   by_cases h3:500≤s.ra.length
   ·rw [if_pos h3] at h';exact absurd h' (by decide)
   ·rw [if_neg h3] at *
    have hft:s.ft≤t:=by simp [late] at h2;exact h2.1
    have hbd:=h.sr.bd
    have hp:=hr.rpw
    simp only at hp
    rw [List.pairwise_append] at hp
    refine ⟨hr,⟨?_,?_⟩,?_,?_,?_⟩
    ·intro x hx
     simp at hx
     rcases hx with hx | rfl
     ·exact h.took.rin x hx
     ·simpa using h1
    ·rw [List.pairwise_append]
     refine ⟨h.took.pw,by simp,fun x hx y hy=>?_⟩
     simp at hy
     subst hy
     by_cases e:s.rf≤x.1
     ·exact hp.2.2 x (by rw [h.ra];simp [hx,e]) (t,v) (by simp)
     ·simp only;omega
    ·show s.ra++[(t,v)]=(A++[(t,v)]).filter fun x=>decide (s.rf≤x.1)
     rw [List.filter_append,← h.ra,filter_all (l:=[(t,v)]) (fun x hx=>by simp at hx;subst hx;simp;omega)]
    ·show s.fi=up (win (A++[(t,v)]) s.ff s.ft) 10
     rw [win_snoc,if_neg (by simp only;omega)];exact h.fi
    ·show s.co=up (win (A++[(t,v)]) s.cf s.ct) 60
     rw [win_snoc,if_neg (by simp only;omega)];exact h.co
theorem keeps_roll {s:Shf} {A:List (Int×Int)} (h:Keeps s A) {tq:Int} (h':(sroll s tq).2=0):Keeps (sroll s tq).1 A:=by
 have hr:=sroll_right h.sr h'
 have h0:wrongAt s tq=0:=by
  by_cases e:wrongAt s tq=0
  ·exact e
  ·unfold sroll at h';rw [if_pos e] at h';exact absurd h' e
 unfold sroll at *
 rw [if_neg (by simp [h0])] at *
 by_cases h1:500<(nfi s tq).length
 ·rw [if_pos h1] at h';exact absurd h' (by decide)
 ·rw [if_neg h1] at *
  by_cases h2:500<(nco s tq).length
  ·rw [if_pos h2] at h';exact absurd h' (by decide)
  ·rw [if_neg h2] at *
   obtain ⟨hr,hw⟩:=hr
   have f1:=h.sr.fsp
   have f2:=h.sr.csp
   have f3:=h.sr.bd
   have g1:=hr.fsp
   have g2:=hr.csp
   have g3:=hr.bd
   simp only [Fwd] at g1 g2 g3 hw
   have e1:nfi s tq=up (win A s.ff (nft s tq)) 10:=by
    unfold nfi
    rw [h.ra,win_ra f3.2.1,h.fi,up_split (.inl rfl) f1.2.1 f1.2.2.2.1 hw.2.2.1 h.took]
   refine ⟨hr,h.took,h.ra,e1,?_⟩
   show nco s tq=up (win A s.cf (nct s tq)) 60
   unfold nco
   rw [e1,up_winB f1.1 (by omega) (by omega) f3.2.2.1 hw.2.2.2.2 g3.2.2.2 h.took,great_up _ (h.took.win_len g2.2.2.2.2 (by omega) hw.2.2.2.2),h.co,← up_split (.inr rfl) f2.2.1 f2.2.2.2.1 hw.2.2.2.2 h.took]
theorem keeps_forg {s:Shf} {A:List (Int×Int)} (h:Keeps s A) {tier tq:Int} (h':(sforg s tier tq).2=0):Keeps (sforg s tier tq).1 A:=by
 have hr:=sforg_right h.sr h'
 have h0:wrongAt s tq=0:=by
  by_cases e:wrongAt s tq=0
  ·exact e
  ·unfold sforg at h';rw [if_pos e] at h';exact absurd h' e
 unfold sforg at *
 rw [if_neg (by simp [h0])] at *
 obtain ⟨hr,hw⟩:=hr
 have f1:=h.sr.fsp
 have f2:=h.sr.csp
 have f3:=h.sr.bd
 by_cases k0:tier=0
 ·rw [if_pos k0] at *
  refine ⟨hr,h.took,?_,h.fi,h.co⟩
  simp only [Fwd] at hw
  show (s.ra.filter fun x=>decide (nrf s tq≤x.1))=A.filter fun x=>decide (nrf s tq≤x.1)
  rw [h.ra,List.filter_filter]
  congr 1
  funext x
  simp
  omega
 ·rw [if_neg k0] at *
  by_cases k1:tier=1
  ·rw [if_pos k1] at *
   have g1:=hr.fsp
   simp only [Fwd] at hw g1
   refine ⟨hr,h.took,h.ra,?_,h.co⟩
   show (s.fi.filter fun x=>decide (nff s tq≤x.a))=up (win A (nff s tq) s.ft) 10
   rw [h.fi]
   exact up_from (.inl rfl) f1.1 g1.1 hw.2.1 g1.2.2.2.1 h.took
  ·rw [if_neg k1] at *
   by_cases k2:tier=2
   ·rw [if_pos k2] at *
    have g1:=hr.csp
    simp only [Fwd] at hw g1
    refine ⟨hr,h.took,h.ra,h.fi,?_⟩
    show (s.co.filter fun x=>decide (ncf s tq≤x.a))=up (win A (ncf s tq) s.ct) 60
    rw [h.co]
    exact up_from (.inr rfl) f2.1 g1.1 hw.2.2.2.1 g1.2.2.2.1 h.took
   ·rw [if_neg k2] at h';exact absurd h' (by decide)
structure Pt where
 k:Int
 f:Int
 t:Int
def pt (l:List Pt) (i:Nat):Pt:=l.getD i ⟨0,0,0⟩
def may (s:Shf) (p:Pt):Bool :=
 if p.t≤p.f then false
 else if p.k=0 then decide (s.rf≤p.f∧p.t≤1000001)
 else if p.k=1 then decide (p.f%10=0∧p.t%10=0∧s.ff≤p.f∧p.t≤s.ft)
 else if p.k=2 then decide (p.f%60=0∧p.t%60=0∧s.cf≤p.f∧p.t≤s.ct)
 else false
def okp (s:Shf) (l:List Pt) (i:Nat):Bool:=may s (pt l i) && (decide (i=0) || decide ((pt l (i-1)).t=(pt l i).f))
def fol (s:Shf) (l:List Pt):Bool:=(List.range l.length).all (okp s l)
theorem fol_iff (s:Shf) (l:List Pt):fol s l=true↔∀ i,i<l.length→okp s l i=true:=by simp [fol]
def cvr (s:Shf):List Pt→Int→Int→Bool
 | [],f,t=>decide (f=t)
 | p::r,f,t=>may s p && (decide (p.f=f) && cvr s r p.t t)
theorem pt_zero (p:Pt) (l:List Pt):pt (p::l) 0=p:=rfl
theorem pt_succ (p:Pt) (l:List Pt) (i:Nat):pt (p::l) (i+1)=pt l i:=by simp [pt]
theorem okp_succ (s:Shf) (p q:Pt) (l:List Pt) (i:Nat):okp s (p::q::l) (i+1)=if i=0 then may s q && decide (p.t=q.f) else okp s (q::l) i:=by
 cases i with
 | zero=>simp [okp,pt_succ,pt_zero]
 | succ j=>simp [okp,pt_succ]
theorem fol_one (s:Shf) (p:Pt):fol s [p]=may s p:=by simp [fol,List.range_succ,okp,pt]
theorem fol_cons (s:Shf) (p q:Pt) (l:List Pt):fol s (p::q::l)=(may s p && (decide (p.t=q.f) && fol s (q::l))):=by
 rw [Bool.eq_iff_iff]
 simp only [Bool.and_eq_true,fol_iff,decide_eq_true_eq]
 constructor
 ·intro h
  have h0:=h 0 (by simp)
  have h1:=h 1 (by simp)
  rw [okp_succ,if_pos rfl] at h1
  simp at h1
  refine ⟨by simpa [okp,pt_zero] using h0,h1.2,fun i hi=>?_⟩
  cases i with
  | zero=>simpa [okp,pt_zero] using h1.1
  | succ j =>
   have:=h (j+2) (by simp at hi ⊢;omega)
   rwa [okp_succ,if_neg (by omega)] at this
 ·rintro ⟨h0,h1,h2⟩ i hi
  cases i with
  | zero=>simpa [okp,pt_zero] using h0
  | succ j =>
   rw [okp_succ]
   by_cases e:j=0
   ·subst e
    have:=h2 0 (by simp)
    simp [okp,pt_zero] at this
    simp [this,h1]
   ·rw [if_neg e];exact h2 j (by simp at hi ⊢;omega)
theorem cvr_iff (s:Shf):∀ (l:List Pt) (f t:Int),cvr s l f t=if l.length=0 then decide (f=t) else decide ((pt l 0).f=f) && (decide ((pt l (l.length-1)).t=t) && fol s l):=by
 intro l
 induction l with
 | nil=>intro f t;simp [cvr]
 | cons p r ih =>
  intro f t
  rw [cvr,ih]
  cases r with
  | nil =>
   rw [if_pos (by rfl),if_neg (by simp),fol_one]
   show (may s p && (decide (p.f=f) && decide (p.t=t)))=(decide (p.f=f) && (decide (p.t=t) && may s p))
   cases may s p <;> cases decide (p.f=f) <;> cases decide (p.t=t) <;> rfl
  | cons q r =>
   rw [if_neg (by simp),if_neg (by simp),fol_cons,pt_zero,pt_zero]
   rw [show (p::q::r).length-1=(q::r).length-1+1 by simp,pt_succ]
   have e:decide (q.f=p.t)=decide (p.t=q.f):=by
    rw [Bool.eq_iff_iff];simp only [decide_eq_true_eq];exact ⟨Eq.symm,Eq.symm⟩
   rw [e]
   cases may s p <;> cases decide (p.f=f) <;> cases decide (p.t=q.f) <;> cases fol s (q::r) <;> simp
theorem cvr_append (s:Shf):∀ (a b:List Pt) (f m t:Int),cvr s a f m=true→cvr s b m t=true→cvr s (a++b) f t=true:=by
 intro a
 induction a with
 | nil=>intro b f m t h1 h2;simp [cvr] at h1;subst h1;exact h2
 | cons p r ih =>
  intro b f m t h1 h2
  simp [cvr] at h1
  simp [cvr,h1.1,h1.2.1,ih b _ _ _ h1.2.2 h2]
theorem cvr_snoc (s:Shf) (p:Pt):∀ (a:List Pt) (f t:Int),cvr s (a++[p]) f t=true→cvr s a f p.f=true∧may s p=true∧p.t=t:=by
 intro a
 induction a with
 | nil=>intro f t h;simp [cvr] at h;simp [cvr,h.1,h.2.1,h.2.2]
 | cons q r ih =>
  intro f t h
  simp [cvr] at h
  obtain ⟨h1,h2,h3⟩:=ih _ _ h.2.2
  simp [cvr,h.1,h.2.1,h1,h2,h3]
theorem cvr_le (s:Shf):∀ (l:List Pt) (f t:Int),cvr s l f t=true→f≤t:=by
 intro l
 induction l with
 | nil=>intro f t h;simp [cvr] at h;omega
 | cons p r ih =>
  intro f t h
  simp [cvr] at h
  have:=ih _ _ h.2.2
  have h1:=h.1
  unfold may at h1
  by_cases e:p.t≤p.f
  ·rw [if_pos e] at h1;cases h1
  ·omega
theorem cvr_fol {s:Shf} {l:List Pt} {f t:Int} (h:cvr s l f t=true):fol s l=true:=by
 rw [cvr_iff] at h
 by_cases e:l.length=0
 ·rw [List.length_eq_zero_iff] at e;subst e;rfl
 ·rw [if_neg e] at h;simp at h;exact h.2.2
def nxt (s:Shf) (a tq:Int):Pt :=
 if a+60≤tq∧may s ⟨2,a,a+60⟩=true then ⟨2,a,a+60⟩
 else if a+10≤tq∧may s ⟨1,a,a+10⟩=true then ⟨1,a,a+10⟩
 else if s.ft≤a then ⟨0,a,tq⟩
 else ⟨0,a,min tq (a-a%10+10)⟩
def putP (l:List Pt) (p:Pt):List Pt :=
 match l.getLast? with
 | some q=>if q.k=p.k then l.dropLast++[⟨q.k,q.f,p.t⟩] else l++[p]
 | none=>[p]
theorem putP_nil (p:Pt):putP [] p=[p]:=rfl
theorem putP_same (r:List Pt) (q p:Pt) (h:q.k=p.k):putP (r++[q]) p=r++[⟨q.k,q.f,p.t⟩]:=by simp [putP,h]
theorem putP_other (r:List Pt) (q p:Pt) (h:q.k≠p.k):putP (r++[q]) p=r++[q]++[p]:=by simp [putP,h]
def chs (s:Shf) (tq:Int):Nat→Int→List Pt→List Pt×Int
 | 0,_,out=>(out,0)
 | n+1,a,out=>if a<tq then (if may s (nxt s a tq)=true then chs s tq n (nxt s a tq).t (putP out (nxt s a tq)) else ([],10)) else (out,0)
def choose (s:Shf) (f t:Int):List Pt×Int :=
 if swrong s≠0 then ([],swrong s) else if f<0∨t<f∨1000000<t then ([],3) else chs s t (t-f).toNat f []
theorem chs_end {s:Shf} {tq:Int} {a:Int} (h:¬ a<tq) (n:Nat) (out:List Pt):chs s tq n a out=(out,0):=by
 cases n with
 | zero=>rfl
 | succ n=>simp [chs,h]
theorem nxt_f (s:Shf) (a tq:Int):(nxt s a tq).f=a:=by
 unfold nxt
 split
 ·rfl
 ·split
  ·rfl
  ·split <;> rfl
theorem nxt_t (s:Shf) (a tq:Int):(nxt s a tq).t≤tq:=by
 unfold nxt
 split
 ·next h=>exact h.1
 ·split
  ·next h=>exact h.1
  ·split
   ·exact Int.le_refl _
   ·exact Int.min_le_left _ _
theorem may_lt {s:Shf} {p:Pt} (h:may s p=true):p.f<p.t:=by
 unfold may at h
 by_cases e:p.t≤p.f
 ·rw [if_pos e] at h;cases h
 ·omega
theorem may_both {s:Shf} {p q:Pt} (h:may s q=true) (h':may s p=true) (e:q.t=p.f) (k:q.k=p.k):may s ⟨q.k,q.f,p.t⟩=true:=by
 have l1:=may_lt h
 have l2:=may_lt h'
 unfold may at *
 rw [if_neg (by omega)] at h h'
 rw [if_neg (by simp only;omega)]
 simp only
 rw [k] at h ⊢
 split at h <;> simp_all
 all_goals first | omega | skip
 split at h <;> simp_all
 all_goals first | omega | skip
def Alt (l:List Pt):Prop:=∀ i,0<i→i<l.length→(pt l i).k≠(pt l (i-1)).k
theorem pt_left {X Y:List Pt} {i:Nat} (h:i<X.length):pt (X++Y) i=pt X i:=by simp [pt,List.getD,List.getElem?_append_left h]
theorem pt_last (X:List Pt) (p:Pt):pt (X++[p]) X.length=p:=by simp [pt]
theorem Alt.put {l:List Pt} (h:Alt l) (p:Pt):Alt (putP l p):=by
 rcases snoc_or l with rfl | ⟨r,q,rfl⟩
 ·rw [putP_nil];intro i h0 h1;simp at h1;omega
 ·by_cases e:q.k=p.k
  ·rw [putP_same _ _ _ e]
   intro i h0 h1
   have:=h i h0 (by simp at h1 ⊢;omega)
   by_cases e1:i=r.length
   ·subst e1
    rw [pt_last] at this ⊢
    rw [pt_left (by omega)] at this ⊢
    exact this
   ·simp at h1
    rw [pt_left (by omega),pt_left (by omega)] at this ⊢
    exact this
  ·rw [putP_other _ _ _ e]
   intro i h0 h1
   by_cases e1:i=(r++[q]).length
   ·subst e1
    rw [pt_last,pt_left (by simp)]
    rw [show (r++[q]).length-1=r.length by simp,pt_last]
    exact fun c=>e c.symm
   ·have hl:i<(r++[q]).length:=by
     have h1':i<((r++[q])++[p]).length:=h1
     rw [List.length_append] at h1'
     simp only [List.length_singleton] at h1'
     omega
    rw [pt_left hl,pt_left (X:=r++[q]) (Y:=[p]) (i:=i-1) (by omega)]
    exact h i h0 hl
theorem cvr_put {s:Shf} {l:List Pt} {f:Int} {p:Pt} (h:cvr s l f p.f=true) (hp:may s p=true):cvr s (putP l p) f p.t=true:=by
 rcases snoc_or l with rfl | ⟨r,q,rfl⟩
 ·rw [putP_nil];simp [cvr] at h;simp [cvr,hp,h]
 ·obtain ⟨h1,h2,h3⟩:=cvr_snoc s q r f p.f h
  by_cases e:q.k=p.k
  ·rw [putP_same _ _ _ e]
   refine cvr_append s r _ f q.f p.t h1 ?_
   simp [cvr,may_both h2 hp h3 e]
  ·rw [putP_other _ _ _ e]
   exact cvr_append s _ [p] f p.f p.t h (by simp [cvr,hp])
theorem chs_all {s:Shf} {f tq:Int}:∀ (n:Nat) (a:Int) (out:List Pt),cvr s out f a=true→Alt out→a≤tq→(tq-a).toNat≤n →
  ((chs s tq n a out).2=0→cvr s (chs s tq n a out).1 f tq=true∧Alt (chs s tq n a out).1)∧((chs s tq n a out).2≠0→(chs s tq n a out).1=[]∧(chs s tq n a out).2=10):=by
 intro n
 induction n with
 | zero =>
  intro a out h1 h2 h3 h4
  obtain rfl:a=tq:=by omega
  rw [chs]
  exact ⟨fun _=>⟨h1,h2⟩,fun c=>absurd rfl c⟩
 | succ n ih =>
  intro a out h1 h2 h3 h4
  by_cases e:a<tq
  ·rw [chs,if_pos e]
   by_cases m:may s (nxt s a tq)=true
   ·rw [if_pos m]
    have e1:=nxt_f s a tq
    have e2:=nxt_t s a tq
    have e3:=may_lt m
    refine ih _ _ (cvr_put (by rw [e1];exact h1) m) (h2.put _) e2 (by omega)
   ·rw [if_neg m]
    exact ⟨fun c=>absurd c (by decide),fun _=>⟨rfl,rfl⟩⟩
  ·rw [chs_end e]
   obtain rfl:a=tq:=by omega
   exact ⟨fun _=>⟨h1,h2⟩,fun c=>absurd rfl c⟩
theorem choose_ok {s:Shf} {f t:Int} (h:(choose s f t).2=0):cvr s (choose s f t).1 f t=true∧Alt (choose s f t).1∧swrong s=0:=by
 unfold choose at *
 by_cases h0:swrong s=0
 ·rw [if_neg (by simp [h0])] at *
  by_cases h1:f<0∨t<f∨1000000<t
  ·rw [if_pos h1] at h;exact absurd h (by decide)
  ·rw [if_neg h1] at *
   have:=(chs_all (s:=s) (f:=f) (tq:=t) (t-f).toNat f [] (by simp [cvr]) (fun i a b=>by simp at b) (by omega) (Nat.le_refl _)).1 h
   exact ⟨this.1,this.2,h0⟩
 ·rw [if_pos h0] at h;exact absurd h h0
def psum (s:Shf) (p:Pt):Sm:=if p.k=1 then inB s.fi p.f p.t else if p.k=2 then inB s.co p.f p.t else of (win s.ra p.f p.t)
def pcost (s:Shf) (p:Pt):Nat:=if p.k=1 then (winB s.fi p.f p.t).length else if p.k=2 then (winB s.co p.f p.t).length else (win s.ra p.f p.t).length
def rdS (s:Shf) (l:List Pt):Sm:=l.foldl (fun a p=>join a (psum s p)) zero
def rdN (s:Shf) (l:List Pt):Nat:=l.foldl (fun a p=>a+pcost s p) 0
theorem rdS_snoc (s:Shf) (l:List Pt) (p:Pt):rdS s (l++[p])=join (rdS s l) (psum s p):=by simp [rdS]
theorem rdN_snoc (s:Shf) (l:List Pt) (p:Pt):rdN s (l++[p])=rdN s l+pcost s p:=by simp [rdN]
theorem take_pt {l:List Pt} {k:Nat} (h:k<l.length):l.take (k+1)=l.take k++[pt l k]:=by
 rw [List.take_add_one,List.getElem?_eq_getElem h]
 simp [pt,List.getD,List.getElem?_eq_getElem h]
def read (s:Shf) (l:List Pt):Sm×Int×Int :=
 if swrong s≠0 then (zero,0,swrong s) else if fol s l=false then (zero,0,8) else (rdS s l,(rdN s l:Int),0)
theorem win_win {A:List (Int×Int)} {a b f t:Int} (h1:a≤f) (h2:t≤b):win (win A a b) f t=win A f t:=by
 simp only [win,List.filter_filter]
 congr 1
 funext x
 simp
 omega
theorem inB_at {st:Int} (hst:st=10∨st=60) {A:List (Int×Int)} (hA:Took A) {a b f t:Int} (h0:0≤a) (hab:a≤b) (hb:b≤1000000) (hf:f%st=0) (ht:t%st=0) (h1:a≤f) (h2:t≤b):inB (up (win A a b) st) f t=of (win A f t):=by
 have e1:f=f / st*st:=by rcases hst with e | e <;> subst e <;> omega
 have e2:t=t / st*st:=by rcases hst with e | e <;> subst e <;> omega
 have:=inB_up hst (f / st) (t / st) (win A a b) (hA.win_len hb h0 hab)
 rw [← e1,← e2] at this
 rw [this,win_win h1 h2]
theorem may_cases {s:Shf} {p:Pt} (h:may s p=true):p.k=0∧s.rf≤p.f∨p.k=1∧p.f%10=0∧p.t%10=0∧s.ff≤p.f∧p.t≤s.ft∨p.k=2∧p.f%60=0∧p.t%60=0∧s.cf≤p.f∧p.t≤s.ct:=by
 have hl:=may_lt h
 unfold may at h
 rw [if_neg (by omega)] at h
 by_cases k0:p.k=0
 ·rw [if_pos k0] at h;simp at h;exact .inl ⟨k0,h.1⟩
 ·rw [if_neg k0] at h
  by_cases k1:p.k=1
  ·rw [if_pos k1] at h;simp at h;exact .inr (.inl ⟨k1,h⟩)
  ·rw [if_neg k1] at h
   by_cases k2:p.k=2
   ·rw [if_pos k2] at h;simp at h;exact .inr (.inr ⟨k2,h⟩)
   ·rw [if_neg k2] at h;cases h
theorem psum_exact {s:Shf} {A:List (Int×Int)} (h:Keeps s A) {p:Pt} (m:may s p=true):psum s p=of (win A p.f p.t):=by
 have f1:=h.sr.fsp
 have f2:=h.sr.csp
 unfold psum
 rcases may_cases m with ⟨k,h1⟩ | ⟨k,h1,h2,h3,h4⟩ | ⟨k,h1,h2,h3,h4⟩
 ·rw [if_neg (by omega),if_neg (by omega),h.ra,win_ra h1]
 ·rw [if_pos k,h.fi]
  exact inB_at (.inl rfl) h.took f1.2.2.1 f1.2.2.2.1 f1.2.2.2.2 h1 h2 h3 h4
 ·rw [if_neg (by omega),if_pos k,h.co]
  exact inB_at (.inr rfl) h.took f2.2.2.1 f2.2.2.2.1 f2.2.2.2.2 h1 h2 h3 h4
theorem win_empty (A:List (Int×Int)) (f:Int):win A f f=[]:=by
 unfold win
 rw [List.filter_eq_nil_iff]
 intro x _
 simp
theorem rdS_exact {s:Shf} {A:List (Int×Int)} (h:Keeps s A) {f:Int}:∀ (l:List Pt) (t:Int),cvr s l f t=true→rdS s l=of (win A f t):=by
 refine snoc_ind ?_ ?_
 ·intro t hc
  simp [cvr] at hc
  subst hc
  rw [win_empty];rfl
 ·intro r p ih t hc
  obtain ⟨h1,h2,h3⟩:=cvr_snoc s p r f t hc
  subst h3
  have l1:=cvr_le s r f p.f h1
  have l2:=may_lt h2
  rw [rdS_snoc,ih _ h1,psum_exact h h2,win_split (f:=f) (m:=p.f) (t:=p.t) l1 (by omega) A h.took.pw,of_append _ _ (by have:=win_len A f p.f;have:=h.took.len;omega) (by have:=win_len A p.f p.t;have:=h.took.len;omega)]
def bks (k tf tt st a tq:Int):Pt:=⟨k,(max a tf+st-1) / st*st,min tq tt / st*st⟩
def nx2 (s:Shf) (a tq:Int):Pt :=
 if (bks 1 s.ff s.ft 10 a tq).t≤(bks 1 s.ff s.ft 10 a tq).f then ⟨0,a,tq⟩
 else if (bks 1 s.ff s.ft 10 a tq).f=a then bks 1 s.ff s.ft 10 a tq
 else ⟨0,a,(bks 1 s.ff s.ft 10 a tq).f⟩
def nxr (s:Shf) (a tq:Int):Pt :=
 if (bks 2 s.cf s.ct 60 a tq).t≤(bks 2 s.cf s.ct 60 a tq).f then nx2 s a tq
 else if (bks 2 s.cf s.ct 60 a tq).f=a then bks 2 s.cf s.ct 60 a tq
 else nx2 s a (bks 2 s.cf s.ct 60 a tq).f
def chr (s:Shf) (tq:Int):Nat→Int→List Pt→List Pt×Int
 | 0,_,out=>(out,0)
 | n+1,a,out=>if a<tq then (if may s (nxr s a tq)=true then chr s tq n (nxr s a tq).t (out++[nxr s a tq]) else ([],10)) else (out,0)
theorem chr_end {s:Shf} {tq a:Int} (h:¬ a<tq) (n:Nat) (out:List Pt):chr s tq n a out=(out,0):=by
 cases n with
 | zero=>rfl
 | succ n=>simp [chr,h]
def Co (s:Shf) (tq x:Int):Prop:=x%60=0∧s.cf≤x∧x+60≤tq∧x+60≤s.ct
def Fi (s:Shf) (tq x:Int):Prop:=x%10=0∧s.ff≤x∧x+10≤tq∧x+10≤s.ft
theorem may2 {s:Shf} {tq x:Int}:(x+60≤tq∧may s ⟨2,x,x+60⟩=true)↔Co s tq x:=by
 simp [may,Co]
 omega
theorem may1 {s:Shf} {tq x:Int}:(x+10≤tq∧may s ⟨1,x,x+10⟩=true)↔Fi s tq x:=by
 simp [may,Fi]
 omega
theorem nxt_co {s:Shf} {tq x:Int} (h:Co s tq x):nxt s x tq=⟨2,x,x+60⟩:=by
 unfold nxt;rw [if_pos (may2.2 h)]
theorem nxt_fi {s:Shf} {tq x:Int} (h:¬ Co s tq x) (h':Fi s tq x):nxt s x tq=⟨1,x,x+10⟩:=by
 unfold nxt;rw [if_neg (fun e=>h (may2.1 e)),if_pos (may1.2 h')]
theorem nxt_raw {s:Shf} {tq x:Int} (h:¬ Co s tq x) (h':¬ Fi s tq x):nxt s x tq=if s.ft≤x then ⟨0,x,tq⟩ else ⟨0,x,min tq (x-x%10+10)⟩:=by
 unfold nxt;rw [if_neg (fun e=>h (may2.1 e)),if_neg (fun e=>h' (may1.1 e))]
inductive Run (s:Shf) (a tq:Int):Pt→Prop where
 | co (T:Int) (h1:a%60=0) (h2:s.cf≤a) (h3:a<T) (h4:T%60=0) (h5:T≤tq) (h6:T≤s.ct) (h7:tq<T+60∨s.ct<T+60):Run s a tq ⟨2,a,T⟩
 | fi (T:Int) (h1:a%10=0) (h2:s.ff≤a) (h3:a<T) (h4:T%10=0) (h5:T≤tq) (h6:T≤s.ft) (h7:∀ x,a≤x→x<T→¬ Co s tq x) (h8:tq<T+10∨s.ft<T+10∨Co s tq T):Run s a tq ⟨1,a,T⟩
 | raw (T:Int) (h3:a<T) (h4:T=tq∨T%10=0) (h5:T≤tq) (h6:∀ x,a≤x→x<T→¬ Co s tq x) (h7:∀ x,a≤x→x<T→¬ Fi s tq x) (h8:T=tq∨Co s tq T∨Fi s tq T) (h9:T≤s.ft∨T=tq):Run s a tq ⟨0,a,T⟩
theorem nx2_run {s:Shf} (sr:SR s) {a tq e:Int} (hae:a<e) (he:e=tq∨Co s tq e) (het:e≤tq) (hno:∀ x,a≤x→x<e→¬ Co s tq x):Run s a tq (nx2 s a e):=by
 obtain ⟨f1,f2,f3,f4,f5⟩:=sr.fsp
 obtain ⟨c1,c2,c3,c4,c5⟩:=sr.csp
 obtain ⟨b1,b2,b3,b4⟩:=sr.bd
 have he10:e=tq∨(e%10=0∧e+60≤s.ft):=by
  rcases he with h | h
  ·exact .inl h
  ·obtain ⟨q1,q2,q3,q4⟩:=h;exact .inr ⟨by omega,by omega⟩
 obtain ⟨F,hF⟩:∃ F,F=(max a s.ff+10-1) / 10*10:=⟨_,rfl⟩
 obtain ⟨T,hT⟩:∃ T,T=min e s.ft / 10*10:=⟨_,rfl⟩
 have hF1:a≤F∧s.ff≤F∧F%10=0∧(F<a+10∨F<s.ff+10):=by rw [hF];omega
 have hF2:∀ x,x%10=0→a≤x→s.ff≤x→F≤x:=by intro x q1 q2 q3;rw [hF];omega
 have hT1:T≤e∧T≤s.ft∧T%10=0∧(e<T+10∨s.ft<T+10):=by rw [hT];omega
 unfold nx2 bks
 simp only
 rw [← hF,← hT]
 clear hF hT
 by_cases h1:T≤F
 ·rw [if_pos h1]
  refine .raw e hae (by rcases he10 with h | h;exact .inl h;exact .inr h.1) het hno ?_ (by rcases he with h | h;exact .inl h;exact .inr (.inl h)) (by rcases he10 with h | h;exact .inr h;exact .inl (by omega))
  intro x q1 q2 ⟨r1,r2,r3,r4⟩
  have:=hF2 x r1 q1 r2
  rcases he10 with h | h <;> omega
 ·rw [if_neg h1]
  by_cases h2:F=a
  ·rw [if_pos h2]
   rw [h2] at h1 hF1 hF2
   rw [h2]
   refine .fi T (by omega) (by omega) (by omega) hT1.2.2.1 (by omega) hT1.2.1 (fun x q1 q2=>hno x q1 (by omega)) ?_
   rcases he with h | h
   ·omega
   ·right;right
    have:T=e:=by
     rcases he10 with q | q
     ·have:=h.2.2.1;omega
     ·omega
    rw [this];exact h
  ·rw [if_neg h2]
   refine .raw F (by omega) (.inr hF1.2.2.1) (by omega) (fun x q1 q2=>hno x q1 (by omega)) ?_ (.inr (.inr ⟨hF1.2.2.1,hF1.2.1,by omega,by omega⟩)) (.inl (by omega))
   intro x q1 q2 ⟨r1,r2,r3,r4⟩
   have:=hF2 x r1 q1 r2
   omega
theorem nxr_run {s:Shf} (sr:SR s) {a tq:Int} (hto:a<tq):Run s a tq (nxr s a tq):=by
 obtain ⟨f1,f2,f3,f4,f5⟩:=sr.fsp
 obtain ⟨c1,c2,c3,c4,c5⟩:=sr.csp
 obtain ⟨b1,b2,b3,b4⟩:=sr.bd
 obtain ⟨F,hF⟩:∃ F,F=(max a s.cf+60-1) / 60*60:=⟨_,rfl⟩
 obtain ⟨T,hT⟩:∃ T,T=min tq s.ct / 60*60:=⟨_,rfl⟩
 have hF1:a≤F∧s.cf≤F∧F%60=0:=by rw [hF];omega
 have hF2:∀ x,x%60=0→a≤x→s.cf≤x→F≤x:=by intro x q1 q2 q3;rw [hF];omega
 have hT1:T≤tq∧T≤s.ct∧T%60=0∧(tq<T+60∨s.ct<T+60):=by rw [hT];omega
 unfold nxr
 have e1:(bks 2 s.cf s.ct 60 a tq).f=F:=by rw [hF];rfl
 have e2:(bks 2 s.cf s.ct 60 a tq).t=T:=by rw [hT];rfl
 have e3:bks 2 s.cf s.ct 60 a tq=⟨2,F,T⟩:=by rw [hF,hT];rfl
 rw [e1,e2,e3]
 clear hF hT e1 e2 e3
 by_cases h1:T≤F
 ·rw [if_pos h1]
  refine nx2_run sr hto (.inl rfl) (Int.le_refl _) ?_
  intro x q1 q2 ⟨r1,r2,r3,r4⟩
  have:=hF2 x r1 q1 r2
  omega
 ·rw [if_neg h1]
  by_cases h2:F=a
  ·rw [if_pos h2]
   rw [h2] at h1 hF1
   rw [h2]
   exact .co T hF1.2.2 hF1.2.1 (by omega) hT1.2.2.1 hT1.1 hT1.2.1 hT1.2.2.2
  ·rw [if_neg h2]
   refine nx2_run sr (by omega) (.inr ⟨hF1.2.2,hF1.2.1,by omega,by omega⟩) (by omega) ?_
   intro x q1 q2 ⟨r1,r2,r3,r4⟩
   have:=hF2 x r1 q1 r2
   omega
theorem nxr_ft {s:Shf} (sr:SR s) {a tq:Int} (hto:a<tq):(nxr s a tq).f=a∧(nxr s a tq).t≤tq∧a<(nxr s a tq).t:=by
 have h:=nxr_run sr hto
 generalize nxr s a tq=p at h
 cases h with
 | co T h1 h2 h3 h4 h5 h6 h7=>exact ⟨rfl,h5,h3⟩
 | fi T h1 h2 h3 h4 h5 h6 h7 h8=>exact ⟨rfl,h5,h3⟩
 | raw T h3 h4 h5 h6 h7 h8 h9=>exact ⟨rfl,h5,h3⟩
theorem run_other {s:Shf} {a tq:Int} {p:Pt} (h:Run s a tq p):p.t=tq∨∀ q,Run s p.t tq q→q.k≠p.k:=by
 cases h with
 | co T h1 h2 h3 h4 h5 h6 h7 =>
  right
  intro q hq
  cases hq with
  | co U g1 g2 g3 g4 g5 g6 g7=>simp only at *;omega
  | fi U=>simp
  | raw U=>simp
 | fi T h1 h2 h3 h4 h5 h6 h7 h8 =>
  right
  intro q hq
  cases hq with
  | co U=>simp
  | fi U g1 g2 g3 g4 g5 g6 g7 g8 =>
   simp only at *
   rcases h8 with e | e | e
   ·omega
   ·omega
   ·exact absurd e (g7 T (Int.le_refl _) g3)
  | raw U=>simp
 | raw T h3 h4 h5 h6 h7 h8 h9 =>
  rcases h8 with e | e | e
  ·exact .inl e
  ·right
   intro q hq
   cases hq with
   | co U=>simp
   | fi U=>simp
   | raw U g3 g4 g5 g6 g7 g8 g9=>simp only at *;exact absurd e (g6 T (Int.le_refl _) g3)
  ·right
   intro q hq
   cases hq with
   | co U=>simp
   | fi U=>simp
   | raw U g3 g4 g5 g6 g7 g8 g9=>simp only at *;exact absurd e (g7 T (Int.le_refl _) g3)
theorem chs_fuel {s:Shf} {tq:Int}:∀ (n m:Nat) (a:Int) (out:List Pt),(tq-a).toNat≤n→(tq-a).toNat≤m→chs s tq n a out=chs s tq m a out:=by
 intro n
 induction n with
 | zero=>intro m a out h1 h2;rw [chs_end (by omega),chs_end (by omega)]
 | succ n ih =>
  intro m a out h1 h2
  by_cases h:a<tq
  ·cases m with
   | zero=>omega
   | succ m =>
    simp only [chs,if_pos h]
    by_cases hm:may s (nxt s a tq)=true
    ·rw [if_pos hm,if_pos hm]
     have:=may_lt hm
     rw [nxt_f] at this
     exact ih m _ _ (by omega) (by omega)
    ·rw [if_neg hm,if_neg hm]
  ·rw [chs_end h,chs_end h]
theorem putP_two (out:List Pt) (k a b t:Int):putP (putP out ⟨k,a,b⟩) ⟨k,b,t⟩=putP out ⟨k,a,t⟩:=by
 rcases snoc_or out with rfl | ⟨r,q,rfl⟩
 ·rw [putP_nil,putP_nil]
  exact putP_same [] ⟨k,a,b⟩ ⟨k,b,t⟩ rfl
 ·by_cases e:q.k=k
  ·rw [putP_same r q ⟨k,a,b⟩ e,putP_same r q ⟨k,a,t⟩ e]
   exact putP_same r ⟨q.k,q.f,b⟩ ⟨k,b,t⟩ e
  ·rw [putP_other r q ⟨k,a,b⟩ e,putP_other r q ⟨k,a,t⟩ e]
   exact putP_same (r++[q]) ⟨k,a,b⟩ ⟨k,b,t⟩ rfl
theorem chs_run {s:Shf} {tq T k:Int} {I:Int→Prop} (hT:T≤tq) (step:∀ x,I x→x<T→∃ b,nxt s x tq=⟨k,x,b⟩∧x<b∧b≤T∧may s ⟨k,x,b⟩=true∧I b) :
  ∀ (n:Nat) (a:Int) (out:List Pt) (m m':Nat),I a→a<T→(T-a).toNat≤n→(tq-a).toNat≤m→(tq-T).toNat≤m'→chs s tq m a out=chs s tq m' T (putP out ⟨k,a,T⟩):=by
 intro n
 induction n with
 | zero=>intro a out m m' _ h h1;omega
 | succ n ih =>
  intro a out m m' hI h h1 h2 h3
  obtain ⟨b,e,q1,q2,q3,q4⟩:=step a hI h
  cases m with
  | zero=>omega
  | succ m =>
   simp only [chs,if_pos (show a<tq by omega),e,q3,if_true]
   by_cases hb:b=T
   ·subst hb
    exact chs_fuel _ _ _ _ (by omega) h3
   ·rw [ih b _ m m' q4 (by omega) (by omega) (by omega) h3,putP_two]
theorem putP_new {out:List Pt} {p:Pt} (h:∀ q,out.getLast?=some q→q.k≠p.k):putP out p=out++[p]:=by
 rcases snoc_or out with rfl | ⟨r,q,rfl⟩
 ·rfl
 ·rw [putP_other r q p (h q (by simp))]
theorem chr_chs {s:Shf} (sr:SR s) {tq:Int} (hto:tq≤1000000):∀ (n:Nat) (a:Int) (out:List Pt) (m:Nat),0≤a→(tq-a).toNat≤n→(tq-a).toNat≤m→(a<tq→∀ q,out.getLast?=some q→q.k≠(nxr s a tq).k)→chr s tq n a out=chs s tq m a out:=by
 obtain ⟨f1,f2,f3,f4,f5⟩:=sr.fsp
 obtain ⟨c1,c2,c3,c4,c5⟩:=sr.csp
 obtain ⟨b1,b2,b3,b4⟩:=sr.bd
 intro n
 induction n with
 | zero=>intro a out m ha h1 h2 h3;rw [chr_end (by omega),chs_end (by omega)]
 | succ n ih =>
  intro a out m ha h1 h2 h3
  by_cases h:a<tq
  ·have hrun:=nxr_run sr h
   have hnew:=putP_new (h3 h)
   obtain ⟨p,hp⟩:∃ p,p=nxr s a tq:=⟨_,rfl⟩
   simp only [chr,if_pos h]
   rw [← hp] at hrun hnew ⊢
   have hnext:p.t≤tq→a<p.t→(p.t<tq→∀ q,(out++[p]).getLast?=some q→q.k≠(nxr s p.t tq).k):=by
    intro hpt hap hlt q hq
    simp at hq
    rw [← hq]
    rcases run_other hrun with e | e
    ·omega
    ·exact fun e2=>e _ (nxr_run sr hlt) e2.symm
   cases hrun with
   | co T h1' h2' h3' h4 h5 h6 h7 =>
    have hm:may s ⟨2,a,T⟩=true:=by simp [may];omega
    rw [if_pos hm,ih T _ (tq-T).toNat (by omega) (by simp only at *;omega) (by omega) (hnext h5 h3'),← hnew]
    refine (chs_run (k:=2) (I:=fun x=>x%60=0∧a≤x) h5 ?_ _ a out m _ ⟨h1',Int.le_refl _⟩ h3' (Nat.le_refl _) h2 (Nat.le_refl _)).symm
    intro x ⟨g1,g2⟩ g3
    have hco:Co s tq x:=⟨g1,by omega,by omega,by omega⟩
    exact ⟨x+60,nxt_co hco,by omega,by omega,(may2.2 hco).2,by omega,by omega⟩
   | fi T h1' h2' h3' h4 h5 h6 h7 h8 =>
    have hm:may s ⟨1,a,T⟩=true:=by simp [may];omega
    rw [if_pos hm,ih T _ (tq-T).toNat (by omega) (by simp only at *;omega) (by omega) (hnext h5 h3'),← hnew]
    refine (chs_run (k:=1) (I:=fun x=>x%10=0∧a≤x) h5 ?_ _ a out m _ ⟨h1',Int.le_refl _⟩ h3' (Nat.le_refl _) h2 (Nat.le_refl _)).symm
    intro x ⟨g1,g2⟩ g3
    have hfi:Fi s tq x:=⟨g1,by omega,by omega,by omega⟩
    exact ⟨x+10,nxt_fi (h7 x g2 g3) hfi,by omega,by omega,(may1.2 hfi).2,by omega,by omega⟩
   | raw T h3' h4 h5 h6 h7 h8 h9 =>
    have hraw:∀ x,a≤x→x<T→∃ b,nxt s x tq=⟨0,x,b⟩∧x<b∧b≤T:=by
     intro x g2 g3
     rw [nxt_raw (h6 x g2 g3) (h7 x g2 g3)]
     by_cases hf:s.ft≤x
     ·rw [if_pos hf]
      exact ⟨tq,rfl,by omega,by omega⟩
     ·rw [if_neg hf]
      exact ⟨_,rfl,by omega,by omega⟩
    by_cases hr:s.rf≤a
    ·have hm:may s ⟨0,a,T⟩=true:=by simp [may];omega
     rw [if_pos hm,ih T _ (tq-T).toNat (by omega) (by simp only at *;omega) (by omega) (hnext h5 h3'),← hnew]
     refine (chs_run (k:=0) (I:=fun x=>a≤x) h5 ?_ _ a out m _ (Int.le_refl _) h3' (Nat.le_refl _) h2 (Nat.le_refl _)).symm
     intro x g2 g3
     obtain ⟨b,q1,q2,q3⟩:=hraw x g2 g3
     exact ⟨b,q1,q2,q3,by simp [may];omega,by omega⟩
    ·have hm:¬ may s ⟨0,a,T⟩=true:=by simp [may];omega
     rw [if_neg hm]
     obtain ⟨b,q1,q2,q3⟩:=hraw a (Int.le_refl _) h3'
     cases m with
     | zero=>omega
     | succ m =>
      have hm2:¬ may s ⟨0,a,b⟩=true:=by simp [may];omega
      simp only [chs,if_pos h,q1]
      rw [if_neg hm2]
  ·rw [chr_end h,chs_end h]
theorem choose_runs {s:Shf} (h:swrong s=0) {f t:Int} (h0:0≤f) (h1:t≤1000000) (n:Nat) (hn:(t-f).toNat≤n):chr s t n f []=chs s t (t-f).toNat f [] :=
 chr_chs ((sr_iff s).1 h) h1 n f [] _ h0 hn (Nat.le_refl _) (fun _ q hq=>by simp at hq)
end Grain
namespace Go.Proofs.YtoldmigappbjcaaGreatDoor
open Go.RowKit Go.GrainU
theorem tmod_emod (x s:Int):x.tmod s=0↔x%s=0:=by
 constructor
 ·intro h;exact Int.emod_eq_zero_of_dvd (Int.dvd_of_tmod_eq_zero h)
 ·intro h;exact Int.tmod_eq_zero_of_dvd (Int.dvd_of_emod_eq_zero h)
set_option maxHeartbeats 1000000 in
theorem span_any (f t st:Int) (w:World) (hst:st=10∨st=60) :
  Calls Tryz.prog 78 #[.int .i64 f,.int .i64 t,.int .i64 st] w fun e w'=>e=.returned (.bool (Grain.span f t st))∧w'=w:=by
 have H1:=hide (tmod_emod f st)
 have H2:=hide (tmod_emod t st)
 rcases hst with rfl | rfl
 all_goals
  go_enter Tryz.func78,Tryz.ntmps78
  go_wp2
  all_goals
   go_ret
   refine ⟨ret_bool ?_,rfl⟩
   have h1:=H1.out
   have h2:=H2.out
   clear H1 H2
   rw [Bool.eq_iff_iff]
   simp [Grain.span]
   omega
set_option maxHeartbeats 400000 in
theorem mult_any (t st:Int) (w:World) (h0:0≤t) (h1:t≤1000000) (hst:st=10∨st=60) :
  Calls Tryz.prog 132 #[.int .i64 t,.int .i64 st] w fun e w'=>e=.returned (.int .i64 (Grain.beg t st))∧w'=w:=by
 rcases hst with rfl | rfl
 all_goals
  go_enter Tryz.func132,Tryz.ntmps132
  go_wp2
  go_ret
  refine ⟨ret_int ?_,rfl⟩
  unfold Grain.beg
  first | omega | (rw [IntKind.wrap_i64];omega)
end Go.Proofs.YtoldmigappbjcaaGreatDoor
namespace Go.GrainU
open Go.RowKit
theorem enters {P : Program} {f : FuncId} {fn : Func} (hf : P.funcs[f]? = some fn) (hname : (fn.name == "runtime.NumGoroutine") = false) (hb : fn.body.isSome = true) (args : Array Value) (w : World) :
  (callFunc f args).run P w=.ok (.enter f args) w:=by
 have h1 : fn.name ≠ "runtime.NumGoroutine" := by simpa using hname
 obtain ⟨b,hb⟩:=Option.isSome_iff_exists.1 hb
 simp [callFunc,hf,h1,hb]
end Go.GrainU
namespace Go.Proofs.YtoldmigappbjcaaGreatDoor
open Go.RowKit Go.GrainU
set_option maxRecDepth 20000 in
set_option maxHeartbeats 1000000 in
theorem sidx_any (l:List (Int×Int)) (p:Int→Int→Bool) (F:Nat) (caps:Array Value) (ao:Option Addr) (n c:Nat) (w:World) (ha:Seg w ao (scells l)) (hn:n=l.length) (hc:n≤9223372036854775807)
  (hE:Hid (∀ (args:Array Value) (W:World),(callFunc F args).run Tryz.prog W=.ok (.enter F args) W))
  (hF:∀ W t v,Below w.heap.size w W→Calls Tryz.prog F (#[.agg #[.int .i64 t,.int .i64 v]]++caps) W fun e W'=>e=.returned (.bool (p t v))∧Below W.heap.size W W') :
  Calls Tryz.prog 117 #[.slice ao n c,.func (.func F) #[] caps] w fun e w'=>(∃ i,e=.returned (.int .i64 i)∧decide (0≤i)=l.any fun x=>p x.1 x.2)∧Below w.heap.size w w':=by
 have HN:=hide hn
 have HF:=hide hF
 clear hn hF
 go_enter Tryz.func117,Tryz.ntmps117
 go_wp2
 go_loopw [8] (fun i wr=>∃ k:Nat,k≤n∧i=.int .i64 k∧Hid ((l.any fun x=>p x.1 x.2)=(l.drop k).any fun x=>p x.1 x.2)∧Below w.heap.size w wr) (fun i _=>n-(intOf i).toNat)
 case atStart=>exact ⟨0,Nat.zero_le _,rfl,rfl,Below.refl _ _⟩
 case round =>
  obtain ⟨k,hk,rfl,HW,bel⟩:=hrel
  have hsz:=bel.size
  by_cases hlt:k<n
  ·have hkl:k<l.length:=by rw [← HN.out];exact hlt
   obtain ⟨b,off,rfl,hcell⟩:=ha.sample hkl
   have hb:b<w.heap.size:=World.block_lt_of_cell? w ⟨b,off+k*2,none⟩ (hcell k hkl).1
   obtain ⟨t,ht⟩:∃ t,t=Grain.tm l k:=⟨_,rfl⟩
   obtain ⟨v,hv⟩:∃ v,v=Grain.vl l k:=⟨_,rfl⟩
   have c0:wr.cell? ⟨b,off+k*2,none⟩=some (.int .i64 t):=by rw [ht];exact (bel.cell (by exact hb)).trans (hcell k hkl).1
   have c1:wr.cell? ⟨b,off+k*2+1,none⟩=some (.int .i64 v):=by rw [hv];exact (bel.cell (by exact hb)).trans (hcell k hkl).2
   have HS:Hid ((l.any fun x=>p x.1 x.2)=(p t v || (l.drop (k+1)).any fun x=>p x.1 x.2)):=by
    show _=_
    rw [HW.out,List.drop_eq_getElem_cons hkl,List.any_cons,ht,hv,(Grain.tm_get hkl).1,(Grain.tm_get hkl).2]
   clear ht hv hcell hkl HW
   go_wp2_with fail
   rw [hE.out,Oper.upon_enter]
   refine (HF.out wr t v bel).mono ?_
   rintro e w1 ⟨rfl,hb1⟩
   have bel1:Below w.heap.size w w1:=bel.trans (hb1.mono hsz)
   clear hb1 bel c0 c1
   cases hp:p t v
   ·have hw:Hid ((l.any fun x=>p x.1 x.2)=(l.drop (k+1)).any fun x=>p x.1 x.2):=by show _=_;rw [HS.out,hp];rfl
    clear HS hp
    go_wp2
    go_roundw
    case rel=>exact ⟨k+1,by omega,by go_num,hw,bel1⟩
    case measure=>simp [intOf];omega
   ·have hw:Hid ((l.any fun x=>p x.1 x.2)=true):=by show _=_;rw [HS.out,hp];rfl
    clear HS hp
    go_wp2
    go_ret
    exact ⟨⟨_,rfl,by rw [hw.out];simp⟩,bel1⟩
  ·have he:k=n:=by omega
   subst he
   have hw:Hid ((l.any fun x=>p x.1 x.2)=false):=by
    show _=_
    rw [HW.out,List.drop_eq_nil_of_le (by rw [← HN.out];omega)];rfl
   clear HW
   go_wp2
   go_ret
   exact ⟨⟨_,rfl,by rw [hw.out];rfl⟩,bel⟩
set_option maxHeartbeats 400000 in
theorem scont_any (l:List (Int×Int)) (p:Int→Int→Bool) (F:Nat) (caps:Array Value) (ao:Option Addr) (n c:Nat) (w:World) (ha:Seg w ao (scells l)) (hn:n=l.length) (hc:n≤9223372036854775807)
  (hE:Hid (∀ (args:Array Value) (W:World),(callFunc F args).run Tryz.prog W=.ok (.enter F args) W))
  (hF:∀ W t v,Below w.heap.size w W→Calls Tryz.prog F (#[.agg #[.int .i64 t,.int .i64 v]]++caps) W fun e W'=>e=.returned (.bool (p t v))∧Below W.heap.size W W') :
  Calls Tryz.prog 80 #[.slice ao n c,.func (.func F) #[] caps] w fun e w'=>e=.returned (.bool (l.any fun x=>p x.1 x.2))∧Below w.heap.size w w':=by
 have HF:=hide hF
 have HN:=hide hn
 clear hF hn
 go_enter Tryz.func80,Tryz.ntmps80
 go_wp2_with fail
 refine (sidx_any l p F caps ao n c w ha HN.out hc hE HF.out).mono ?_
 rintro e w1 ⟨⟨i,rfl,hi⟩,hb1⟩
 have HI:=hide hi
 clear hi
 go_wp2
 go_ret
 exact ⟨by rw [← HI.out];rfl,hb1⟩
theorem Tryz.infoSmp:(Tryz.prog.info? 34).map (fun i=>(i.zero,i.size,i.bytes))=some (some (.agg #[.int .i64 0,.int .i64 0]),2,16):=by kernel_rfl
theorem filter_take {α:Type} (p:α→Bool) {l:List α} {k:Nat} (h:k<l.length):(l.take (k+1)).filter p=if p l[k]=true then (l.take k).filter p++[l[k]] else (l.take k).filter p:=by
 rw [List.take_add_one,List.getElem?_eq_getElem h,List.filter_append]
 cases hp:p l[k] <;> simp [hp]
theorem sinfo_parts {P:Program} {t:TypeId} {z:Value} {a b:Nat} (h:(P.info? t).map (fun i=>(i.zero,i.size,i.bytes))=some (some z,a,b)):∃ i,P.info? t=some i∧i.zero=some z∧i.size=a∧i.bytes=b:=by
 cases hq:P.info? t with
 | none=>rw [hq] at h;simp at h
 | some i=>rw [hq] at h;simp at h;exact ⟨i,rfl,h.1,h.2.1,h.2.2⟩
set_option maxRecDepth 20000 in
set_option maxHeartbeats 2000000 in
theorem skept_any (l:List (Int×Int)) (p:Int→Int→Bool) (F:Nat) (caps:Array Value) (ao:Option Addr) (n c:Nat) (w:World) (hs:Seg w ao (scells l)) (hn:n=l.length) (hL:n≤1000000)
  (hE:Hid (∀ (args:Array Value) (W:World),(callFunc F args).run Tryz.prog W=.ok (.enter F args) W))
  (hF:∀ W t v,Below w.heap.size w W→Calls Tryz.prog F (#[.agg #[.int .i64 t,.int .i64 v]]++caps) W fun e W'=>e=.returned (.bool (p t v))∧Below W.heap.size W W') :
  Calls Tryz.prog 133 #[.slice ao n c,.func (.func F) #[] caps] w fun e w'=>∃ co N d,e=.returned (.slice co N d)∧w'.ownsRow w.heap.size 34 2 (.slice co N d) N (scells (l.filter fun x=>p x.1 x.2))∧Below w.heap.size w w':=by
 obtain ⟨i0,hi,hz0,hz1,hz2⟩:=sinfo_parts Tryz.infoSmp
 have HN:=hide hn
 have HF:=hide hF
 clear hn hF
 go_enter Tryz.func133,Tryz.ntmps133
 go_wp2
 go_loopw [5,10] (fun out i wr=>∃ (k N d:Nat) (co:Option Addr),k≤n∧i=.int .i64 k∧out=.slice co N d∧N≤k∧wr.ownsRow w.heap.size 34 2 (.slice co N d) N (scells ((l.take k).filter fun x=>p x.1 x.2))∧Below w.heap.size w wr) (fun _ i _=>n-(intOf i).toNat)
 case atStart=>exact ⟨0,0,0,none,Nat.zero_le _,rfl,rfl,Nat.le_refl _,World.ownsRow_nil _ _ _ _,Below.refl _ _⟩
 case round =>
  obtain ⟨k,N,d,co,hk,rfl,rfl,hNk,own,bel⟩:=hrel
  have hsz:=bel.size
  by_cases hlt:k<n
  ·have hkl:k<l.length:=by rw [← HN.out];exact hlt
   obtain ⟨b,off,rfl,hcell⟩:=hs.sample hkl
   have hbl:b<w.heap.size:=World.block_lt_of_cell? w ⟨b,off+k*2,none⟩ (hcell k hkl).1
   obtain ⟨x,hx⟩:∃ x,x=Grain.tm l k:=⟨_,rfl⟩
   obtain ⟨y,hy⟩:∃ y,y=Grain.vl l k:=⟨_,rfl⟩
   have c0:wr.cell? ⟨b,off+k*2,none⟩=some (.int .i64 x):=by rw [hx];exact (bel.cell (by exact hbl)).trans (hcell k hkl).1
   have c1:wr.cell? ⟨b,off+k*2+1,none⟩=some (.int .i64 y):=by rw [hy];exact (bel.cell (by exact hbl)).trans (hcell k hkl).2
   have HU:Hid (((l.take (k+1)).filter fun x=>p x.1 x.2)=if p x y=true then ((l.take k).filter fun x=>p x.1 x.2)++[(x,y)] else (l.take k).filter fun x=>p x.1 x.2):=by
    show _=_
    rw [filter_take _ hkl,hx,hy,(Grain.tm_get hkl).1,(Grain.tm_get hkl).2]
   clear hx hy hcell hkl
   obtain ⟨V,hV⟩:∃ V,V=wr.alloc (.cells #[.int .i64 x,.int .i64 y] 34):=⟨_,rfl⟩
   obtain ⟨X,hX⟩:∃ X,X=wr.heap.size:=⟨_,rfl⟩
   have F1:V.heap[X]?=some (.cells #[.int .i64 x,.int .i64 y] 34 (0,0)):=by rw [hV,hX];exact heap_alloc_new wr _
   have own1:V.ownsRow w.heap.size 34 2 (.slice co N d) N (scells ((l.take k).filter fun x=>p x.1 x.2)):=by rw [hV];exact own.alloc _
   have bel1:Below w.heap.size w V:=by rw [hV];exact bel.alloc hsz _
   have hs1:=bel1.size
   have HV:=hide hV
   have HX:=hide hX
   clear hV own
   go_wp2_with fail
   rw [hE.out,Oper.upon_enter,← HV.out,← HX.out]
   refine (HF.out V x y bel1).mono ?_
   rintro e w1 ⟨rfl,hb1⟩
   have F2:w1.heap[X]?=some (.cells #[.int .i64 x,.int .i64 y] 34 (0,0)):=below_block hb1 F1
   have own2:=own_below own1 hb1
   have bel2:Below w.heap.size w w1:=bel1.trans (hb1.mono hs1)
   have hs2:=bel2.size
   obtain ⟨p0,p1,_,_⟩:=two_cells F2
   clear hb1 own1 bel1 bel HV HX F1 hX c0 c1 hsz hs1
   cases hh:p x y with
   | true =>
    have HE:Hid (((l.take (k+1)).filter fun x=>p x.1 x.2)=((l.take k).filter fun x=>p x.1 x.2)++[(x,y)]):=by
     show _=_
     rw [HU.out,if_pos hh]
    clear HU hh
    go_wp2_with (at_builtin;refine wpList_append_lies _ rfl _ _ 56 rfl w.heap.size 34 i0 (.agg #[.int .i64 0,.int .i64 0]) 2 16 Tryz.underlying56 hi hz0 hz1 hz2 rfl (by decide) _ _ _ rfl (own2.alloc _) ⟨w1.heap.size,0,none⟩ 1 1 [.int .i64 x,.int .i64 y] rfl rfl (news_two rfl _ _ _) (by simp [Value.oneCell']) (by decide) (by unfold maxLen;omega) (by omega) (by simp;omega) (w1.heap.size+1) (by simp) ?_)
    intro g' cp' w5 own5 gr5 hat5 hlt5
    have own6:w5.ownsRow w.heap.size 34 2 (.slice (some ⟨g',0,none⟩) (N+1) cp') (N+1) (scells ((l.take (k+1)).filter fun x=>p x.1 x.2)):=by
     rw [HE.out,scells_append];exact own5
    have bel5:Below w.heap.size w w5:=(bel2.alloc hs2 _).grown gr5 (by simp;omega) (fun j hj=>(own2.lt j hj).1)
    clear own5 gr5 hat5 hlt5 own2 HE
    go_wp2
    go_roundw
    case rel=>exact ⟨k+1,N+1,cp',_,by omega,by go_num,rfl,by omega,own6,bel5⟩
    case measure=>simp [intOf];omega
   | false =>
    have HE:Hid (((l.take (k+1)).filter fun x=>p x.1 x.2)=(l.take k).filter fun x=>p x.1 x.2):=by
     show _=_
     rw [HU.out,if_neg (by rw [hh];decide)]
    clear HU hh
    rw [← HE.out] at own2
    go_wp2
    go_roundw
    case rel=>exact ⟨k+1,N,d,co,by omega,by go_num,rfl,by omega,own2,bel2⟩
    case measure=>simp [intOf];omega
  ·have he:k=n:=by omega
   subst he
   have HT:=hide (List.take_of_length_le (i:=k) (l:=l) (by rw [← HN.out];omega))
   rw [HT.out] at own
   clear HT HN
   go_wp2
   go_ret
   exact ⟨co,N,d,rfl,own,bel⟩
set_option maxHeartbeats 1000000 in
theorem scopy_any (l:List (Int×Int)) (ao:Option Addr) (n c:Nat) (w:World) (hs:Seg w ao (scells l)) (hn:n=l.length) (hL:n*16≤140737488355328) (hnil:ao=none→n=0∧c=0) :
  Calls Tryz.prog 176 #[.slice ao n c] w fun e w'=>∃ co N d,e=.returned (.slice co N d)∧w'.ownsRow w.heap.size 34 2 (.slice co N d) N (scells l)∧Below w.heap.size w w':=by
 obtain ⟨i0,hi,hz0,hz1,hz2⟩:=sinfo_parts Tryz.infoSmp
 have HN:=hide hn
 have HL:=hide hL
 have HZ:=hide hnil
 clear hn hL hnil
 go_enter Tryz.func176,Tryz.ntmps176
 go_wp2_with (at_builtin;refine append_seg rfl _ _ 56 rfl w.heap.size 34 i0 (.agg #[.int .i64 0,.int .i64 0]) 2 16 Tryz.underlying56 hi hz0 hz1 hz2 rfl (by decide) _ 0 [] rfl (World.ownsRow_nil _ _ _ _) ao n c (scells l) rfl HZ.out hs ?qc1 (scells_one l) ?qc4 ?qc5 (Nat.le_refl _) ?_)
 case qc1=>rw [scells_length,HN.out]
 case qc4=>have:=HL.out;unfold maxLen;omega
 case qc5=>have:=HL.out;omega
 intro v' w1 own gr
 obtain ⟨ao',c',rfl,_,_⟩:=own_open own
 have bel1:Below w.heap.size w w1:=(Below.refl _ _).grown gr (Nat.le_refl _) (fun j hj=>by simp [Value.ownBlock] at hj)
 have own2:w1.ownsRow w.heap.size 34 2 (.slice ao' (0+n) c') (0+n) (scells l):=by simpa using own
 clear own gr
 go_wp2
 go_ret
 exact ⟨ao',n,c',rfl,by simpa using own2,bel1⟩
end Go.Proofs.YtoldmigappbjcaaGreatDoor
namespace Go.GrainU
open Go.RowKit
def ptc (p:Grain.Pt):List Value:=[.int .i64 p.k,.int .i64 p.f,.int .i64 p.t]
def pcells:List Grain.Pt→List Value
 | []=>[]
 | b::r=>ptc b++pcells r
theorem pcells_length (l:List Grain.Pt):(pcells l).length=l.length*3:=by
 induction l with
 | nil=>rfl
 | cons b r ih=>simp only [pcells,List.length_append,List.length_cons,ih,ptc,List.length_nil];omega
theorem pcells_append (a b:List Grain.Pt):pcells (a++b)=pcells a++pcells b:=by
 induction a with
 | nil=>rfl
 | cons x r ih=>simp only [List.cons_append,pcells,ih,List.append_assoc]
theorem pcells_snoc (a:List Grain.Pt) (b:Grain.Pt):pcells (a++[b])=pcells a++ptc b:=by rw [pcells_append];simp [pcells]
theorem pcells_at (l:List Grain.Pt):∀ k i,k<l.length→i<3→(pcells l)[k*3+i]?=(ptc (Grain.pt l k))[i]?:=by
 induction l with
 | nil=>intro k i hk;simp at hk
 | cons b r ih =>
  intro k i hk hi
  have hl:(ptc b).length=3:=rfl
  match k with
  | 0 =>
   rw [pcells,List.getElem?_append_left (by omega)]
   simp [Grain.pt]
  | k+1 =>
   rw [pcells,List.getElem?_append_right (by omega),hl,show (k+1)*3+i-3=k*3+i from by omega,ih k i (by simpa using hk) hi]
   simp [Grain.pt]
def Cells3 (w:World) (b off:Nat) (p:Grain.Pt):Prop :=
 w.cell? ⟨b,off,none⟩=some (.int .i64 p.k)∧w.cell? ⟨b,off+1,none⟩=some (.int .i64 p.f)∧w.cell? ⟨b,off+2,none⟩=some (.int .i64 p.t)
theorem seg_part {w:World} {ao:Option Addr} {l:List Grain.Pt} (h:Seg w ao (pcells l)) {k:Nat} (hk:k<l.length) :
  ∃ b off,ao=some ⟨b,off,none⟩∧b<w.heap.size∧∀ j,j<l.length→Cells3 w b (off+j*3) (Grain.pt l j):=by
 have hs:=pcells_length l
 rcases h with h | ⟨b,off,rfl,h⟩
 ·rw [h] at hs;simp at hs;omega
 ·have hc:∀ j i,j<l.length→i<3→w.cell? ⟨b,off+j*3+i,none⟩=(ptc (Grain.pt l j))[i]?:=fun j i hj hi=>by
   rw [Nat.add_assoc,h (j*3+i) (by omega)]
   exact pcells_at l j i hj hi
  refine ⟨b,off,rfl,World.block_lt_of_cell? w ⟨b,off+k*3+0,none⟩ (hc k 0 hk (by omega)),fun j hj=>?_⟩
  exact ⟨hc j 0 hj (by omega),hc j 1 hj (by omega),hc j 2 hj (by omega)⟩
theorem Cells3.below {w w':World} {B b off:Nat} {p:Grain.Pt} (h:Cells3 w b off p) (hb:Below B w w') (hl:b<B):Cells3 w' b off p:=by
 obtain ⟨h0,h1,h2⟩:=h
 exact ⟨(hb.cell (p:=⟨b,off,none⟩) hl).trans h0,(hb.cell (p:=⟨b,off+1,none⟩) hl).trans h1,(hb.cell (p:=⟨b,off+2,none⟩) hl).trans h2⟩
end Go.GrainU
namespace Go.Proofs.YtoldmigappbjcaaGreatDoor
theorem Tryz.infoPart:(Tryz.prog.info? 235).map (fun i=>(i.zero,i.size,i.bytes))=some (some (.agg #[.int .i64 0,.int .i64 0,.int .i64 0]),3,24):=by kernel_rfl
end Go.Proofs.YtoldmigappbjcaaGreatDoor
