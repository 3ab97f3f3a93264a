import Derived.Deep.AppendLies
import Derived.Deep.CutRange
import Derived.Deep.RegionHeld3
import Derived.Deep.RegionWith
import Derived.Test.YtoldmigappbjcaaGreatDoorK07
import Derived.Test.YtoldmigappbjcaaGreatDoorK15
import Derived.Test.YtoldmigappbjcaaGreatDoorK20
import Derived.Test.YtoldmigappbjcaaGreatDoorK21
import Derived.Test.YtoldmigappbjcaaGreatDoorK23
import Derived.Test.YtoldmigappbjcaaGreatDoorK24
import Derived.Test.YtoldmigappbjcaaGreatDoorK28
import Derived.Test.YtoldmigappbjcaaGreatDoorK29
namespace Go.GrainU
open Go.RowKit
structure Dn where
 kind:Int
 tier:Int
 till:Int
 se:Lb
 t:Int
 v:Int
 tx:ByteArray
structure An where
 err:Int
 pos:Int
 cs:List Cl
 cost:Int
structure Kp where
 s:Grain.Shf
 A:List (Int×Int)
structure Bs where
 l:List Kp
 hz:Int
def kp (l:List Kp) (k:Nat):Kp:=l.getD k ⟨Grain.szero,[]⟩
def bpos (l:List Kp) (s:Lb):Nat:=(l.takeWhile fun k=>decide (cmpS k.s.se s<0)).length
def bhas (l:List Kp) (s:Lb):Bool:=decide (bpos l s<l.length) && decide (cmpS (kp l (bpos l s)).s.se s=0)
def newS (s:Lb):Grain.Shf:={ Grain.szero with se:=s }
def putB (b:Bs) (i:Nat) (t v:Int):Bs×Int :=
 if (Grain.sapp (kp b.l i).s t v).2=0 then (⟨b.l.set i ⟨(Grain.sapp (kp b.l i).s t v).1,(kp b.l i).A++[(t,v)]⟩,b.hz⟩,0)
 else (b,(Grain.sapp (kp b.l i).s t v).2)
def putN (b:Bs) (i:Nat) (s:Lb) (t v:Int):Bs×Int :=
 if 8≤b.l.length then (b,5)
 else if (Grain.sroll (newS s) b.hz).2≠0 then (b,(Grain.sroll (newS s) b.hz).2)
 else if (Grain.sapp (Grain.sroll (newS s) b.hz).1 t v).2≠0 then (b,(Grain.sapp (Grain.sroll (newS s) b.hz).1 t v).2)
 else (⟨b.l.take i++[⟨(Grain.sapp (Grain.sroll (newS s) b.hz).1 t v).1,[(t,v)]⟩]++b.l.drop i,b.hz⟩,0)
def takeB (b:Bs) (s:Lb) (t v:Int):Bs×Int :=
 if wrongS s≠0 then (b,wrongS s)
 else if Grain.inR t v=false then (b,3)
 else if t<b.hz then (b,9)
 else if bhas b.l s=true then putB b (bpos b.l s) t v
 else putN b (bpos b.l s) s t v
def eachB (f : Grain.Shf → Grain.Shf × Int) : List Kp → Except Int (List Kp)
  | [] => .ok []
  | k :: r =>
    if (f k.s).2 = 0 then
      (match eachB f r with
       | .error x => .error x
       | .ok r' => .ok (⟨(f k.s).1, k.A⟩ :: r'))
    else .error (f k.s).2
theorem eachB_snoc (f:Grain.Shf→Grain.Shf×Int) (x:Kp):∀ l:List Kp,eachB f (l++[x])=match eachB f l with | .error e=>.error e | .ok l'=>if (f x.s).2=0 then .ok (l'++[⟨(f x.s).1,x.A⟩]) else .error (f x.s).2
 | []=>by
  by_cases h:(f x.s).2=0
  ·simp [eachB,h]
  ·simp [eachB,h]
 | k::r=>by
  by_cases h:(f k.s).2=0
  ·simp only [List.cons_append,eachB,h,if_true,eachB_snoc f x r]
   cases eachB f r with
   | error e=>rfl
   | ok l' =>
    by_cases h':(f x.s).2=0
    ·simp [h']
    ·simp [h']
  ·simp [eachB,h]
theorem eachB_err {f:Grain.Shf→Grain.Shf×Int} {a:List Kp} {e:Int} (h:eachB f a=.error e):∀ r,eachB f (a++r)=.error e:=by
 induction a with
 | nil=>simp [eachB] at h
 | cons k a ih =>
  intro r
  by_cases hk:(f k.s).2=0
  ·simp only [eachB,hk,if_true,List.cons_append] at h ⊢
   cases ha:eachB f a with
   | error x=>rw [ha] at h;injection h with h;subst h;rw [ih ha r]
   | ok l=>rw [ha] at h;simp at h
  ·simpa [eachB,hk] using h
def rollB (b:Bs) (tq':Int):Bs×Int :=
 if tq'<0∨1000000<tq' then (b,3)
 else match eachB (fun s=>Grain.sroll s tq') b.l with
  | .error x=>(b,x)
  | .ok l=>(⟨l,max b.hz (Grain.beg tq' 10)⟩,0)
def forgB (b : Bs) (tier tq' : Int) : Bs × Int :=
  if tq' < 0 ∨ 1000000 < tq' then (b, 3)
  else if tier = 0 ∨ tier = 1 ∨ tier = 2 then
    (match eachB (fun s => Grain.sforg s tier tq') b.l with
     | .error x => (b, x)
     | .ok l => (⟨l, b.hz⟩, 0))
  else (b, 1)
def lookS (s:Grain.Shf) (f t:Int):Except Int Grain.Sm :=
 if (Grain.choose s f t).2=0 then (if (Grain.read s (Grain.choose s f t).1).2.2=0 then .ok (Grain.read s (Grain.choose s f t).1).1 else .error (Grain.read s (Grain.choose s f t).1).2.2)
 else .error (Grain.choose s f t).2
def lookK (s:Grain.Shf) (f t:Int):Nat:=(Grain.read s (Grain.choose s f t).1).2.1.toNat
def sersB (l:List Kp):List ST:=l.map fun k=>⟨k.s.se,none,0⟩
def askE (b:Bs) (time:Int) (e:Ex):Except Int Mn:=overE (fun i f t=>lookS (kp b.l i).s f t) (sersB b.l) b.l.length time e
def askK (b:Bs) (time:Int) (e:Ex):Nat:=overK (fun i f t=>lookK (kp b.l i).s f t) (sersB b.l) b.l.length time e
def anE (b:Bs) (time:Int) (e:Ex):An:=match askE b time e with
 | .error x=>⟨x,0,[],0⟩
 | .ok m=>⟨0,0,m.cs,wrap64 (askK b time e)⟩
def askB (b:Bs) (tx:ByteArray) (time:Int):An:=match prs tx.data.toList with
 | .error f=>⟨f.1,((tx.size-f.2:Nat):Int),[],0⟩
 | .ok e=>anE b time e
def doB (b:Bs) (d:Dn):Bs×An :=
 if d.kind=1 then ((takeB b d.se d.t d.v).1,⟨(takeB b d.se d.t d.v).2,0,[],0⟩)
 else if d.kind=2 then ((rollB b d.till).1,⟨(rollB b d.till).2,0,[],0⟩)
 else if d.kind=3 then ((forgB b d.tier d.till).1,⟨(forgB b d.tier d.till).2,0,[],0⟩)
 else if d.kind=4 then (b,askB b d.tx d.till)
 else (b,⟨1,0,[],0⟩)
def playB (b:Bs):List Dn→Bs×List An
 | []=>(b,[])
 | d::r=>((playB (doB b d).1 r).1,(doB b d).2::(playB (doB b d).1 r).2)
def b0:Bs:=⟨[],0⟩
theorem playB_snoc (d:Dn):∀ (l:List Dn) (b:Bs),playB b (l++[d])=((doB (playB b l).1 d).1,(playB b l).2++[(doB (playB b l).1 d).2])
 | [],b=>by simp [playB]
 | x::r,b=>by simp only [List.cons_append,playB,playB_snoc d r]
structure BInv (b:Bs):Prop where
 srt:b.l.Pairwise (fun x y=>cmpS x.s.se y.s.se<0)
 len:b.l.length≤8
 kee:∀ k∈b.l,Grain.Keeps k.s k.A
 ft:∀ k∈b.l,k.s.ft=b.hz
 hz:b.hz%10=0∧0≤b.hz∧b.hz≤1000000
theorem b0_inv:BInv b0:=⟨List.Pairwise.nil,by simp [b0],fun k hk=>by simp [b0] at hk,fun k hk=>by simp [b0] at hk,by simp [b0]⟩
theorem cmpS_lt {a b c:Lb} (h:cmpS a b<0) (h':cmpS b c<0):cmpS a c<0:=by
 rw [cmpS_L] at *
 have h1:cmpL a b = -1:=by rcases cmpL_cases a b with h | ⟨h,_⟩ | h <;> omega
 have h2:cmpL b c = -1:=by rcases cmpL_cases b c with h | ⟨h,_⟩ | h <;> omega
 rw [cmpL_trans a b c h1 h2];decide
theorem kp_get {l:List Kp} {k:Nat} (h:k<l.length):kp l k=l[k]:=by simp [kp,List.getD,List.getElem?_eq_getElem h]
theorem kp_mem {l:List Kp} {k:Nat} (h:k<l.length):kp l k∈l:=by rw [kp_get h];exact List.getElem_mem h
theorem bpos_le (l:List Kp) (s:Lb):bpos l s≤l.length:=by unfold bpos;exact (List.takeWhile_sublist _).length_le
theorem bpos_iff {l:List Kp} (h:l.Pairwise (fun x y=>cmpS x.s.se y.s.se<0)) (s:Lb):∀ k,k<l.length→(cmpS (kp l k).s.se s<0↔k<bpos l s):=by
 induction l with
 | nil=>intro k hk;simp at hk
 | cons a r ih =>
  rw [List.pairwise_cons] at h
  intro k hk
  by_cases ha:cmpS a.s.se s<0
  ·have e:bpos (a::r) s=bpos r s+1:=by simp [bpos,ha]
   rw [e]
   cases k with
   | zero=>simp [kp,ha]
   | succ j =>
    have:=ih h.2 j (by simpa using hk)
    have e2:kp (a::r) (j+1)=kp r j:=by simp [kp]
    rw [e2,this];omega
  ·have e:bpos (a::r) s=0:=by simp [bpos,ha]
   rw [e]
   refine ⟨fun hc=>?_,fun hc=>by omega⟩
   cases k with
   | zero=>simp [kp] at hc;exact absurd hc ha
   | succ j =>
    have hj:j<r.length:=by simpa using hk
    have e2:kp (a::r) (j+1)=kp r j:=by simp [kp]
    rw [e2] at hc
    exact absurd (cmpS_lt (h.1 _ (kp_mem hj)) hc) ha
theorem sapp_same {s:Grain.Shf} {t v:Int} (h:(Grain.sapp s t v).2=0):(Grain.sapp s t v).1.se=s.se∧(Grain.sapp s t v).1.ft=s.ft:=by
 unfold Grain.sapp at *
 repeat' (split at h)
 all_goals first | (exfalso;simp_all;done) | skip
 all_goals (simp_all;try (repeat rw [if_neg (by omega)]);try simp)
theorem sroll_same {s:Grain.Shf} {t:Int} (h:(Grain.sroll s t).2=0):(Grain.sroll s t).1.se=s.se∧(Grain.sroll s t).1.ft=Grain.nft s t:=by
 unfold Grain.sroll at *
 repeat' (split at h)
 all_goals first | (exfalso;simp_all;done) | skip
 all_goals (simp_all;try (repeat rw [if_neg (by omega)]);try simp)
theorem sforg_same {s:Grain.Shf} {k t:Int} (h:(Grain.sforg s k t).2=0):(Grain.sforg s k t).1.se=s.se∧(Grain.sforg s k t).1.ft=s.ft:=by
 unfold Grain.sforg at *
 repeat' (split at h)
 all_goals first | (exfalso;simp_all;done) | skip
 all_goals simp_all
theorem eachB_inv {f:Grain.Shf→Grain.Shf×Int} (hk:∀ s A,Grain.Keeps s A→(f s).2=0→Grain.Keeps (f s).1 A) (hs:∀ s,(f s).2=0→(f s).1.se=s.se) {z z':Int} (hf:∀ s,(f s).2=0→s.ft=z→(f s).1.ft=z') :
  ∀ (l l':List Kp),eachB f l=.ok l'→(∀ k∈l,Grain.Keeps k.s k.A)→(∀ k∈l,k.s.ft=z)→(∀ k∈l',Grain.Keeps k.s k.A)∧(∀ k∈l',k.s.ft=z')∧l'.map (fun k=>k.s.se)=l.map (fun k=>k.s.se)∧l'.map (fun k=>k.A)=l.map (fun k=>k.A):=by
 intro l
 induction l with
 | nil =>
  intro l' h _ _
  simp [eachB] at h
  subst h
  simp
 | cons a r ih =>
  intro l' h h1 h2
  by_cases ha:(f a.s).2=0
  ·simp only [eachB,ha,if_true] at h
   cases hr:eachB f r with
   | error x=>rw [hr] at h;simp at h
   | ok r' =>
    rw [hr] at h
    simp at h
    subst h
    obtain ⟨i1,i2,i3,i4⟩:=ih r' hr (fun k hk=>h1 k (by simp [hk])) (fun k hk=>h2 k (by simp [hk]))
    refine ⟨?_,?_,?_,?_⟩
    ·intro k hk'
     rcases List.mem_cons.1 hk' with e | e
     ·rw [e];exact hk _ _ (h1 a (by simp)) ha
     ·exact i1 k e
    ·intro k hk'
     rcases List.mem_cons.1 hk' with e | e
     ·rw [e];exact hf _ ha (h2 a (by simp))
     ·exact i2 k e
    ·simp [i3,hs _ ha]
    ·simp [i4]
  ·simp [eachB,ha] at h
theorem srt_map {l l':List Kp} (e:l'.map (fun k=>k.s.se)=l.map (fun k=>k.s.se)) (h:l.Pairwise (fun x y=>cmpS x.s.se y.s.se<0)):l'.Pairwise (fun x y=>cmpS x.s.se y.s.se<0):=by
 have h1:(l.map (fun k=>k.s.se)).Pairwise (fun x y=>cmpS x y<0):=List.pairwise_map.2 h
 rw [← e] at h1
 exact List.pairwise_map.1 h1
theorem rollB_inv {b:Bs} (h:BInv b) (t:Int):BInv (rollB b t).1:=by
 unfold rollB
 by_cases h1:t<0∨1000000<t
 ·rw [if_pos h1];exact h
 ·rw [if_neg h1]
  cases he:eachB (fun s=>Grain.sroll s t) b.l with
  | error x=>exact h
  | ok l =>
   obtain ⟨i1,i2,i3,_⟩:=eachB_inv (z:=b.hz) (z':=max b.hz (Grain.beg t 10)) (fun s A hk hz=>Grain.keeps_roll hk hz) (fun s hz=>(sroll_same hz).1) (fun s hz e=>by rw [(sroll_same hz).2,Grain.nft,e]) b.l l he h.kee h.ft
   have hl:l.length=b.l.length:=by simpa using congrArg List.length i3
   have hb:=Grain.beg_bd (t:=t) (st:=10) (.inl rfl) (by omega)
   have:=h.hz
   refine ⟨srt_map i3 h.srt,by show l.length≤8;rw [hl];exact h.len,i1,i2,?_⟩
   show max b.hz (Grain.beg t 10)%10=0∧0≤max b.hz (Grain.beg t 10)∧max b.hz (Grain.beg t 10)≤1000000
   omega
theorem forgB_inv {b:Bs} (h:BInv b) (k t:Int):BInv (forgB b k t).1:=by
 unfold forgB
 by_cases h1:t<0∨1000000<t
 ·rw [if_pos h1];exact h
 ·rw [if_neg h1]
  by_cases h2:k=0∨k=1∨k=2
  ·rw [if_pos h2]
   cases he:eachB (fun s=>Grain.sforg s k t) b.l with
   | error x=>exact h
   | ok l =>
    obtain ⟨i1,i2,i3,_⟩:=eachB_inv (z:=b.hz) (z':=b.hz) (fun s A hk hz=>Grain.keeps_forg hk hz) (fun s hz=>(sforg_same hz).1) (fun s hz e=>by rw [(sforg_same hz).2,e]) b.l l he h.kee h.ft
    have hl:l.length=b.l.length:=by simpa using congrArg List.length i3
    exact ⟨srt_map i3 h.srt,by show l.length≤8;rw [hl];exact h.len,i1,i2,h.hz⟩
  ·rw [if_neg h2];exact h
theorem putB_inv {b:Bs} (h:BInv b) {i:Nat} (hi:i<b.l.length) (t v:Int):BInv (putB b i t v).1:=by
 unfold putB
 by_cases h1:(Grain.sapp (kp b.l i).s t v).2=0
 ·rw [if_pos h1]
  have e1:=sapp_same h1
  have hm:=kp_mem hi
  refine ⟨srt_map (l:=b.l) ?_ h.srt,by simpa using h.len,?_,?_,h.hz⟩
  ·show (b.l.set i _).map (fun k=>k.s.se)=_
   apply List.ext_getElem (by simp)
   intro j hj1 hj2
   by_cases e:i=j
   ·subst e
    rw [List.getElem_map,List.getElem_map,List.getElem_set_self]
    show (Grain.sapp _ t v).1.se=_
    rw [e1.1,kp_get hi]
   ·simp [e]
  ·intro k hk
   rcases List.mem_or_eq_of_mem_set hk with e | e
   ·exact h.kee k e
   ·rw [e];exact Grain.keeps_app (h.kee _ hm) h1
  ·intro k hk
   rcases List.mem_or_eq_of_mem_set hk with e | e
   ·exact h.ft k e
   ·rw [e];show _=b.hz;rw [e1.2];exact h.ft _ hm
 ·rw [if_neg h1];exact h
theorem bpos_ge {l:List Kp} (h:l.Pairwise (fun x y=>cmpS x.s.se y.s.se<0)) {s:Lb} (hn:bhas l s=false):∀ k∈l.drop (bpos l s),cmpS s k.s.se<0:=by
 intro k hk
 obtain ⟨j,hj,rfl⟩:=List.mem_iff_getElem.1 hk
 simp only [List.length_drop] at hj
 rw [List.getElem_drop]
 have hjl:bpos l s+j<l.length:=by omega
 have h1:=bpos_iff h s (bpos l s+j) hjl
 rw [kp_get hjl] at h1
 have h2:¬ cmpS l[bpos l s+j].s.se s<0:=fun hc=>by have:=h1.1 hc;omega
 rw [cmpS_back] 
 rcases Int.lt_or_le 0 (cmpS l[bpos l s+j].s.se s) with h3 | h3
 ·omega
 ·exfalso
  have h4:cmpS l[bpos l s+j].s.se s=0:=by omega
  cases j with
  | zero =>
   have:bhas l s=true:=by
    have hp:bpos l s<l.length:=by omega
    simp only [bhas,hp,decide_true,Bool.true_and,decide_eq_true_eq]
    rw [kp_get hp];exact h4
   rw [this] at hn;cases hn
  | succ q =>
   have hp:bpos l s<l.length:=by omega
   have h5:=(List.pairwise_iff_getElem.1 h) (bpos l s) (bpos l s+(q+1)) hp hjl (by omega)
   rw [(cmpS_zero _ _).1 h4] at h5
   have h6:=(bpos_iff h s (bpos l s) hp).1 (by rw [kp_get hp];exact h5)
   omega
theorem putN_inv {b:Bs} (h:BInv b) {s:Lb} (hs:wrongS s=0) (hn:bhas b.l s=false) (t v:Int):BInv (putN b (bpos b.l s) s t v).1:=by
 unfold putN
 by_cases h0:8≤b.l.length
 ·rw [if_pos h0];exact h
 rw [if_neg h0]
 by_cases h1:(Grain.sroll (newS s) b.hz).2=0
 ·rw [if_neg (by simp [h1])]
  by_cases h2:(Grain.sapp (Grain.sroll (newS s) b.hz).1 t v).2=0
  ·rw [if_neg (by simp [h2])]
   have e1:=sroll_same h1
   have e2:=sapp_same h2
   have k0:Grain.Keeps (newS s) []:=Grain.keeps_new hs
   have k1:=Grain.keeps_roll k0 h1
   have k2:=Grain.keeps_app k1 h2
   have ese:(Grain.sapp (Grain.sroll (newS s) b.hz).1 t v).1.se=s:=by rw [e2.1,e1.1];rfl
   have eft:(Grain.sapp (Grain.sroll (newS s) b.hz).1 t v).1.ft=b.hz:=by
    rw [e2.2,e1.2]
    show max 0 (Grain.beg b.hz 10)=b.hz
    have:=h.hz
    unfold Grain.beg
    omega
   refine ⟨?_,?_,?_,?_,h.hz⟩
   ·show (b.l.take _++[_]++b.l.drop _).Pairwise _
    rw [List.append_assoc,List.pairwise_append]
    refine ⟨h.srt.sublist (List.take_sublist _ _),?_,?_⟩
    ·rw [List.singleton_append,List.pairwise_cons]
     refine ⟨fun k hk=>?_,h.srt.sublist (List.drop_sublist _ _)⟩
     rw [ese];exact bpos_ge h.srt hn k hk
    ·intro k hk y hy
     obtain ⟨j,hj,rfl⟩:=List.mem_iff_getElem.1 hk
     have hj':j<bpos b.l s∧j<b.l.length:=by simp at hj;omega
     rw [List.getElem_take]
     have h3:=(bpos_iff h.srt s j hj'.2).2 hj'.1
     rw [kp_get hj'.2] at h3
     rcases List.mem_append.1 hy with hy | hy
     ·simp at hy;rw [hy];rw [ese];exact h3
     ·exact cmpS_lt h3 (bpos_ge h.srt hn y hy)
   ·show (b.l.take _++[_]++b.l.drop _).length≤8
    have:=bpos_le b.l s
    simp;omega
   ·intro k hk
    rcases List.mem_append.1 hk with hk | hk
    ·rcases List.mem_append.1 hk with hk | hk
     ·exact h.kee k (List.mem_of_mem_take hk)
     ·simp at hk;rw [hk];simpa using k2
    ·exact h.kee k (List.mem_of_mem_drop hk)
   ·intro k hk
    rcases List.mem_append.1 hk with hk | hk
    ·rcases List.mem_append.1 hk with hk | hk
     ·exact h.ft k (List.mem_of_mem_take hk)
     ·simp at hk;rw [hk];exact eft
    ·exact h.ft k (List.mem_of_mem_drop hk)
  ·rw [if_pos (by simpa using h2)];exact h
 ·rw [if_pos (by simpa using h1)];exact h
theorem bhas_lt {l:List Kp} {s:Lb} (h:bhas l s=true):bpos l s<l.length:=by simp [bhas] at h;exact h.1
theorem takeB_inv {b:Bs} (h:BInv b) (s:Lb) (t v:Int):BInv (takeB b s t v).1:=by
 unfold takeB
 by_cases h1:wrongS s=0
 ·rw [if_neg (by simp [h1])]
  by_cases h2:Grain.inR t v=false
  ·rw [if_pos h2];exact h
  rw [if_neg h2]
  by_cases h3:t<b.hz
  ·rw [if_pos h3];exact h
  rw [if_neg h3]
  by_cases h4:bhas b.l s=true
  ·rw [if_pos h4];exact putB_inv h (bhas_lt h4) t v
  ·rw [if_neg h4];exact putN_inv h h1 (by simpa using h4) t v
 ·rw [if_pos h1];exact h
theorem doB_inv {b:Bs} (h:BInv b) (d:Dn):BInv (doB b d).1:=by
 unfold doB
 repeat' split
 ·exact takeB_inv h _ _ _
 ·exact rollB_inv h _
 ·exact forgB_inv h _ _
 ·exact h
 ·exact h
theorem playB_inv:∀ (l:List Dn) {b:Bs},BInv b→BInv (playB b l).1
 | [],_,h=>h
 | d::r,_,h=>playB_inv r (doB_inv h d)
open Go.RowKit
def lnsB (l:List Kp):List Ln:=l.map fun k=>(k.s.se,k.A)
def FewB (m:Nat) (b:Bs):Prop:=∀ k∈b.l,k.A.length≤m
theorem FewB.mono {m m':Nat} {b:Bs} (h:FewB m b) (hm:m≤m'):FewB m' b:=fun k hk=>Nat.le_trans (h k hk) hm
theorem eachB_A {f:Grain.Shf→Grain.Shf×Int}:∀ (l l':List Kp),eachB f l=.ok l'→l'.map (fun k=>k.A)=l.map (fun k=>k.A):=by
 intro l
 induction l with
 | nil=>intro l' h;simp [eachB] at h;subst h;rfl
 | cons a r ih =>
  intro l' h
  by_cases ha:(f a.s).2=0
  ·simp only [eachB,ha,if_true] at h
   cases hr:eachB f r with
   | error x=>rw [hr] at h;simp at h
   | ok r' =>
    rw [hr] at h
    simp at h
    subst h
    simp [ih r' hr]
  ·simp [eachB,ha] at h
theorem few_map {m:Nat} {l l':List Kp} (e:l'.map (fun k=>k.A)=l.map (fun k=>k.A)) (h:∀ k∈l,k.A.length≤m):∀ k∈l',k.A.length≤m:=by
 intro k hk
 have h1:k.A∈l'.map (fun k=>k.A):=List.mem_map_of_mem hk
 rw [e] at h1
 obtain ⟨y,hy,e2⟩:=List.mem_map.1 h1
 rw [← e2];exact h y hy
theorem kp_few {m:Nat} {l:List Kp} (h:∀ k∈l,k.A.length≤m) (i:Nat):(kp l i).A.length≤m:=by
 by_cases hi:i<l.length
 ·exact h _ (kp_mem hi)
 ·have:kp l i=⟨Grain.szero,[]⟩:=by simp [kp,List.getD,List.getElem?_eq_none (Nat.le_of_not_lt hi)]
  rw [this];simp
theorem takeB_few {m:Nat} {b:Bs} (h:FewB m b) (s:Lb) (t v:Int):FewB (m+1) (takeB b s t v).1:=by
 have h':FewB (m+1) b:=h.mono (by omega)
 unfold takeB
 repeat' split
 all_goals first | exact h' | skip
 ·unfold putB
  split
  ·intro k hk
   rcases List.mem_or_eq_of_mem_set hk with e | e
   ·exact h' k e
   ·rw [e]
    have:=kp_few h (bpos b.l s)
    simp;omega
  ·exact h'
 ·unfold putN
  repeat' split
  all_goals first | exact h' | skip
  intro k hk
  rcases List.mem_append.1 hk with hk | hk
  ·rcases List.mem_append.1 hk with hk | hk
   ·exact h' k (List.mem_of_mem_take hk)
   ·simp at hk;rw [hk];simp
  ·exact h' k (List.mem_of_mem_drop hk)
theorem doB_few {m:Nat} {b:Bs} (h:FewB m b) (d:Dn):FewB (m+1) (doB b d).1:=by
 have h':FewB (m+1) b:=h.mono (by omega)
 unfold doB
 repeat' split
 ·exact takeB_few h _ _ _
 ·show FewB (m+1) (rollB b d.till).1
  unfold rollB
  split
  ·exact h'
  ·cases he:eachB (fun s=>Grain.sroll s d.till) b.l with
   | error x=>exact h'
   | ok l=>exact few_map (eachB_A _ _ he) h'
 ·show FewB (m+1) (forgB b d.tier d.till).1
  unfold forgB
  split
  ·exact h'
  ·split
   ·cases he:eachB (fun s=>Grain.sforg s d.tier d.till) b.l with
    | error x=>exact h'
    | ok l=>exact few_map (eachB_A _ _ he) h'
   ·exact h'
 ·exact h'
 ·exact h'
theorem playB_few:∀ (l:List Dn) {m:Nat} {b:Bs},FewB m b→FewB (m+l.length) (playB b l).1
 | [],m,b,h=>h
 | d::r,m,b,h=>by
  have:=playB_few r (doB_few h d)
  simp only [playB,List.length_cons]
  exact this.mono (by omega)
theorem kp_right {s:Grain.Shf} {A:List (Int×Int)} (hk:Grain.Keeps s A) (h5:A.length≤500):Grain.Right A :=
 Grain.right_of ((Grain.right_iff A).2 ⟨h5,hk.took.rin,hk.took.pw⟩)
theorem look_of {s:Grain.Shf} {A:List (Int×Int)} (hk:Grain.Keeps s A) {f t:Int} {J:Grain.Sm} (h:lookS s f t=.ok J):J=Grain.of (Grain.win A f t):=by
 unfold lookS at h
 by_cases h0:(Grain.choose s f t).2=0
 ·rw [if_pos h0] at h
  obtain ⟨hc,_,hw⟩:=Grain.choose_ok h0
  have hf:=Grain.cvr_fol hc
  have hr:Grain.read s (Grain.choose s f t).1=(Grain.rdS s (Grain.choose s f t).1,(Grain.rdN s (Grain.choose s f t).1:Int),0):=by
   unfold Grain.read
   rw [if_neg (by simp [hw]),if_neg (by rw [hf];decide)]
  rw [hr] at h
  simp at h
  rw [← h];exact Grain.rdS_exact hk _ _ hc
 ·rw [if_neg h0] at h;simp at h
theorem st_sersB {l:List Kp} {k:Nat}:(st (sersB l) k).ser=(kp l k).s.se:=by
 by_cases hk:k<l.length
 ·simp [st,sersB,kp,List.getD,hk]
 ·simp [st,sersB,kp,List.getD,List.getElem?_eq_none (Nat.le_of_not_lt hk),Grain.szero]
theorem lnsB_take {l:List Kp} {k:Nat} (h:k<l.length):lnsB (l.take (k+1))=lnsB (l.take k)++[((kp l k).s.se,(kp l k).A)]:=by
 unfold lnsB
 rw [List.take_add_one,List.getElem?_eq_getElem h,kp_get h,List.map_append];rfl
theorem winT_keeps {l:List Kp} (hk:∀ k∈l,Grain.Keeps k.s k.A) (h5:∀ k∈l,k.A.length≤500) (h:Hd) (time:Int):∀ (k:Nat),k≤l.length→∀ c,winT (fun i=>lookS (kp l i).s (max 0 (time-h.range)) time) h (sersB l) k=.ok c→c=winC (lnsB (l.take k)) h time:=by
 intro k
 induction k with
 | zero=>intro _ c hc;simp [winT] at hc;subst hc;rfl
 | succ k ih =>
  intro hkl c hc
  have hk':k<l.length:=by omega
  have hx:winX ((kp l k).s.se,(kp l k).A) h time=if says (kp l k).s.se h.ms=true then (if (valP h.word (Grain.of (Grain.win (kp l k).A (time-h.range) time))).2=true then [((kp l k).s.se,(valP h.word (Grain.of (Grain.win (kp l k).A (time-h.range) time))).1)] else []) else []:=rfl
  rw [winT] at hc
  cases hp:winT (fun i=>lookS (kp l i).s (max 0 (time-h.range)) time) h (sersB l) k with
  | error x=>rw [hp] at hc;simp at hc
  | ok c0 =>
   rw [hp] at hc
   have e0:=ih (by omega) c0 hp
   rw [lnsB_take hk',winC_append,← e0]
   simp only [winC,List.append_nil]
   rw [hx]
   simp only [st_sersB] at hc
   by_cases e:says (kp l k).s.se h.ms=true
   ·rw [if_pos e] at hc ⊢
    cases hl:lookS (kp l k).s (max 0 (time-h.range)) time with
    | error x=>rw [hl] at hc;simp at hc
    | ok J =>
     rw [hl] at hc
     have hJ:=look_of (hk _ (kp_mem hk')) hl
     rw [win_max (kp_right (hk _ (kp_mem hk')) (h5 _ (kp_mem hk')))] at hJ
     injection hc with hc
     rw [← hc,hJ]
   ·rw [if_neg e] at hc ⊢
    injection hc with hc
    rw [← hc];simp
theorem lnsB_fine {l:List Kp} (hk:∀ k∈l,Grain.Keeps k.s k.A) (h5:∀ k∈l,k.A.length≤500):∀ x∈lnsB l,x.1.length≤4∧Grain.Right x.2:=by
 intro x hx
 obtain ⟨k,hkm,rfl⟩:=List.mem_map.1 hx
 exact ⟨wrongS_len (hk k hkm).sr.se,kp_right (hk k hkm) (h5 k hkm)⟩
theorem base_gd {b:Bs} (hb:BInv b) (h5:FewB 500 b) (time:Int):∀ h,winBad h=0→∀ c,overW (fun i f t=>lookS (kp b.l i).s f t) (sersB b.l) b.l.length time h=.ok c→Gd ⟨false,c⟩:=by
 intro h _ c hc
 have e:=winT_keeps hb.kee h5 h time b.l.length (Nat.le_refl _) c hc
 rw [List.take_of_length_le (Nat.le_refl _)] at e
 rw [e]
 exact gd_win (lnsB_fine hb.kee h5) (by simp [lnsB];exact hb.len) h time
theorem base_bd {b:Bs} (hb:BInv b) (h5:FewB 500 b) (time:Int):∀ i a s,lookS (kp b.l i).s a time=.ok s→-9223372036854775808≤s.t∧s.t≤9223372036854775807:=by
 intro i a s hs
 by_cases hi:i<b.l.length
 ·have hR:=kp_right (hb.kee _ (kp_mem hi)) (h5 _ (kp_mem hi))
  have e:=look_of (hb.kee _ (kp_mem hi)) hs
  have hl5:(Grain.win (kp b.l i).A a time).length≤500:=Nat.le_trans (Grain.win_len _ _ _) hR.few
  have h1:=(of_ok (Grain_win_val hR a time) hl5).t
  rw [e]
  omega
 ·have e:kp b.l i=⟨Grain.szero,[]⟩:=by simp [kp,List.getD,List.getElem?_eq_none (Nat.le_of_not_lt hi)]
  rw [e] at hs
  have hk:Grain.Keeps Grain.szero []:=Grain.keeps_new (se:=[]) (by decide)
  have e2:=look_of hk hs
  rw [e2]
  show -9223372036854775808≤(0:Int)∧(0:Int)≤9223372036854775807
  decide
open Go.RowKit
def vcells:List ShT→List Value
 | []=>[]
 | x::r=>x.cells++vcells r
def shd:ShT:=⟨Grain.szero,none,0,none,0,none,0,none,0⟩
def sht (l:List ShT) (k:Nat):ShT:=l.getD k shd
theorem shc_len (x:ShT):x.cells.length=9:=rfl
theorem vcells_length (l:List ShT):(vcells l).length=l.length*9:=by
 induction l with
 | nil=>rfl
 | cons x r ih=>simp only [vcells,List.length_append,shc_len,ih,List.length_cons];omega
theorem vcells_append (a b:List ShT):vcells (a++b)=vcells a++vcells b:=by
 induction a with
 | nil=>rfl
 | cons x r ih=>simp only [List.cons_append,vcells,ih,List.append_assoc]
theorem vcells_take (l:List ShT):∀ m,vcells (l.take m)=(vcells l).take (m*9):=by
 induction l with
 | nil=>intro m;simp [vcells]
 | cons x r ih =>
  intro m
  match m with
  | 0=>simp [vcells]
  | m+1 =>
   rw [List.take_succ_cons,vcells,vcells,ih,show (m+1)*9=x.cells.length+m*9 from by rw [shc_len];omega,List.take_length_add_append]
theorem vcells_drop (l:List ShT):∀ m,vcells (l.drop m)=(vcells l).drop (m*9):=by
 induction l with
 | nil=>intro m;simp [vcells]
 | cons x r ih =>
  intro m
  match m with
  | 0=>simp
  | m+1 =>
   rw [List.drop_succ_cons,vcells,ih,show (m+1)*9=x.cells.length+m*9 from by rw [shc_len];omega,List.drop_length_add_append]
theorem shc_one (x:ShT):∀ u∈x.cells,u.oneCell'=true:=by
 intro u hu
 simp only [ShT.cells,List.mem_cons,List.not_mem_nil,or_false] at hu
 rcases hu with e | e | e | e | e | e | e | e | e <;> (subst e;rfl)
theorem vcells_one (l:List ShT):∀ u∈vcells l,u.oneCell'=true:=by
 induction l with
 | nil=>intro u hu;simp [vcells] at hu
 | cons x r ih =>
  intro u hu
  rcases List.mem_append.1 hu with e | e
  ·exact shc_one x u e
  ·exact ih u e
theorem vcells_at:∀ (l:List ShT) (k j:Nat),k<l.length→j<9→(vcells l)[k*9+j]?=(sht l k).cells[j]?
 | [],k,j,h,_=>by simp at h
 | x::r,0,j,_,hj=>by
  show (x.cells++vcells r)[0*9+j]?=x.cells[j]?
  rw [Nat.zero_mul,Nat.zero_add,List.getElem?_append_left (by rw [shc_len];exact hj)]
 | x::r,k+1,j,h,hj=>by
  have ih:=vcells_at r k j (by simpa using h) hj
  show (x.cells++vcells r)[(k+1)*9+j]?=_
  rw [List.getElem?_append_right (by rw [shc_len];omega),shc_len,show (k+1)*9+j-9=k*9+j from by omega,ih]
  simp [sht]
theorem sht_get {l:List ShT} {k:Nat} (h:k<l.length):sht l k=l[k]:=by simp [sht,List.getD,List.getElem?_eq_getElem h]
theorem sht_mem {l:List ShT} {k:Nat} (h:k<l.length):sht l k∈l:=by rw [sht_get h];exact List.getElem_mem h
def Cells9 (w:World) (b o:Nat) (x:ShT):Prop :=
 w.cell? ⟨b,o,none⟩=some (.slice x.a0 x.s.se.length x.c0)∧w.cell? ⟨b,o+1,none⟩=some (.slice x.a1 x.s.ra.length x.c1)∧w.cell? ⟨b,o+2,none⟩=some (.slice x.a2 x.s.fi.length x.c2)∧w.cell? ⟨b,o+3,none⟩=some (.slice x.a3 x.s.co.length x.c3) ∧
 w.cell? ⟨b,o+4,none⟩=some (.int .i64 x.s.rf)∧w.cell? ⟨b,o+5,none⟩=some (.int .i64 x.s.ff)∧w.cell? ⟨b,o+6,none⟩=some (.int .i64 x.s.ft)∧w.cell? ⟨b,o+7,none⟩=some (.int .i64 x.s.cf)∧w.cell? ⟨b,o+8,none⟩=some (.int .i64 x.s.ct)
theorem Cells9.below {w w':World} {B b o:Nat} {x:ShT} (h:Cells9 w b o x) (hb:Below B w w') (hl:b<B):Cells9 w' b o x:=by
 obtain ⟨h0,h1,h2,h3,h4,h5,h6,h7,h8⟩:=h
 exact ⟨(hb.cell (p:=⟨b,_,none⟩) hl).trans h0,(hb.cell (p:=⟨b,_,none⟩) hl).trans h1,(hb.cell (p:=⟨b,_,none⟩) hl).trans h2,(hb.cell (p:=⟨b,_,none⟩) hl).trans h3,(hb.cell (p:=⟨b,_,none⟩) hl).trans h4,(hb.cell (p:=⟨b,_,none⟩) hl).trans h5,(hb.cell (p:=⟨b,_,none⟩) hl).trans h6,(hb.cell (p:=⟨b,_,none⟩) hl).trans h7,(hb.cell (p:=⟨b,_,none⟩) hl).trans h8⟩
theorem seg_shelf {w:World} {ao:Option Addr} {l:List ShT} {k:Nat} (h:Seg w ao (vcells l)) (hk:k<l.length) :
  ∃ b off,ao=some ⟨b,off,none⟩∧b<w.heap.size∧∀ j,j<l.length→Cells9 w b (off+j*9) (sht l j):=by
 have hs:=vcells_length l
 rcases h with h | ⟨b,off,rfl,h⟩
 ·rw [h] at hs;simp at hs;omega
 ·have hc:∀ j,j<l.length→Cells9 w b (off+j*9) (sht l j):=fun j hj=>by
   have g:∀ i,i<9→w.cell? ⟨b,off+j*9+i,none⟩=(sht l j).cells[i]?:=fun i hi=>by
    rw [← vcells_at l j i hj hi,Nat.add_assoc];exact h (j*9+i) (by omega)
   exact ⟨g 0 (by omega),g 1 (by omega),g 2 (by omega),g 3 (by omega),g 4 (by omega),g 5 (by omega),g 6 (by omega),g 7 (by omega),g 8 (by omega)⟩
  exact ⟨b,off,rfl,World.block_lt_of_cell? w ⟨b,off+k*9,none⟩ (hc k hk).1,hc⟩
theorem vcells_set:∀ (l:List ShT) (p:Nat) (y:ShT),p<l.length →
  (((((((((vcells l).set (p*9) (.slice y.a0 y.s.se.length y.c0)).set (p*9+1) (.slice y.a1 y.s.ra.length y.c1)).set (p*9+2) (.slice y.a2 y.s.fi.length y.c2)).set (p*9+3) (.slice y.a3 y.s.co.length y.c3)).set (p*9+4) (.int .i64 y.s.rf)).set (p*9+5) (.int .i64 y.s.ff)).set (p*9+6) (.int .i64 y.s.ft)).set (p*9+7) (.int .i64 y.s.cf)).set (p*9+8) (.int .i64 y.s.ct)=vcells (l.set p y)
 | [],_,_,h=>by simp at h
 | x::r,0,y,_=>by simp [vcells,ShT.cells]
 | x::r,p+1,y,h=>by
  have ih:=vcells_set r p y (by simpa using h)
  have e:∀ i,(p+1)*9+i=x.cells.length+(p*9+i):=fun i=>by rw [shc_len];omega
  have e0:(p+1)*9=x.cells.length+p*9:=by rw [shc_len];omega
  have sa:∀ (L:List Value) (n:Nat) (v:Value),(x.cells++L).set (x.cells.length+n) v=x.cells++L.set n v:=fun L n v=>by
   rw [List.set_append,if_neg (by omega),Nat.add_sub_cancel_left]
  rw [List.set_cons_succ,vcells,vcells,← ih,e 1,e 2,e 3,e 4,e 5,e 6,e 7,e 8,e0,sa,sa,sa,sa,sa,sa,sa,sa,sa]
theorem own_lower {w:World} {base base' e size n:Nat} {v:Value} {xs:List Value} (h:w.ownsRow base e size v n xs) (hl:base'≤base):w.ownsRow base' e size v n xs :=
 ⟨h.1,h.2.imp id (fun ⟨g,cap,cur,hv,hb,rest⟩=>⟨g,cap,cur,hv,Nat.le_trans hl hb,rest⟩)⟩
end Go.GrainU
namespace Go.Proofs.YtoldmigappbjcaaGreatDoor
open Go.RowKit Go.GrainU
theorem so_thaw {w:World} {B:Nat} {x:ShT} (h:w.heap[B]?=some (so x)) :
  w.frozen? ⟨B,0,none⟩=false∧w.frozen? ⟨B,1,none⟩=false∧w.frozen? ⟨B,2,none⟩=false∧w.frozen? ⟨B,3,none⟩=false∧w.frozen? ⟨B,4,none⟩=false∧w.frozen? ⟨B,5,none⟩=false∧w.frozen? ⟨B,6,none⟩=false∧w.frozen? ⟨B,7,none⟩=false∧w.frozen? ⟨B,8,none⟩=false:=by
 unfold so at h
 simp [World.frozen?,h]
def Other (t:TypeId):Prop:=t≠59∧t≠88∧t≠34∧t≠145
theorem ShO.keep {lo:Nat} {w w':World} {x:ShT} {r:Option Nat} (h:ShO lo w x) (hg:w.grownBy w' r) (hr:∀ k,r=some k→∃ (c:Array Value) (t:TypeId) (fr:Nat×Nat),w.heap[k]?=some (.cells c t fr)∧t≠88∧t≠34∧t≠145):ShO lo w' x :=
 ⟨own_keep h.o0 hg (fun k hk e=>by obtain ⟨c,t,fr,hh,h1,h2,h3⟩:=hr k e;exact own_far h.o0 hh h1 hk),own_keep h.o1 hg (fun k hk e=>by obtain ⟨c,t,fr,hh,h1,h2,h3⟩:=hr k e;exact own_far h.o1 hh h2 hk),own_keep h.o2 hg (fun k hk e=>by obtain ⟨c,t,fr,hh,h1,h2,h3⟩:=hr k e;exact own_far h.o2 hh h3 hk),own_keep h.o3 hg (fun k hk e=>by obtain ⟨c,t,fr,hh,h1,h2,h3⟩:=hr k e;exact own_far h.o3 hh h3 hk),h.ne,h.fits,h.n0,h.n1,h.n2,h.n3⟩
theorem ShO.lower {lo lo':Nat} {w:World} {x:ShT} (h:ShO lo w x) (hl:lo'≤lo):ShO lo' w x :=
 ⟨own_lower h.o0 hl,own_lower h.o1 hl,own_lower h.o2 hl,own_lower h.o3 hl,h.ne,h.fits,h.n0,h.n1,h.n2,h.n3⟩
structure RowS (w:World) (lo:Nat) (v:Value) (n:Nat) (l:List ShT):Prop where
 own:w.ownsRow lo 59 9 v n (vcells l)
 shs:∀ x∈l,ShO lo w x
theorem RowS.len {w:World} {lo n:Nat} {v:Value} {l:List ShT} (h:RowS w lo v n l):n=l.length:=by
 have:=h.own.1;rw [vcells_length] at this;omega
theorem RowS.below {w w':World} {lo n:Nat} {v:Value} {l:List ShT} (h:RowS w lo v n l) (hb:Below w.heap.size w w'):RowS w' lo v n l :=
 ⟨own_below h.own hb,fun x hx=>(h.shs x hx).below hb⟩
theorem RowS.keep {w w':World} {lo n k:Nat} {v:Value} {l:List ShT} {c:Array Value} {t:TypeId} {fr:Nat×Nat} (h:RowS w lo v n l) (hk:w.heap[k]?=some (.cells c t fr)) (ht:Other t) (hg:w.grownBy w' (some k)):RowS w' lo v n l :=
 ⟨own_keep h.own hg (fun k' hk' e=>by injection e with e;subst e;exact own_far h.own hk ht.1 hk'),fun x hx=>(h.shs x hx).keep hg (fun k' e=>by injection e with e;subst e;exact ⟨c,t,fr,hk,ht.2⟩)⟩
theorem RowS.nil (w:World) (lo:Nat):RowS w lo (.slice none 0 0) 0 []:=⟨World.ownsRow_nil _ _ _ _,fun x hx=>by cases hx⟩
theorem RowS.seg {w:World} {lo n cap:Nat} {ao:Option Addr} {l:List ShT} (h:RowS w lo (.slice ao n cap) n l):Seg w ao (vcells l):=own_seg' h.own
theorem grown_set {w:World} {g o:Nat} {u:Value}:w.grownBy (w.setCell ⟨g,o,none⟩ u) (some g):=⟨rfl,rfl,rfl,by simp,fun k hk hne=>setCell_far (fun e=>hne (by rw [e]))⟩
def Put9 (w:World) (g o:Nat) (y:ShT):World :=
 ((((((((w.setCell ⟨g,o,none⟩ (.slice y.a0 y.s.se.length y.c0)).setCell ⟨g,o+1,none⟩ (.slice y.a1 y.s.ra.length y.c1)).setCell ⟨g,o+2,none⟩ (.slice y.a2 y.s.fi.length y.c2)).setCell ⟨g,o+3,none⟩ (.slice y.a3 y.s.co.length y.c3)).setCell ⟨g,o+4,none⟩ (.int .i64 y.s.rf)).setCell ⟨g,o+5,none⟩ (.int .i64 y.s.ff)).setCell ⟨g,o+6,none⟩ (.int .i64 y.s.ft)).setCell ⟨g,o+7,none⟩ (.int .i64 y.s.cf)).setCell ⟨g,o+8,none⟩ (.int .i64 y.s.ct)
theorem put9_grown (w:World) (g o:Nat) (y:ShT):w.grownBy (Put9 w g o y) (some g):=by
 unfold Put9
 have tr:∀ {a b:World} {i:Nat} {u:Value},a.grownBy b (some g)→a.grownBy (b.setCell ⟨g,i,none⟩ u) (some g):=fun h=>grown_trans h grown_set (fun k hk=>.inl hk)
 exact tr (tr (tr (tr (tr (tr (tr (tr (tr ⟨rfl,rfl,rfl,Nat.le_refl _,fun _ _ _=>rfl⟩))))))))
theorem RowS.put {w:World} {lo n cap g p:Nat} {l:List ShT} {y:ShT} (h:RowS w lo (.slice (some ⟨g,0,none⟩) n cap) n l) (hp:p<l.length) (hy:ShO lo w y):RowS (Put9 w g (p*9) y) lo (.slice (some ⟨g,0,none⟩) n cap) n (l.set p y):=by
 have hl:=vcells_length l
 have hg:=put9_grown w g (p*9) y
 have hT:∃ cur,w.heap[g]?=some (.cells cur 59 (0,0)):=by
  rcases h.own.2 with ⟨h2,_⟩ | ⟨g',c,cur,hv,_,hh,_⟩
  ·cases h2
  ·injection hv with e1 _ _
   injection e1 with e1
   injection e1 with e1 _ _
   subst e1
   exact ⟨cur,hh⟩
 obtain ⟨cur,hh⟩:=hT
 have hr:∀ k,some g=some k→∃ (c:Array Value) (t:TypeId) (fr:Nat×Nat),w.heap[k]?=some (.cells c t fr)∧t≠88∧t≠34∧t≠145:=fun k e=>by
  injection e with e;subst e;exact ⟨cur,_,_,hh,by decide,by decide,by decide⟩
 refine ⟨?_,fun x hx=>?_⟩
 ·rw [← vcells_set l p y hp]
  unfold Put9
  have o0:=h.own
  have o1:=cell_set o0 (p*9) (.slice y.a0 y.s.se.length y.c0) (by omega)
  have o2:=cell_set o1 (p*9+1) (.slice y.a1 y.s.ra.length y.c1) (by simp;omega)
  have o3:=cell_set o2 (p*9+2) (.slice y.a2 y.s.fi.length y.c2) (by simp;omega)
  have o4:=cell_set o3 (p*9+3) (.slice y.a3 y.s.co.length y.c3) (by simp;omega)
  have o5:=cell_set o4 (p*9+4) (.int .i64 y.s.rf) (by simp;omega)
  have o6:=cell_set o5 (p*9+5) (.int .i64 y.s.ff) (by simp;omega)
  have o7:=cell_set o6 (p*9+6) (.int .i64 y.s.ft) (by simp;omega)
  have o8:=cell_set o7 (p*9+7) (.int .i64 y.s.cf) (by simp;omega)
  exact cell_set o8 (p*9+8) (.int .i64 y.s.ct) (by simp;omega)
 ·rcases List.mem_or_eq_of_mem_set hx with e | e
  ·exact (h.shs x e).keep hg hr
  ·rw [e];exact hy.keep hg hr
structure BIn (w:World) (lo B:Nat) (ao:Option Addr) (n cap:Nat) (hz:Int) (l:List ShT):Prop where
 b:w.heap[B]?=some (.cells #[.slice ao n cap,.int .i64 hz] 91 (0,0))
 row:RowS w lo (.slice ao n cap) n l
 loB:lo≤B
theorem BIn.below {w w':World} {lo B n cap:Nat} {ao:Option Addr} {hz:Int} {l:List ShT} (h:BIn w lo B ao n cap hz l) (hb:Below w.heap.size w w'):BIn w' lo B ao n cap hz l :=
 ⟨below_block hb h.b,h.row.below hb,h.loB⟩
structure Fr (lo:Nat) (w w':World):Prop where
 os:w'.os=w.os
 tape:w'.tape=w.tape
 output:w'.output=w.output
 size:w.heap.size≤w'.heap.size
 low:∀ k,k<lo→w'.heap[k]?=w.heap[k]?
 typ:∀ (k:Nat) (c:Array Value) (t:TypeId) (fr:Nat×Nat),w.heap[k]?=some (.cells c t fr)→t≠59→t≠91→w'.heap[k]?=w.heap[k]?
theorem Fr.of {lo:Nat} {w w':World} (h:Below w.heap.size w w') (hl:lo≤w.heap.size):Fr lo w w' :=
 ⟨h.os,h.tape,h.output,h.size,fun k hk=>h.block k (by omega),fun k c t fr hk _ _=>h.block k (lt_of_block hk)⟩
theorem Fr.trans {lo:Nat} {a b c:World} (h:Fr lo a b) (k:Fr lo b c):Fr lo a c :=
 ⟨k.os.trans h.os,k.tape.trans h.tape,k.output.trans h.output,Nat.le_trans h.size k.size,fun i hi=>(k.low i hi).trans (h.low i hi),fun i c t fr hi h1 h2=>by
  have e:=h.typ i c t fr hi h1 h2
  exact (k.typ i c t fr (e.trans hi) h1 h2).trans e⟩
theorem Fr.grown {lo g:Nat} {w w':World} {c:Array Value} {t:TypeId} {fr:Nat×Nat} (hg:w.grownBy w' (some g)) (hl:lo≤g) (hlo:lo≤w.heap.size) (hh:w.heap[g]?=some (.cells c t fr)) (ht:t=59∨t=91):Fr lo w w' :=
 ⟨hg.os,hg.tape,hg.output,hg.size,fun k hk=>hg.block k (by omega) (fun e=>by injection e with e;omega),fun k c' t' fr' hk h1 h2=>hg.block k (lt_of_block hk) (fun e=>by
  injection e with e
  subst e
  rw [hh] at hk
  injection hk with hk
  injection hk with _ e2 _
  subst e2
  rcases ht with e | e
  ·exact h1 e
  ·exact h2 e)⟩
theorem Fr.grown0 {lo:Nat} {w w':World} (hg:w.grownBy w' none) (hlo:lo≤w.heap.size):Fr lo w w' :=
 ⟨hg.os,hg.tape,hg.output,hg.size,fun k hk=>hg.block k (by omega) (fun e=>by cases e),fun k c' t' fr' hk h1 h2=>hg.block k (lt_of_block hk) (fun e=>by cases e)⟩
theorem Fr.below {lo:Nat} {w w':World} (h:Fr lo w w'):Below lo w w':=⟨h.os,h.tape,h.output,h.size,h.low⟩
open Go.RowKit Go.GrainU
set_option maxRecDepth 20000 in
set_option maxHeartbeats 1000000 in
theorem find1_any (x:ShT) (s:Lb) (m c':Nat) (so':Option Addr) (w:World) (hx:Seg w x.a0 (lcells x.s.se)) (hs:Seg w so' (lcells s)) (hm:m=s.length) (hc:x.s.se.length≤9223372036854775807) :
  Calls Tryz.prog 126 #[x.v,.slice so' m c'] w fun e w'=>e=.returned (.int .i64 (cmpS x.s.se s))∧Below w.heap.size w w':=by
 obtain ⟨V,hV⟩:∃ V,V=w.alloc (.cells #[.slice x.a0 x.s.se.length x.c0,.slice x.a1 x.s.ra.length x.c1,.slice x.a2 x.s.fi.length x.c2,.slice x.a3 x.s.co.length x.c3,.int .i64 x.s.rf,.int .i64 x.s.ff,.int .i64 x.s.ft,.int .i64 x.s.cf,.int .i64 x.s.ct] 59):=⟨_,rfl⟩
 have bel:Below w.heap.size w V:=by rw [hV];exact (Below.refl _ _).alloc (Nat.le_refl _) _
 have HV:=hide hV
 have HM:=hide hm
 obtain ⟨C,hC⟩:∃ C,C=cmpS x.s.se s:=⟨_,rfl⟩
 rw [← hC]
 have HC:=hide hC
 have P:=hide (ncmp_any x.s.se s x.a0 so' x.s.se.length m x.c0 c' V (hx.below bel) (hs.below bel) rfl hm hc)
 unfold ShT.v
 generalize x.s.se.length=n0 at HV P
 clear hV hm hC
 go_enter Tryz.func126,Tryz.ntmps126
 go_wp2_with fail
 rw [← HV.out]
 refine P.out.mono ?_
 rintro e w1 ⟨rfl,b1⟩
 rw [← HC.out]
 go_wp2
 go_ret
 exact ⟨rfl,bel.trans (b1.mono bel.size)⟩
set_option maxHeartbeats 4000000 in
set_option maxRecDepth 100000 in
theorem bsf_any (l:List ShT) (s:Lb) (co so':Option Addr) (n c m c' p:Nat) (F:Bool) (w:World) (hl:Seg w co (vcells l)) (hsh:∀ x∈l,Seg w x.a0 (lcells x.s.se)) (hs:Seg w so' (lcells s)) (hn:n=l.length) (hm:m=s.length) (hn4:n≤1000000) (hb8:∀ x∈l,x.s.se.length≤9223372036854775807) (hp:p≤n) (hbd:∀ k,k<n→(cmpS (sht l k).s.se s<0↔k<p)) (hF:F=(decide (p<n) && decide (cmpS (sht l p).s.se s=0))) :
  Calls Tryz.prog 125 #[.slice co n c,.slice so' m c',.func (.func 126) #[] #[]] w fun e w'=>e=.returned (.tuple #[.int .i64 p,.bool F])∧Below w.heap.size w w':=by
 have HN:=hide hn
 have HM:=hide hm
 have HB:=hide hbd
 have HF:=hide hF
 have H8:=hide hb8
 clear hn hm hbd hF hb8
 go_enter Tryz.func125,Tryz.ntmps125
 go_wp2
 go_loopw [9,10] (fun s9 s10 wr=>∃ lo hi:Nat,s9=.int .i64 lo∧s10=.int .i64 hi∧lo≤p∧p≤hi∧hi≤n∧Below w.heap.size w wr) (fun s9 s10 _=>(intOf s10).toNat-(intOf s9).toNat)
 case atStart=>exact ⟨0,n,rfl,rfl,Nat.zero_le _,hp,Nat.le_refl _,Below.refl _ _⟩
 case round =>
  obtain ⟨lo,hi,rfl,rfl,hlo,hhi,hin,bel⟩:=hrel
  have hsz:=bel.size
  by_cases hlt:lo<hi
  ·have hkl:(lo+hi) / 2<l.length:=by rw [← HN.out];omega
   obtain ⟨b,off,rfl,hb,hcell⟩:=seg_shelf hl hkl
   obtain ⟨x,hx⟩:∃ x,x=sht l ((lo+hi) / 2):=⟨_,rfl⟩
   have c9:Cells9 wr b (off+(lo+hi) / 2*9) x:=by rw [hx];exact (hcell _ hkl).below bel hb
   obtain ⟨q0,q1,q2,q3,q4,q5,q6,q7,q8⟩:=c9
   have sx:Seg w x.a0 (lcells x.s.se):=by rw [hx];exact hsh _ (sht_mem hkl)
   have x8:x.s.se.length≤9223372036854775807:=by rw [hx];exact H8.out _ (sht_mem hkl)
   have HX:=hide hx
   have P:=hide (find1_any x s m c' so' wr (sx.below bel) (hs.below bel) HM.out x8)
   unfold ShT.v at P
   clear hcell hx hkl x8
   go_wp2_with fail
   refine P.out.mono ?_
   rintro e w1 ⟨rfl,b1⟩
   have bel1:Below w.heap.size w w1:=bel.trans (b1.mono hsz)
   have hkey:=HB.out ((lo+hi) / 2) (by omega)
   rw [← HX.out] at hkey
   clear P
   generalize cmpS x.s.se s=C at hkey ⊢
   clear q0 q1 q2 q3 q4 q5 q6 q7 q8 b1 bel HX
   by_cases hc:C<0
   ·have hp2:=hkey.1 hc
    clear hkey
    go_wp2
    go_roundw
    case rel=>exact ⟨(lo+hi) / 2+1,hi,by rw [show ((lo:Int)+(hi:Int)) / 2+1=(((lo+hi) / 2+1:Nat):Int) by omega],rfl,by omega,hhi,hin,bel1⟩
    case measure=>simp [intOf];omega
   ·have hp2:¬ (lo+hi) / 2<p:=fun h=>hc (hkey.2 h)
    clear hkey
    go_wp2
    go_roundw
    case rel=>exact ⟨lo,(lo+hi) / 2,rfl,by rw [show ((lo:Int)+(hi:Int)) / 2=(((lo+hi) / 2:Nat):Int) by omega],hlo,by omega,by omega,bel1⟩
    case measure=>simp [intOf];omega
  ·have e1:lo=p:=by omega
   have e2:hi=p:=by omega
   subst e1
   subst e2
   by_cases hpn:hi<n
   ·have hkl:hi<l.length:=by rw [← HN.out];omega
    obtain ⟨b,off,rfl,hb,hcell⟩:=seg_shelf hl hkl
    obtain ⟨x,hx⟩:∃ x,x=sht l hi:=⟨_,rfl⟩
    have c9:Cells9 wr b (off+hi*9) x:=by rw [hx];exact (hcell _ hkl).below bel hb
    obtain ⟨q0,q1,q2,q3,q4,q5,q6,q7,q8⟩:=c9
    have sx:Seg w x.a0 (lcells x.s.se):=by rw [hx];exact hsh _ (sht_mem hkl)
    have x8:x.s.se.length≤9223372036854775807:=by rw [hx];exact H8.out _ (sht_mem hkl)
    have HX:=hide hx
    have P:=hide (find1_any x s m c' so' wr (sx.below bel) (hs.below bel) HM.out x8)
    unfold ShT.v at P
    clear hcell hx hkl x8
    go_wp2_with fail
    refine P.out.mono ?_
    rintro e w1 ⟨rfl,b1⟩
    have bel1:Below w.heap.size w w1:=bel.trans (b1.mono hsz)
    have HF2:Hid (F=decide (cmpS x.s.se s=0)):=by show _=_;rw [HF.out,HX.out];simp [hpn]
    clear P
    generalize cmpS x.s.se s=C at HF2 ⊢
    clear q0 q1 q2 q3 q4 q5 q6 q7 q8 b1 bel HX HF
    by_cases hc:C=0
    ·have HF3:Hid (F=true):=by show _=_;rw [HF2.out];simpa using hc
     subst hc
     go_wp2
     go_ret2
     exact ⟨by rw [HF3.out];rfl,bel1⟩
    ·have HF3:Hid (F=false):=by show _=_;rw [HF2.out];simpa using hc
     have hd:(C == 0)=false:=by simpa using hc
     clear hc
     go_wp2
     go_ret2
     exact ⟨by rw [HF3.out];rfl,bel1⟩
   ·have HF3:Hid (F=false):=by show _=_;rw [HF.out];simp [hpn]
    clear HF
    go_wp2
    go_ret2
    exact ⟨by rw [HF3.out];rfl,bel⟩
def Lies (l:List ShT) (b:List Kp):Prop:=l.map (fun x=>x.s)=b.map (fun k=>k.s)
theorem Lies.len {l:List ShT} {b:List Kp} (h:Lies l b):l.length=b.length:=by simpa using congrArg List.length h
theorem Lies.at {l:List ShT} {b:List Kp} (h:Lies l b) {k:Nat} (hk:k<l.length):(sht l k).s=(kp b k).s:=by
 have hk':k<b.length:=by rw [← h.len];exact hk
 have:=congrArg (fun L=>L[k]?) h
 simp [hk,hk'] at this
 rw [sht_get hk,kp_get hk',this]
set_option maxRecDepth 20000 in
set_option maxHeartbeats 1000000 in
theorem find_any (b:Bs) (hb:BInv b) (l:List ShT) (s:Lb) (so':Option Addr) (m c' lo B n cap:Nat) (ao:Option Addr) (w:World) (hB:BIn w lo B ao n cap b.hz l) (hL:Lies l b.l) (hs:Seg w so' (lcells s)) (hm:m=s.length) :
  Calls Tryz.prog 92 #[.pointer (some ⟨B,0,none⟩),.slice so' m c'] w fun e w'=>e=.returned (.tuple #[.int .i64 (bpos b.l s),.bool (bhas b.l s)])∧Below w.heap.size w w':=by
 have hn:=hB.row.len
 have hl:=hL.len
 have h8:=hb.len
 have hbd:∀ k,k<n→(cmpS (sht l k).s.se s<0↔k<bpos b.l s):=fun k hk=>by
  rw [hL.at (by omega)];exact bpos_iff hb.srt s k (by omega)
 have hF:bhas b.l s=(decide (bpos b.l s<n) && decide (cmpS (sht l (bpos b.l s)).s.se s=0)):=by
  unfold bhas
  by_cases hp:bpos b.l s<n
  ·rw [hL.at (by omega),show n=b.l.length from by omega]
  ·have h1:decide (bpos b.l s<n)=false:=by simpa using hp
   have h2:decide (bpos b.l s<b.l.length)=false:=by simp;omega
   rw [h1,h2];rfl
 have P:=hide (bsf_any l s ao so' n cap m c' (bpos b.l s) (bhas b.l s) w hB.row.seg (fun x hx=>(hB.row.shs x hx).shIn.g0) hs hn hm (by omega) (fun x hx=>by have:=(hB.row.shs x hx).n0;omega) (by have:=bpos_le b.l s;omega) hbd hF)
 generalize bpos b.l s=p at P
 generalize bhas b.l s=F at P
 obtain ⟨q0,q1,q2,q3⟩:=two_cells hB.b
 clear hF hbd hn hl h8 hL hB hm hb
 go_enter Tryz.func92,Tryz.ntmps92
 go_wp2_with fail
 refine P.out.mono ?_
 rintro e w1 ⟨rfl,b1⟩
 clear P
 go_wp2
 go_ret2
 exact ⟨rfl,b1⟩
def LPost (s:Grain.Shf) (f t:Int) (w:World) (e:Ending) (w':World):Prop :=
 ∃ (J:Grain.Sm) (N E:Int),e=.returned (.tuple #[.agg #[.int .i64 J.c,.int .i64 J.t,.int .i64 J.mn,.int .i64 J.mx,.int .i64 J.f,.int .i64 J.l,.int .i64 J.r],.int .i64 N,.int .i64 E])∧((E≠0∧lookS s f t=.error E)∨(E=0∧lookS s f t=.ok J∧N=(Grain.read s (Grain.choose s f t).1).2.1))∧Below w.heap.size w w'
set_option maxRecDepth 20000 in
set_option maxHeartbeats 2000000 in
theorem look_any (x:ShT) (f t:Int) (w:World) (hx:ShIn w x) (hcap:ShCap x) :
  Calls Tryz.prog 103 #[x.v,.int .i64 f,.int .i64 t] w (LPost x.s f t w):=by
 obtain ⟨r,hr⟩:∃ r,r=Grain.choose x.s f t:=⟨_,rfl⟩
 obtain ⟨V,hV⟩:∃ V,V=(w.alloc (.cells #[.slice x.a0 x.s.se.length x.c0,.slice x.a1 x.s.ra.length x.c1,.slice x.a2 x.s.fi.length x.c2,.slice x.a3 x.s.co.length x.c3,.int .i64 x.s.rf,.int .i64 x.s.ff,.int .i64 x.s.ft,.int .i64 x.s.cf,.int .i64 x.s.ct] 59)).alloc (.cells #[.int .i64 0,.int .i64 0,.int .i64 0,.int .i64 0,.int .i64 0,.int .i64 0,.int .i64 0] 76):=⟨_,rfl⟩
 have bel:Below w.heap.size w V:=by rw [hV];exact ((Below.refl _ _).alloc (Nat.le_refl _) _).alloc (by simp) _
 have S0:V.heap[w.heap.size]?=some (so x):=by rw [hV,Below.heap_alloc _ _ _ (by simp)];exact heap_alloc_new w _
 have R0:V.heap[w.heap.size+1]?=some (.cells #[.int .i64 0,.int .i64 0,.int .i64 0,.int .i64 0,.int .i64 0,.int .i64 0,.int .i64 0] 76 (0,0)):=by
  have:=heap_alloc_new (w.alloc (.cells #[.slice x.a0 x.s.se.length x.c0,.slice x.a1 x.s.ra.length x.c1,.slice x.a2 x.s.fi.length x.c2,.slice x.a3 x.s.co.length x.c3,.int .i64 x.s.rf,.int .i64 x.s.ff,.int .i64 x.s.ft,.int .i64 x.s.cf,.int .i64 x.s.ct] 59)) (.cells #[.int .i64 0,.int .i64 0,.int .i64 0,.int .i64 0,.int .i64 0,.int .i64 0,.int .i64 0] 76)
  rw [hV];simpa using this
 have Pc:=hide (choose_any x f t r V (hx.below bel) hr)
 have PR:=hide (fun (w1:World) (hb:Below w.heap.size w w1) (ao:Option Addr) (n c:Nat) (hs:Seg w1 ao (pcells r.1)) (hn:n=r.1.length) (hL:n≤1000000000000000)=>read_any x r.1 ao n c w1 (hx.below hb) hcap hs hn hL)
 have HR:=hide hr
 have HV:=hide hV
 have Hv:Hid (x.v=.agg #[.slice x.a0 x.s.se.length x.c0,.slice x.a1 x.s.ra.length x.c1,.slice x.a2 x.s.fi.length x.c2,.slice x.a3 x.s.co.length x.c3,.int .i64 x.s.rf,.int .i64 x.s.ff,.int .i64 x.s.ft,.int .i64 x.s.cf,.int .i64 x.s.ct]):=rfl
 obtain ⟨s0,s1,s2,s3,s4,s5,s6,s7,s8⟩:=nine_cells S0
 rw [Hv.out] at Pc PR ⊢
 clear hr hV hx
 go_enter Tryz.func103,Tryz.ntmps103
 go_wp2_with fail
 rw [← HV.out]
 refine Pc.out.mono ?_
 rintro e w1 ⟨co,m,d,rfl,own,hm,b1⟩
 have bel1:Below w.heap.size w w1:=bel.trans (b1.mono bel.size)
 have S1:=below_block b1 S0
 have R1:=below_block b1 R0
 obtain ⟨E,hE⟩:∃ E,E=r.2:=⟨_,rfl⟩
 rw [← hE]
 have HE:=hide hE
 obtain ⟨r0,r1,r2,r3,r4,r5,r6⟩:=seven_cells R1
 obtain ⟨f0,f1,f2,f3,f4,f5,f6⟩:=seven_thaw R1
 clear Pc s0 s1 s2 s3 s4 s5 s6 s7 s8 S0 R0 HV hE b1
 by_cases h0:E=0
 ·have hl:Hid (m=r.1.length):=by
   have:=own.1
   rw [pcells_length] at this
   show _=_
   omega
  have P2:=hide (PR.out w1 bel1 co m d (own_seg' own) hl.out (by omega))
  obtain ⟨s0,s1,s2,s3,s4,s5,s6,s7,s8⟩:=nine_cells S1
  have HE0:Hid ((Grain.choose x.s f t).2=0):=by show _=_;rw [← HR.out,← HE.out];exact h0
  subst h0
  clear PR own HE
  go_wp2_with fail
  refine P2.out.mono ?_
  rintro e w2 ⟨J,N,E2,rfl,hrd,b2⟩
  have bel2:Below w.heap.size w w2:=bel1.trans (b2.mono bel1.size)
  have R2:=below_block b2 R1
  obtain ⟨t0,t1,t2,t3,t4,t5,t6⟩:=seven_cells R2
  obtain ⟨g0,g1,g2,g3,g4,g5,g6⟩:=seven_thaw R2
  clear P2 R1 b2 r0 r1 r2 r3 r4 r5 r6 f0 f1 f2 f3 f4 f5 f6 s0 s1 s2 s3 s4 s5 s6 s7 s8 S1 bel1 hm
  go_wp2
  refine bodyPost_ret (v:=.tuple #[.agg #[.int .i64 J.c,.int .i64 J.t,.int .i64 J.mn,.int .i64 J.mx,.int .i64 J.f,.int .i64 J.l,.int .i64 J.r],.int .i64 N,.int .i64 E2]) (by simp [results,Tryz.results103,go_sem,t0,t1,t2,t3,t4,t5,t6]) rfl ⟨J,N,E2,rfl,?_,below_set7 bel2 (by omega) _ _ _ _ _ _ _⟩
  have h1:Grain.read x.s (Grain.choose x.s f t).1=(J,N,E2):=by rw [← HR.out];exact hrd.out
  unfold lookS
  rw [if_pos HE0.out,h1]
  by_cases h2:E2=0
  ·exact .inr ⟨h2,by simp [h2],rfl⟩
  ·exact .inl ⟨h2,by simp [h2]⟩
 ·have hne:(E != 0)=true:=by simpa using h0
  have HE0:Hid ((Grain.choose x.s f t).2=E):=by show _=_;rw [← HR.out,← HE.out]
  have H0:=hide h0
  clear PR own HE h0
  go_wp2
  refine bodyPost_ret (v:=.tuple #[.agg #[.int .i64 Grain.zero.c,.int .i64 Grain.zero.t,.int .i64 Grain.zero.mn,.int .i64 Grain.zero.mx,.int .i64 Grain.zero.f,.int .i64 Grain.zero.l,.int .i64 Grain.zero.r],.int .i64 0,.int .i64 E]) (by simp [results,Tryz.results103,go_sem,r0,r1,r2,r3,r4,r5,r6,Grain.zero]) rfl ⟨Grain.zero,0,E,rfl,.inl ⟨H0.out,?_⟩,below_set7 bel1 (by omega) _ _ _ _ _ _ _⟩
  unfold lookS
  rw [if_neg (by rw [HE0.out];exact H0.out),HE0.out]
open Go.RowKit Go.GrainU
theorem kp_take {l:List Kp} {k:Nat} (h:k<l.length):l.take (k+1)=l.take k++[kp l k]:=by
 rw [List.take_add_one,List.getElem?_eq_getElem h,kp_get h];rfl
theorem RowS.push {w w':World} {lo N d g' cp':Nat} {co:Option Addr} {l:List ShT} {y:ShT} (h:RowS w lo (.slice co N d) N l) (hy:ShO lo w y) (own:w'.ownsRow lo 59 9 (.slice (some ⟨g',0,none⟩) (N+1) cp') (N+1) (vcells l++y.cells)) (gr:w.grownBy w' (Value.slice co N d).ownBlock):RowS w' lo (.slice (some ⟨g',0,none⟩) (N+1) cp') (N+1) (l++[y]):=by
 have hr:∀ k,(Value.slice co N d).ownBlock=some k→∃ c t fr,w.heap[k]?=some (.cells c t fr)∧t≠88∧t≠34∧t≠145:=fun k e=>by
  rcases h.own.2 with ⟨h2,_⟩ | ⟨g,c,cur,hv,_,hh,_⟩
  ·rw [h2] at e;simp [Value.ownBlock] at e
  ·rw [hv] at e
   simp [Value.ownBlock] at e
   subst e
   exact ⟨cur,_,_,hh,by decide,by decide,by decide⟩
 refine ⟨by rw [vcells_append];simpa [vcells] using own,fun x hx=>?_⟩
 rcases List.mem_append.1 hx with e | e
 ·exact (h.shs x e).keep gr hr
 ·simp at e;rw [e];exact hy.keep gr hr
def EcPost (b:Bs) (o:Except Int (List Kp)) (lo B:Nat) (w:World) (e:Ending) (w':World):Prop :=
 (∃ (x:Int) (ao:Option Addr) (n cap:Nat) (l:List ShT),x≠0∧o=.error x∧e=.returned (.int .i64 x)∧BIn w' lo B ao n cap b.hz l∧Lies l b.l∧Fr lo w w') ∨
 (∃ (r:List Kp) (ao:Option Addr) (n cap:Nat) (l:List ShT),o=.ok r∧e=.returned (.int .i64 0)∧BIn w' lo B ao n cap b.hz l∧Lies l r∧Fr lo w w')
theorem bin_store {w:World} {lo B n cap n' cap':Nat} {ao ao':Option Addr} {hz:Int} {l l':List ShT} (h:BIn w lo B ao n cap hz l) (hr:RowS w lo (.slice ao' n' cap') n' l'):BIn (w.setCell ⟨B,0,none⟩ (.slice ao' n' cap')) lo B ao' n' cap' hz l' :=
 ⟨fst_set h.b _,hr.keep h.b ⟨by decide,by decide,by decide,by decide⟩ grown_set,h.loB⟩
theorem fr_store {w:World} {lo B n cap:Nat} {ao:Option Addr} {hz:Int} {l:List ShT} (h:BIn w lo B ao n cap hz l) (i:Nat) (u:Value):Fr lo w (w.setCell ⟨B,i,none⟩ u) :=
 Fr.grown grown_set h.loB (by have:=h.loB;have:=lt_of_block h.b;omega) h.b (.inr rfl)
theorem RowS.lower {w:World} {lo lo' n:Nat} {v:Value} {l:List ShT} (h:RowS w lo v n l) (hl:lo'≤lo):RowS w lo' v n l:=⟨own_lower h.own hl,fun x hx=>(h.shs x hx).lower hl⟩
theorem Tryz.infoShelfE:(Tryz.prog.info? 59).map (fun i=>(i.zero,i.size,i.bytes))=some (some (.agg #[.slice none 0 0,.slice none 0 0,.slice none 0 0,.slice none 0 0,.int .i64 0,.int .i64 0,.int .i64 0,.int .i64 0,.int .i64 0]),9,136):=by kernel_rfl
set_option maxRecDepth 100000 in
set_option maxHeartbeats 4000000 in
theorem each_any (f:Grain.Shf→Grain.Shf×Int) (F:Nat) (caps:Array Value) (b:Bs) (hb:BInv b) (l:List ShT) (lo B n cap:Nat) (ao:Option Addr) (w:World) (hB:BIn w lo B ao n cap b.hz l) (hL:Lies l b.l)
  (hE:Hid (∀ (args:Array Value) (W:World),(callFunc F args).run Tryz.prog W=.ok (.enter F args) W))
  (hF:∀ (W:World) (x:ShT),Below w.heap.size w W→ShIn W x→Calls Tryz.prog F (#[x.v]++caps) W (ShPost W (f x.s))) :
  Calls Tryz.prog 96 #[.pointer (some ⟨B,0,none⟩),.func (.func F) #[] caps] w (EcPost b (eachB f b.l) lo B w):=by
 obtain ⟨i0,hi,hz0,hz1,hz2⟩:=sinfo_parts Tryz.infoShelfE
 have hn:=hB.row.len
 have hl:=hL.len
 have h8:=hb.len
 have n8:n≤8:=by omega
 have hlw:B<w.heap.size:=lt_of_block hB.b
 have HF:=hide hF
 have HN:=hide hn
 have HL:=hide hL
 have HB:=hide hB
 have HH:=hide hl
 obtain ⟨p0,p1,p2,p3⟩:=two_cells hB.b
 clear hn hl hF hL h8 hB
 go_enter Tryz.func96,Tryz.ntmps96
 go_wp2_with (at_make;refine wpList_make_own _ rfl _ _ 24 rfl w.heap.size 59 i0 (.agg #[.slice none 0 0,.slice none 0 0,.slice none 0 0,.slice none 0 0,.int .i64 0,.int .i64 0,.int .i64 0,.int .i64 0,.int .i64 0]) 9 Tryz.underlying24 hi hz0 hz1 .i64 .i64 _ n rfl rfl rfl (by rw [hz2];omega) (by unfold maxLen;omega) (by simp) ?_)
 intro w4 own4 gr4
 have b4:Below w.heap.size w w4:=(Below.refl _ _).grown gr4 (by simp) (fun k hk=>by cases hk)
 have B4:=below_block b4 HB.out.b
 obtain ⟨r0,r1,r2,r3⟩:=two_cells B4
 have own4':RowS w4 w.heap.size (.slice (some ⟨w.heap.size,0,none⟩) 0 n) 0 []:=⟨own4,fun x hx=>by cases hx⟩
 clear gr4 p0 p1 p2 p3 own4
 go_wp2
 go_loopw [5,23] (fun out i wr=>∃ (k N d:Nat) (co:Option Addr) (ys:List ShT) (r:List Kp),k≤n∧i=.int .i64 k∧out=.slice co N d∧N≤k∧RowS wr w.heap.size (.slice co N d) N ys∧Hid (eachB f (b.l.take k)=.ok r)∧Hid (Lies ys r)∧Below w.heap.size w wr) (fun _ i _=>n-(intOf i).toNat)
 case atStart=>exact ⟨0,0,n,some ⟨w.heap.size,0,none⟩,[],[],Nat.zero_le _,rfl,rfl,Nat.le_refl _,own4',rfl,rfl,b4⟩
 case round =>
  obtain ⟨k,N,d,co,ys,r,hk,rfl,rfl,hNk,row,HR,HY,bel⟩:=hrel
  clear own4' b4 B4 r0 r1 r2 r3
  have hsz:=bel.size
  by_cases hlt:k<n
  ·have hkl:k<l.length:=by rw [← HN.out];exact hlt
   obtain ⟨bb,off,rfl,hbb,hcell⟩:=seg_shelf HB.out.row.seg hkl
   obtain ⟨x,hx⟩:∃ x,x=sht l k:=⟨_,rfl⟩
   have c9:Cells9 wr bb (off+k*9) x:=by rw [hx];exact (hcell _ hkl).below bel hbb
   obtain ⟨q0,q1,q2,q3,q4,q5,q6,q7,q8⟩:=c9
   have HX:Hid (ShIn w x):=by rw [hx];exact (HB.out.row.shs _ (sht_mem hkl)).shIn
   have HXs:Hid (x.s=(kp b.l k).s):=by show _=_;rw [hx];exact HL.out.at hkl
   have hkb:k<b.l.length:=by rw [← HH.out];exact hkl
   have HR2:Hid (eachB f (b.l.take (k+1))=if (f x.s).2=0 then .ok (r++[⟨(f x.s).1,(kp b.l k).A⟩]) else .error (f x.s).2):=by
    show _=_
    rw [kp_take hkb,eachB_snoc,HR.out,HXs.out]
   obtain ⟨V,hV⟩:∃ V,V=wr.alloc (.cells #[.slice x.a0 x.s.se.length x.c0,.slice x.a1 x.s.ra.length x.c1,.slice x.a2 x.s.fi.length x.c2,.slice x.a3 x.s.co.length x.c3,.int .i64 x.s.rf,.int .i64 x.s.ff,.int .i64 x.s.ft,.int .i64 x.s.cf,.int .i64 x.s.ct] 59):=⟨_,rfl⟩
   have bV:Below wr.heap.size wr V:=by rw [hV];exact (Below.refl _ _).alloc (Nat.le_refl _) _
   have belV:Below w.heap.size w V:=bel.trans (bV.mono hsz)
   have P:=hide (HF.out V x belV (HX.out.below belV))
   have rowV:=row.below bV
   have HV:=hide hV
   unfold ShT.v at P
   obtain ⟨R,hR⟩:∃ R,R=f x.s:=⟨_,rfl⟩
   rw [← hR] at P HR2
   clear hx hcell hkl HXs hV row bel hR HX HR bV
   go_wp2_with fail
   rw [← HV.out]
   rw [hE.out,Oper.upon_enter]
   refine P.out.mono ?_
   rintro e w1 ⟨y,rfl,hy,oy,b1⟩
   have bel1:Below w.heap.size w w1:=belV.trans (b1.mono belV.size)
   have row1:=rowV.below b1
   obtain ⟨E,hEE⟩:∃ E,E=R.2:=⟨_,rfl⟩
   rw [← hEE] at HR2 ⊢
   have HYs:=hide hy
   have oy':ShO w.heap.size w1 y:=oy.lower belV.size
   clear P hy oy hEE rowV belV q0 q1 q2 q3 q4 q5 q6 q7 q8
   unfold ShT.v
   have bA:Below w1.heap.size w1 (w1.alloc (.cells #[.slice y.a0 y.s.se.length y.c0,.slice y.a1 y.s.ra.length y.c1,.slice y.a2 y.s.fi.length y.c2,.slice y.a3 y.s.co.length y.c3,.int .i64 y.s.rf,.int .i64 y.s.ff,.int .i64 y.s.ft,.int .i64 y.s.cf,.int .i64 y.s.ct] 59)):=(Below.refl _ _).alloc (Nat.le_refl _) _
   by_cases h0:E=0
   ·subst h0
    have HR3:Hid (eachB f (b.l.take (k+1))=.ok (r++[⟨R.1,(kp b.l k).A⟩])):=by
     show _=_;rw [HR2.out];simp
    have bB:Below w1.heap.size w1 ((w1.alloc (.cells #[.slice y.a0 y.s.se.length y.c0,.slice y.a1 y.s.ra.length y.c1,.slice y.a2 y.s.fi.length y.c2,.slice y.a3 y.s.co.length y.c3,.int .i64 y.s.rf,.int .i64 y.s.ff,.int .i64 y.s.ft,.int .i64 y.s.cf,.int .i64 y.s.ct] 59)).alloc (.cells #[.slice y.a0 y.s.se.length y.c0,.slice y.a1 y.s.ra.length y.c1,.slice y.a2 y.s.fi.length y.c2,.slice y.a3 y.s.co.length y.c3,.int .i64 y.s.rf,.int .i64 y.s.ff,.int .i64 y.s.ft,.int .i64 y.s.cf,.int .i64 y.s.ct] 59)):=bA.alloc (by simp) _
    have rowB:=row1.below bB
    have oyB:ShO w.heap.size _ y:=oy'.below bB
    have bel2:=below_step bB bel1
    have HNB:Hid (∀ j u,y.cells[j]?=some u→((w1.alloc (.cells #[.slice y.a0 y.s.se.length y.c0,.slice y.a1 y.s.ra.length y.c1,.slice y.a2 y.s.fi.length y.c2,.slice y.a3 y.s.co.length y.c3,.int .i64 y.s.rf,.int .i64 y.s.ff,.int .i64 y.s.ft,.int .i64 y.s.cf,.int .i64 y.s.ct] 59)).alloc (.cells #[.slice y.a0 y.s.se.length y.c0,.slice y.a1 y.s.ra.length y.c1,.slice y.a2 y.s.fi.length y.c2,.slice y.a3 y.s.co.length y.c3,.int .i64 y.s.rf,.int .i64 y.s.ff,.int .i64 y.s.ft,.int .i64 y.s.cf,.int .i64 y.s.ct] 59)).cell? ((⟨w1.heap.size+1,0,none⟩:Addr).add j)=some u):=by
     refine seg_news ?_
     have:=seg_new (w1.alloc (.cells #[.slice y.a0 y.s.se.length y.c0,.slice y.a1 y.s.ra.length y.c1,.slice y.a2 y.s.fi.length y.c2,.slice y.a3 y.s.co.length y.c3,.int .i64 y.s.rf,.int .i64 y.s.ff,.int .i64 y.s.ft,.int .i64 y.s.cf,.int .i64 y.s.ct] 59)) #[.slice y.a0 y.s.se.length y.c0,.slice y.a1 y.s.ra.length y.c1,.slice y.a2 y.s.fi.length y.c2,.slice y.a3 y.s.co.length y.c3,.int .i64 y.s.rf,.int .i64 y.s.ff,.int .i64 y.s.ft,.int .i64 y.s.cf,.int .i64 y.s.ct] 59
     simpa [ShT.cells] using this
    have H1:=hide (shc_one y)
    have hs1:w.heap.size≤w1.heap.size:=bel1.size
    clear HR2 bA row1 oy'
    go_wp2_with (at_builtin;refine wpList_append_lies _ rfl _ _ 24 rfl w.heap.size 59 i0 (.agg #[.slice none 0 0,.slice none 0 0,.slice none 0 0,.slice none 0 0,.int .i64 0,.int .i64 0,.int .i64 0,.int .i64 0,.int .i64 0]) 9 136 Tryz.underlying24 hi hz0 hz1 hz2 rfl (by decide) _ _ _ rfl rowB.own ⟨w1.heap.size+1,0,none⟩ 1 1 y.cells rfl rfl HNB.out H1.out (by decide) (by unfold maxLen;omega) (by omega) (by simp;omega) (w1.heap.size+1+1) (by simp) ?_)
    intro g' cp' wz ownZ grZ hatZ hltZ
    have rowZ:=rowB.push oyB ownZ grZ
    have belZ:Below w.heap.size w wz:=bel2.grown grZ (by simp;omega) (fun j hj=>(own_base rowB.own j hj).1)
    have HY2:Hid (Lies (ys++[y]) (r++[⟨R.1,(kp b.l k).A⟩])):=by
     show Lies _ _
     have:=HY.out
     unfold Lies at this ⊢
     rw [List.map_append,List.map_append,this];simp [HYs.out]
    clear rowB oyB ownZ grZ hatZ hltZ HNB HY bB bel2
    go_wp2
    go_roundw
    case rel=>exact ⟨k+1,N+1,cp',_,_,_,by omega,by go_num,rfl,by omega,rowZ,HR3,HY2,belZ⟩
    case measure=>simp [intOf];omega
   ·have hne:(E != 0)=true:=by simpa using h0
    have HE3:Hid (eachB f b.l=.error E):=by
     have h1:eachB f (b.l.take (k+1))=.error E:=by rw [HR2.out,if_neg h0]
     have h2:=eachB_err h1 (b.l.drop (k+1))
     rwa [List.take_append_drop] at h2
    have H0:=hide h0
    have FIN:Hid (EcPost b (eachB f b.l) lo B w (.returned (.int .i64 E)) (w1.alloc (.cells #[.slice y.a0 y.s.se.length y.c0,.slice y.a1 y.s.ra.length y.c1,.slice y.a2 y.s.fi.length y.c2,.slice y.a3 y.s.co.length y.c3,.int .i64 y.s.rf,.int .i64 y.s.ff,.int .i64 y.s.ft,.int .i64 y.s.cf,.int .i64 y.s.ct] 59))):=by
     have bz:=below_step bA bel1
     exact .inl ⟨E,_,_,_,_,H0.out,HE3.out,rfl,HB.out.below bz,HL.out,Fr.of bz (by have:=HB.out.loB;omega)⟩
    clear h0 HR2 row1 oy' HY HYs bA
    go_wp2
    go_ret
    exact FIN.out
  ·have he:k=n:=by omega
   subst he
   have HE3:Hid (eachB f b.l=.ok r):=by
    show _=_
    rw [← HR.out,List.take_of_length_le (by rw [← HH.out,← HN.out];omega)]
   have B5:=HB.out.below bel
   obtain ⟨r0,r1,r2,r3⟩:=two_cells B5.b
   have FIN:Hid (EcPost b (eachB f b.l) lo B w (.returned (.int .i64 0)) (wr.setCell ⟨B,0,none⟩ (.slice co N d))):=by
    exact .inr ⟨r,_,_,_,_,HE3.out,rfl,bin_store B5 (row.lower (by have:=HB.out.loB;omega)),HY.out,(Fr.of bel (by have:=HB.out.loB;omega)).trans (fr_store B5 0 _)⟩
   clear HR HE3 HY row
   go_wp2
   go_ret
   exact FIN.out
open Go.RowKit Go.GrainU
set_option maxRecDepth 20000 in
set_option maxHeartbeats 2000000 in
theorem broll1_any (x:ShT) (tt:Int) (C:Nat) (w:World) (hx:ShIn w x) (hC:w.cell? ⟨C,0,none⟩=some (.int .i64 tt)) :
  Calls Tryz.prog 97 #[x.v,.pointer (some ⟨C,0,none⟩)] w (ShPost w (Grain.sroll x.s tt)):=by
 obtain ⟨V,hV⟩:∃ V,V=(w.alloc (.cells #[.slice x.a0 x.s.se.length x.c0,.slice x.a1 x.s.ra.length x.c1,.slice x.a2 x.s.fi.length x.c2,.slice x.a3 x.s.co.length x.c3,.int .i64 x.s.rf,.int .i64 x.s.ff,.int .i64 x.s.ft,.int .i64 x.s.cf,.int .i64 x.s.ct] 59)).alloc (.cells #[.slice none 0 0,.slice none 0 0,.slice none 0 0,.slice none 0 0,.int .i64 0,.int .i64 0,.int .i64 0,.int .i64 0,.int .i64 0] 59):=⟨_,rfl⟩
 have bel:Below w.heap.size w V:=by rw [hV];exact ((Below.refl _ _).alloc (Nat.le_refl _) _).alloc (by simp) _
 have R0:V.heap[w.heap.size+1]?=some (so szT):=by
  have:=heap_alloc_new (w.alloc (.cells #[.slice x.a0 x.s.se.length x.c0,.slice x.a1 x.s.ra.length x.c1,.slice x.a2 x.s.fi.length x.c2,.slice x.a3 x.s.co.length x.c3,.int .i64 x.s.rf,.int .i64 x.s.ff,.int .i64 x.s.ft,.int .i64 x.s.cf,.int .i64 x.s.ct] 59)) (so szT)
  rw [hV];simpa [so,szT,Grain.szero] using this
 have hl:C<w.heap.size:=World.block_lt_of_cell? w _ hC
 have P:=hide (sroll_any x tt V (hx.below bel))
 obtain ⟨R,hR⟩:∃ R,R=Grain.sroll x.s tt:=⟨_,rfl⟩
 rw [← hR] at P ⊢
 have HV:=hide hV
 unfold ShT.v at P ⊢
 clear hV hR hx
 go_enter Tryz.func97,Tryz.ntmps97
 go_wp2_with fail
 rw [← HV.out]
 refine P.out.mono ?_
 rintro e w1 ⟨y,rfl,hy,oy,b1⟩
 have R1:=below_block b1 R0
 have bel1:Below w.heap.size w w1:=bel.trans (b1.mono bel.size)
 obtain ⟨r0,r1,r2,r3,r4,r5,r6,r7,r8⟩:=nine_cells R1
 obtain ⟨f0,f1,f2,f3,f4,f5,f6,f7,f8⟩:=so_thaw R1
 have HY:=hide hy
 have hs0:w.heap.size+1<V.heap.size:=lt_of_block R0
 clear P hy R0 b1
 unfold ShT.v
 go_wp2
 refine bodyPost_ret (v:=.tuple #[y.v,.int .i64 R.2]) (by simp [results,Tryz.results97,go_sem,r0,r1,r2,r3,r4,r5,r6,r7,r8,ShT.v]) rfl ⟨y,rfl,HY.out,?_,below_set9 bel1 (by omega) _ _ _ _ _ _ _ _ _⟩
 have oz:ShO w.heap.size w1 y:=oy.lower bel.size
 have og:w1.grownBy (Set9 w1 (w.heap.size+1) (.slice y.a0 y.s.se.length y.c0) (.slice y.a1 y.s.ra.length y.c1) (.slice y.a2 y.s.fi.length y.c2) (.slice y.a3 y.s.co.length y.c3) (.int .i64 y.s.rf) (.int .i64 y.s.ff) (.int .i64 y.s.ft) (.int .i64 y.s.cf) (.int .i64 y.s.ct)) (some (w.heap.size+1)):=by
  have:=put9_grown w1 (w.heap.size+1) 0 y
  simpa [Put9,Set9] using this
 exact oz.keep og (fun k e=>by injection e with e;subst e;exact ⟨_,_,_,R1,by decide,by decide,by decide⟩)
set_option maxRecDepth 20000 in
set_option maxHeartbeats 2000000 in
theorem bforg1_any (x:ShT) (tier tt:Int) (C1 C2:Nat) (w:World) (hx:ShIn w x) (hC1:w.cell? ⟨C1,0,none⟩=some (.int .i64 tier)) (hC2:w.cell? ⟨C2,0,none⟩=some (.int .i64 tt)) :
  Calls Tryz.prog 99 #[x.v,.pointer (some ⟨C1,0,none⟩),.pointer (some ⟨C2,0,none⟩)] w (ShPost w (Grain.sforg x.s tier tt)):=by
 obtain ⟨V,hV⟩:∃ V,V=(w.alloc (.cells #[.slice x.a0 x.s.se.length x.c0,.slice x.a1 x.s.ra.length x.c1,.slice x.a2 x.s.fi.length x.c2,.slice x.a3 x.s.co.length x.c3,.int .i64 x.s.rf,.int .i64 x.s.ff,.int .i64 x.s.ft,.int .i64 x.s.cf,.int .i64 x.s.ct] 59)).alloc (.cells #[.slice none 0 0,.slice none 0 0,.slice none 0 0,.slice none 0 0,.int .i64 0,.int .i64 0,.int .i64 0,.int .i64 0,.int .i64 0] 59):=⟨_,rfl⟩
 have bel:Below w.heap.size w V:=by rw [hV];exact ((Below.refl _ _).alloc (Nat.le_refl _) _).alloc (by simp) _
 have R0:V.heap[w.heap.size+1]?=some (so szT):=by
  have:=heap_alloc_new (w.alloc (.cells #[.slice x.a0 x.s.se.length x.c0,.slice x.a1 x.s.ra.length x.c1,.slice x.a2 x.s.fi.length x.c2,.slice x.a3 x.s.co.length x.c3,.int .i64 x.s.rf,.int .i64 x.s.ff,.int .i64 x.s.ft,.int .i64 x.s.cf,.int .i64 x.s.ct] 59)) (so szT)
  rw [hV];simpa [so,szT,Grain.szero] using this
 have hl1:C1<w.heap.size:=World.block_lt_of_cell? w _ hC1
 have hl2:C2<w.heap.size:=World.block_lt_of_cell? w _ hC2
 have P:=hide (sforg_any x tier tt V (hx.below bel))
 obtain ⟨R,hR⟩:∃ R,R=Grain.sforg x.s tier tt:=⟨_,rfl⟩
 rw [← hR] at P ⊢
 have HV:=hide hV
 unfold ShT.v at P ⊢
 clear hV hR hx
 go_enter Tryz.func99,Tryz.ntmps99
 go_wp2_with fail
 rw [← HV.out]
 refine P.out.mono ?_
 rintro e w1 ⟨y,rfl,hy,oy,b1⟩
 have R1:=below_block b1 R0
 have bel1:Below w.heap.size w w1:=bel.trans (b1.mono bel.size)
 obtain ⟨r0,r1,r2,r3,r4,r5,r6,r7,r8⟩:=nine_cells R1
 obtain ⟨f0,f1,f2,f3,f4,f5,f6,f7,f8⟩:=so_thaw R1
 have HY:=hide hy
 have hs0:w.heap.size+1<V.heap.size:=lt_of_block R0
 clear P hy R0 b1
 unfold ShT.v
 go_wp2
 refine bodyPost_ret (v:=.tuple #[y.v,.int .i64 R.2]) (by simp [results,Tryz.results99,go_sem,r0,r1,r2,r3,r4,r5,r6,r7,r8,ShT.v]) rfl ⟨y,rfl,HY.out,?_,below_set9 bel1 (by omega) _ _ _ _ _ _ _ _ _⟩
 have oz:ShO w.heap.size w1 y:=oy.lower bel.size
 have og:w1.grownBy (Set9 w1 (w.heap.size+1) (.slice y.a0 y.s.se.length y.c0) (.slice y.a1 y.s.ra.length y.c1) (.slice y.a2 y.s.fi.length y.c2) (.slice y.a3 y.s.co.length y.c3) (.int .i64 y.s.rf) (.int .i64 y.s.ff) (.int .i64 y.s.ft) (.int .i64 y.s.cf) (.int .i64 y.s.ct)) (some (w.heap.size+1)):=by
  have:=put9_grown w1 (w.heap.size+1) 0 y
  simpa [Put9,Set9] using this
 exact oz.keep og (fun k e=>by injection e with e;subst e;exact ⟨_,_,_,R1,by decide,by decide,by decide⟩)
theorem istime_any (t:Int) (w:World):Calls Tryz.prog 95 #[.int .i64 t] w fun e w'=>e=.returned (.bool (decide (0≤t∧t≤1000000)))∧w'=w:=by
 by_cases h0:0≤t
 ·by_cases h1:t≤1000000
  ·have e:decide (0≤t∧t≤1000000)=true:=by simp [h0,h1]
   rw [e];clear e
   go_enter Tryz.func95,Tryz.ntmps95
   go_wp2
   go_ret
   exact ⟨rfl,rfl⟩
  ·have e:decide (0≤t∧t≤1000000)=false:=by simp [h1]
   rw [e];clear e
   go_enter Tryz.func95,Tryz.ntmps95
   go_wp2
   go_ret
   exact ⟨rfl,rfl⟩
 ·have e:decide (0≤t∧t≤1000000)=false:=by simp [h0]
  rw [e];clear e
  go_enter Tryz.func95,Tryz.ntmps95
  go_wp2
  go_ret
  exact ⟨rfl,rfl⟩
def DPost (r:Bs×Int) (lo B:Nat) (w:World) (e:Ending) (w':World):Prop :=
 ∃ (ao:Option Addr) (n cap:Nat) (l:List ShT),e=.returned (.int .i64 r.2)∧BIn w' lo B ao n cap r.1.hz l∧Lies l r.1.l∧Fr lo w w'
theorem bin_hz {w:World} {lo B n cap:Nat} {ao:Option Addr} {hz:Int} {l:List ShT} (h:BIn w lo B ao n cap hz l) (z:Int):BIn (w.setCell ⟨B,1,none⟩ (.int .i64 z)) lo B ao n cap z l :=
 ⟨two_snd h.b _,h.row.keep h.b ⟨by decide,by decide,by decide,by decide⟩ grown_set,h.loB⟩
set_option maxRecDepth 100000 in
set_option maxHeartbeats 4000000 in
theorem broll_any (b:Bs) (hb:BInv b) (t:Int) (l:List ShT) (lo B n cap:Nat) (ao:Option Addr) (w:World) (hB:BIn w lo B ao n cap b.hz l) (hL:Lies l b.l) :
  Calls Tryz.prog 58 #[.pointer (some ⟨B,0,none⟩),.int .i64 t] w (DPost (rollB b t) lo B w):=by
 obtain ⟨V,hV⟩:∃ V,V=w.alloc (.cells #[.int .i64 t] 3):=⟨_,rfl⟩
 have bel:Below w.heap.size w V:=by rw [hV];exact (Below.refl _ _).alloc (Nat.le_refl _) _
 have T0:V.heap[w.heap.size]?=some (.cells #[.int .i64 t] 3 (0,0)):=by rw [hV];exact heap_alloc_new w _
 have c0:V.cell? ⟨w.heap.size,0,none⟩=some (.int .i64 t):=by simp [World.cell?,T0]
 have hlB:lo≤w.heap.size:=by have:=hB.loB;have:=lt_of_block hB.b;omega
 have HBV:=hide (hB.below bel)
 have HL:=hide hL
 have HV:=hide hV
 have hzb:=hb.hz
 have PT:=hide (istime_any t V)
 by_cases hin:0≤t∧t≤1000000
 ·rw [show decide (0≤t∧t≤1000000)=true from by simpa using hin] at PT
  have hE:=hide (enters (P:=Tryz.prog) (f:=97) Tryz.func97 (by kernel_rfl) (by kernel_rfl))
  have P:=hide (each_any (fun s=>Grain.sroll s t) 97 #[.pointer (some ⟨w.heap.size,0,none⟩)] b hb l lo B n cap ao V HBV.out hL hE (fun W x hW hx=>broll1_any x t w.heap.size W hx (by have:=below_block hW T0;simp [World.cell?,this])))
  have HR:Hid (rollB b t=match eachB (fun s=>Grain.sroll s t) b.l with | .error x=>(b,x) | .ok l=>(⟨l,max b.hz (Grain.beg t 10)⟩,0)):=by
   show _=_
   unfold rollB
   rw [if_neg (by omega)] <;> (cases eachB (fun s=>Grain.sroll s t) b.l <;> rfl)
  obtain ⟨z,hz⟩:∃ z,z=b.hz:=⟨_,rfl⟩
  rw [← hz] at HBV HR hzb
  have HZ:=hide hz
  clear hV hL hb hB hz
  go_enter Tryz.func58,Tryz.ntmps58
  go_wp2_with fail
  rw [← HV.out]
  refine PT.out.mono ?_
  intro e w1 hh
  rw [hh.1,hh.2]
  clear hh PT
  go_wp2_with fail
  refine P.out.mono ?_
  intro e w1 hh
  have HH:=hide hh
  clear hh P
  rcases HH.out with ⟨x,ao',n',cap',l',hx,ho,rfl,hB',hL',hF'⟩ | ⟨r,ao',n',cap',l',ho,rfl,hB',hL',hF'⟩
  ·have FIN:Hid (DPost (rollB b t) lo B w (.returned (.int .i64 x)) w1):=by
    show DPost _ _ _ _ _ _
    rw [HR.out,ho]
    exact ⟨_,_,_,_,rfl,hB',hL',(Fr.of bel hlB).trans hF'⟩
   have hxb:(x == 0)=false:=by simpa using hx
   clear HH ho hx HR
   go_wp2
   go_ret
   exact FIN.out
  ·have T1:=(hF'.typ _ _ _ _ T0 (by decide) (by decide)).trans T0
   have FIN:Hid (DPost (rollB b t) lo B w (.returned (.int .i64 0)) (w1.setCell ⟨B,1,none⟩ (.int .i64 (max z (t-t%10)))).drew):=by
    show DPost _ _ _ _ _ _
    rw [HR.out,ho]
    have bd:Below (w1.setCell ⟨B,1,none⟩ (.int .i64 (max z (t-t%10)))).heap.size (w1.setCell ⟨B,1,none⟩ (.int .i64 (max z (t-t%10)))) (w1.setCell ⟨B,1,none⟩ (.int .i64 (max z (t-t%10)))).drew:=below_drewN (Below.refl _ _) 1
    have F2:=((Fr.of bel hlB).trans hF').trans (fr_store hB' 1 (.int .i64 (max z (t-t%10))))
    exact ⟨_,_,_,_,rfl,(bin_hz hB' _).below bd,hL',F2.trans (Fr.of bd (Nat.le_trans hlB F2.size))⟩
   rw [← HZ.out] at hB'
   obtain ⟨q0,q1,q2,q3⟩:=two_cells hB'.b
   have c1:w1.cell? ⟨w.heap.size,0,none⟩=some (.int .i64 t):=by simp [World.cell?,T1]
   clear HH ho HR hB' hL' hF' T0 c0 T1 HBV
   go_wp2_with fail
   go_region
   all_goals go_wp2
   all_goals exact bodyPost_ret (v:=.int .i64 0) (by simp [results,Tryz.results58,go_sem]) rfl FIN.out
 ·rw [show decide (0≤t∧t≤1000000)=false from by simpa using hin] at PT
  have FIN:Hid (DPost (rollB b t) lo B w (.returned (.int .i64 3)) (w.alloc (.cells #[.int .i64 t] 3))):=by
   show DPost _ _ _ _ _ _
   rw [← HV.out]
   have e:rollB b t=(b,3):=by unfold rollB;rw [if_pos (by omega)]
   rw [e]
   exact ⟨_,_,_,_,rfl,HBV.out,HL.out,Fr.of bel hlB⟩
  clear hin hL HL HBV hb hB
  go_enter Tryz.func58,Tryz.ntmps58
  go_wp2_with fail
  rw [← HV.out]
  refine PT.out.mono ?_
  intro e w1 hh
  rw [hh.1,hh.2]
  clear hh PT
  go_wp2
  exact bodyPost_ret (v:=.int .i64 3) (by simp [results,Tryz.results58,go_sem]) rfl FIN.out
open Go.RowKit Go.GrainU
theorem own_room {w:World} {base e size n c m:Nat} {ao:Option Addr} {xs:List Value} (h:w.ownsRow base e size (.slice ao n c) m xs):m≤c:=by
 rcases h.2 with ⟨h2,h3⟩ | ⟨g,cap,cur,hv,_,_,h4,_⟩
 ·omega
 ·injection hv with _ _ e3
  omega
theorem ShO.room {base:Nat} {w:World} {y:ShT} (h:ShO base w y):ShCap y:=⟨own_room h.o1,own_room h.o2,own_room h.o3⟩
theorem wrap_add (a b:Int):wrap64 (wrap64 a+b)=wrap64 (a+b):=by
 unfold wrap64
 omega
def S1Post (s:Grain.Shf) (f t c:Int) (C2:Nat) (w:World) (e:Ending) (w':World):Prop :=
 ∃ (J:Grain.Sm) (N E:Int),e=.returned (sumv J E)∧((E≠0∧lookS s f t=.error E)∨(E=0∧lookS s f t=.ok J∧N=(Grain.read s (Grain.choose s f t).1).2.1))∧w'.heap[C2]?=some (.cells #[.int .i64 (wrap64 (c+N))] 3 (0,0))∧Bel (some C2) w.heap.size w w'
set_option maxRecDepth 20000 in
set_option maxHeartbeats 2000000 in
theorem bask1_any (C1 C2 B lo n cap i:Nat) (ao:Option Addr) (hz a e' c:Int) (l:List ShT) (w:World) (k1:w.cell? ⟨C1,0,none⟩=some (.pointer (some ⟨B,0,none⟩))) (k2:w.heap[C2]?=some (.cells #[.int .i64 (wrap64 c)] 3 (0,0))) (hB:BIn w lo B ao n cap hz l) (hi:i<n) :
  Calls Tryz.prog 102 #[.int .i64 i,.int .i64 a,.int .i64 e',.pointer (some ⟨C1,0,none⟩),.pointer (some ⟨C2,0,none⟩)] w (S1Post (sht l i).s a e' c C2 w):=by
 have hil:i<l.length:=by rw [← hB.row.len];exact hi
 obtain ⟨bb,off,rfl,hbb,hcell⟩:=seg_shelf hB.row.seg hil
 obtain ⟨x,hx⟩:∃ x,x=sht l i:=⟨_,rfl⟩
 rw [← hx]
 have c9:Cells9 w bb (off+i*9) x:=by rw [hx];exact hcell i hil
 have ox:ShO lo w x:=by rw [hx];exact hB.row.shs _ (sht_mem hil)
 obtain ⟨V,hV⟩:∃ V,V=w.alloc (.cells #[.int .i64 0,.int .i64 0,.int .i64 0,.int .i64 0,.int .i64 0,.int .i64 0,.int .i64 0] 76):=⟨_,rfl⟩
 have bel:Below w.heap.size w V:=by rw [hV];exact (Below.refl _ _).alloc (Nat.le_refl _) _
 have R0:V.heap[w.heap.size]?=some (.cells #[.int .i64 0,.int .i64 0,.int .i64 0,.int .i64 0,.int .i64 0,.int .i64 0,.int .i64 0] 76 (0,0)):=by rw [hV];exact heap_alloc_new w _
 have P:=hide (look_any x a e' V (ox.below bel).shIn ox.room)
 have hl1:C1<w.heap.size:=World.block_lt_of_cell? w _ k1
 have hl2:C2<w.heap.size:=lt_of_block k2
 have hlB:B<w.heap.size:=lt_of_block hB.b
 obtain ⟨q0,q1,-,-⟩:=two_cells hB.b
 obtain ⟨x0,x1,x2,x3,x4,x5,x6,x7,x8⟩:=c9
 have K2:=below_block bel k2
 have HV:=hide hV
 unfold ShT.v at P
 have hi':(i:Int)<(n:Int):=by omega
 have HX:=hide hx
 clear hV hx hcell hB ox hil
 go_enter Tryz.func102,Tryz.ntmps102
 go_wp2_with fail
 rw [← HV.out]
 refine P.out.mono ?_
 rintro e w1 ⟨J,N,E,rfl,hJ,b1⟩
 have bel1:Below w.heap.size w w1:=bel.trans (b1.mono bel.size)
 have R1:=below_block b1 R0
 have K3:=below_block b1 K2
 have HJ:=hide hJ
 obtain ⟨W2,hW2⟩:∃ W2,W2=w1.alloc (.cells #[.int .i64 J.c,.int .i64 J.t,.int .i64 J.mn,.int .i64 J.mx,.int .i64 J.f,.int .i64 J.l,.int .i64 J.r] 76):=⟨_,rfl⟩
 have b2:Below w1.heap.size w1 W2:=by rw [hW2];exact (Below.refl _ _).alloc (Nat.le_refl _) _
 have bel2:Below w.heap.size w W2:=bel1.trans (b2.mono bel1.size)
 have R2:=below_block b2 R1
 have K4:=below_block b2 K3
 have J2:W2.heap[w1.heap.size]?=some (.cells #[.int .i64 J.c,.int .i64 J.t,.int .i64 J.mn,.int .i64 J.mx,.int .i64 J.f,.int .i64 J.l,.int .i64 J.r] 76 (0,0)):=by rw [hW2];exact heap_alloc_new w1 _
 have hCJ:C2≠w1.heap.size:=by have:=bel1.size;omega
 have HW2:=hide hW2
 obtain ⟨M,hM⟩:∃ M,M=wrap64 (c+N):=⟨_,rfl⟩
 have hM2:wrap64 (wrap64 c+N)=M:=by rw [hM];exact wrap_add c N
 obtain ⟨W3,hW3⟩:∃ W3,W3=W2.setCell ⟨C2,0,none⟩ (.int .i64 M):=⟨_,rfl⟩
 have K5:W3.heap[C2]?=some (.cells #[.int .i64 M] 3 (0,0)):=by rw [hW3];simp [World.setCell,Array.getElem?_modify,K4]
 have J3:W3.heap[w1.heap.size]?=some (.cells #[.int .i64 J.c,.int .i64 J.t,.int .i64 J.mn,.int .i64 J.mx,.int .i64 J.f,.int .i64 J.l,.int .i64 J.r] 76 (0,0)):=by rw [hW3,setCell_far (fun e=>hCJ e.symm)];exact J2
 have R3:W3.heap[w.heap.size]?=some (.cells #[.int .i64 0,.int .i64 0,.int .i64 0,.int .i64 0,.int .i64 0,.int .i64 0,.int .i64 0] 76 (0,0)):=by rw [hW3,setCell_far (by omega)];exact R2
 have bel3:Bel (some C2) w.heap.size w W3:=by
  rw [hW3]
  exact ⟨bel2.os,bel2.tape,bel2.output,by simp;exact bel2.size,fun k hk hr=>by rw [setCell_far (fun e=>hr (by rw [e]))];exact bel2.block k hk⟩
 have HW3:=hide hW3
 have HM:=hide hM
 have k4:W2.cell? ⟨C2,0,none⟩=some (.int .i64 (wrap64 c)):=by simp [World.cell?,K4]
 have f4:W2.frozen? ⟨C2,0,none⟩=false:=by simp [World.frozen?,K4]
 obtain ⟨j0,j1,j2,j3,j4,j5,j6⟩:=seven_cells J3
 obtain ⟨r0,r1,r2,r3,r4,r5,r6⟩:=seven_cells R3
 obtain ⟨t0,t1,t2,t3,t4,t5,t6⟩:=seven_thaw R3
 clear P hJ R0 K2 K3 R1 R2 K4 J2 hW2 hW3 hM b1 b2 bel bel1 bel2 x0 x1 x2 x3 x4 x5 x6 x7 x8 q0 q1 J3 HV
 go_upto_region 2 with fail
 rw [← HW2.out]
 go_upto_region 3 with fail
 rw [← HW3.out]
 go_wp2
 exact bodyPost_ret (v:=sumv J E) (by simp [sumv,results,Tryz.results102,go_sem,r0,r1,r2,r3,r4,r5,r6]) rfl ⟨J,N,E,rfl,HJ.out,by
  rw [← HM.out]
  have hne:C2≠w.heap.size:=by omega
  repeat rw [setCell_far hne]
  exact K5,bel3.trans (Bel.of (below_set7 (Below.refl w.heap.size W3) (Nat.le_refl _) _ _ _ _ _ _ _) _)⟩
end Go.Proofs.YtoldmigappbjcaaGreatDoor
namespace Go.GrainU
open Go.RowKit
def sersT (l:List ShT):List ST:=l.map fun x=>⟨x.s.se,x.a0,x.c0⟩
theorem sersT_len (l:List ShT):(sersT l).length=l.length:=by simp [sersT]
def vrow (l:List ShT) (n k:Nat):List Value:=hcells (sersT (l.take k))++List.replicate (n-k) (.slice none 0 0)
theorem vrow_set {l:List ShT} {n k:Nat} (hk:k<l.length) (hn:k<n):(vrow l n k).set k (.slice (sht l k).a0 (sht l k).s.se.length (sht l k).c0)=vrow l n (k+1):=by
 have h1:(hcells (sersT (l.take k))).length=k:=by rw [hcells_length,sersT_len,List.length_take];omega
 unfold vrow
 rw [List.set_append_right _ _ (by omega),h1,Nat.sub_self,show n-k=(n-(k+1))+1 from by omega,List.replicate_succ,List.set_cons_zero]
 have e:l.take (k+1)=l.take k++[sht l k]:=by rw [List.take_add_one,List.getElem?_eq_getElem hk,sht_get hk];rfl
 rw [e]
 simp [sersT,hcells_append,hcells]
theorem vrow_at {l:List ShT} {n k:Nat} (hk:k<l.length) (hn:k<n):(vrow l n k)[k]?=some (.slice none 0 0):=by
 have h1:(hcells (sersT (l.take k))).length=k:=by rw [hcells_length,sersT_len,List.length_take];omega
 unfold vrow
 rw [List.getElem?_append_right (by omega),h1,Nat.sub_self,List.getElem?_replicate,if_pos (by omega)]
theorem vrow_all {l:List ShT} {n:Nat} (hn:n=l.length):vrow l n n=hcells (sersT l):=by
 unfold vrow
 rw [hn,List.take_length,Nat.sub_self];simp
end Go.GrainU
namespace Go.Proofs.YtoldmigappbjcaaGreatDoor
open Go.RowKit Go.GrainU
set_option maxRecDepth 20000 in
set_option maxHeartbeats 2000000 in
theorem bseries_any (l:List ShT) (lo B n cap:Nat) (ao:Option Addr) (hz:Int) (w:World) (hB:BIn w lo B ao n cap hz l) (hn8:n≤8) :
  Calls Tryz.prog 101 #[.pointer (some ⟨B,0,none⟩)] w fun e w'=>∃ Q:Nat,e=.returned (.slice (some ⟨Q,0,none⟩) n n)∧Seg w' (some ⟨Q,0,none⟩) (hcells (sersT l))∧Below w.heap.size w w':=by
 obtain ⟨i0,hi,hz0,hz1,hz2⟩:=info_parts (P:=Tryz.prog) (e:=32) (z:=.slice none 0 0) (size:=1) (bytes:=24) (by kernel_rfl)
 have hn:=hB.row.len
 have HN:=hide hn
 have HB:=hide hB
 have hlB:B<w.heap.size:=lt_of_block hB.b
 obtain ⟨p0,p1,p2,p3⟩:=two_cells hB.b
 clear hn hB
 go_enter Tryz.func101,Tryz.ntmps101
 go_wp2_with (at_make;refine wpList_make_full _ rfl _ _ 98 rfl w.heap.size 32 i0 (.slice none 0 0) 1 Tryz.underlying98 hi hz0 hz1 .i64 .i64 _ _ n rfl rfl rfl rfl (by rw [hz2];omega) (by unfold maxLen;omega) (by simp) ?_)
 intro w4 own4 gr4
 have hmc:(madeCells #[Value.slice none 0 0] n).toList=vrow l n 0:=by
  rw [toList_madeCells_one]
  simp [vrow,sersT,hcells]
 rw [hmc] at own4
 have b4:Below w.heap.size w w4:=(Below.refl _ _).grown gr4 (by simp) (fun k hk=>by cases hk)
 have B4:=below_block b4 HB.out.b
 obtain ⟨r0,r1,r2,r3⟩:=two_cells B4
 clear hmc gr4 p0 p1 p2 p3
 go_wp2
 go_loopw [19] (fun i wr=>∃ k:Nat,k≤n∧i=.int .i64 k∧wr.ownsRow w.heap.size 32 1 (.slice (some ⟨w.heap.size,0,none⟩) n n) n (vrow l n k)∧Below w.heap.size w wr) (fun i _=>n-(intOf i).toNat)
 case atStart=>exact ⟨0,Nat.zero_le _,rfl,own4,b4⟩
 case round =>
  obtain ⟨k,hk,rfl,own,bel⟩:=hrel
  clear own4 b4 B4 r0 r1 r2 r3
  by_cases hlt:k<n
  ·have hkl:k<l.length:=by rw [← HN.out];exact hlt
   obtain ⟨b,off,rfl,hb,hcell⟩:=seg_shelf HB.out.row.seg hkl
   obtain ⟨x,hx⟩:∃ x,x=sht l k:=⟨_,rfl⟩
   have c9:Cells9 wr b (off+k*9) x:=by rw [hx];exact (hcell _ hkl).below bel hb
   obtain ⟨q0,q1,q2,q3,q4,q5,q6,q7,q8⟩:=c9
   obtain ⟨V,hV⟩:∃ V,V=wr.alloc (.cells #[.slice x.a0 x.s.se.length x.c0,.slice x.a1 x.s.ra.length x.c1,.slice x.a2 x.s.fi.length x.c2,.slice x.a3 x.s.co.length x.c3,.int .i64 x.s.rf,.int .i64 x.s.ff,.int .i64 x.s.ft,.int .i64 x.s.cf,.int .i64 x.s.ct] 59):=⟨_,rfl⟩
   have bA:Below wr.heap.size wr V:=by rw [hV];exact (Below.refl _ _).alloc (Nat.le_refl _) _
   have ownA:=own_below own bA
   have fz:V.frozen? ⟨w.heap.size,k,none⟩=false:=ownA.frozenAt k
   have cz:V.cell? ⟨w.heap.size,k,none⟩=some (.slice none 0 0):=(ownA.cellAt k (by omega)).trans (vrow_at hkl hlt)
   have HSet:Hid ((V.setCell ⟨w.heap.size,k,none⟩ (.slice x.a0 x.s.se.length x.c0)).ownsRow w.heap.size 32 1 (.slice (some ⟨w.heap.size,0,none⟩) n n) n (vrow l n (k+1))):=by
    have h1:=(ownA.stored k (.slice x.a0 x.s.se.length x.c0)).1
    have h2:=vrow_set (l:=l) hkl hlt
    rw [← hx] at h2
    rw [h2] at h1
    exact h1
   have HBs:Hid (Below w.heap.size w (V.setCell ⟨w.heap.size,k,none⟩ (.slice x.a0 x.s.se.length x.c0))):=(below_step bA bel).setCell (by show w.heap.size≤w.heap.size;omega) _
   have k2:(k:Int)<(n:Int):=by omega
   have v0:V.cell? ⟨wr.heap.size,0,none⟩=some (.slice x.a0 x.s.se.length x.c0):=by rw [hV];simp
   have HV:=hide hV
   clear hx hcell hkl ownA own bA bel hV
   go_upto_region 5 with fail
   rw [← HV.out]
   go_wp2
   go_roundw
   case rel=>exact ⟨k+1,by omega,by go_num,HSet.out,HBs.out⟩
   case measure=>simp [intOf];omega
  ·have he:k=n:=by omega
   subst he
   have hsg:Seg wr (some ⟨w.heap.size,0,none⟩) (hcells (sersT l)):=by
    rw [← vrow_all HN.out]
    obtain ⟨ao',c,hv,hs',_⟩:=own_open own
    simp only [Value.slice.injEq] at hv
    obtain ⟨rfl,-,rfl⟩:=hv
    exact hs'
   clear own HN
   go_wp2
   go_ret
   exact ⟨_,rfl,hsg,bel⟩
open Go.RowKit Go.GrainU
def AP (V:World) (r:Grain.Shf) (Y:Nat) (wx:World):Prop:=∃ y:ShT,wx.heap[Y]?=some (so y)∧ShO V.heap.size wx y∧Hid (y.s=r)∧Below V.heap.size V wx∧V.heap.size≤Y
theorem AP.bel {V wx:World} {r:Grain.Shf} {Y:Nat} (h:AP V r Y wx):Below V.heap.size V wx:=by
 obtain ⟨y,_,_,_,b,_⟩:=h
 exact b
def QA (V W:World) (r:Grain.Shf×Int) (e:Ending) (w1:World):Prop :=
 ∃ y:ShT,e=.returned (.tuple #[.agg #[.slice y.a0 y.s.se.length y.c0,.slice y.a1 y.s.ra.length y.c1,.slice y.a2 y.s.fi.length y.c2,.slice y.a3 y.s.co.length y.c3,.int .i64 y.s.rf,.int .i64 y.s.ff,.int .i64 y.s.ft,.int .i64 y.s.cf,.int .i64 y.s.ct],.int .i64 r.2])∧AP V r.1 w1.heap.size (w1.alloc (.cells #[.slice y.a0 y.s.se.length y.c0,.slice y.a1 y.s.ra.length y.c1,.slice y.a2 y.s.fi.length y.c2,.slice y.a3 y.s.co.length y.c3,.int .i64 y.s.rf,.int .i64 y.s.ff,.int .i64 y.s.ft,.int .i64 y.s.cf,.int .i64 y.s.ct] 59)) ∧
  (∀ Y,V.heap.size≤Y→W.heap[Y]?=some (so szT)→w1.heap[Y]?=some (so szT)∧AP V r.1 Y (Set9 w1 Y (.slice y.a0 y.s.se.length y.c0) (.slice y.a1 y.s.ra.length y.c1) (.slice y.a2 y.s.fi.length y.c2) (.slice y.a3 y.s.co.length y.c3) (.int .i64 y.s.rf) (.int .i64 y.s.ff) (.int .i64 y.s.ft) (.int .i64 y.s.cf) (.int .i64 y.s.ct)))∧Below V.heap.size V w1
theorem qa_of {V W w1:World} {r:Grain.Shf×Int} {e:Ending} (hW:Below V.heap.size V W) (h:ShPost W r e w1):QA V W r e w1:=by
 obtain ⟨y,rfl,hy,oy,b1⟩:=h
 have oz:ShO V.heap.size w1 y:=oy.lower hW.size
 have h1:Below V.heap.size V w1:=hW.trans (b1.mono hW.size)
 refine ⟨y,rfl,⟨y,heap_alloc_new _ _,oz.below ((Below.refl _ _).alloc (Nat.le_refl _) _),hy,h1.alloc h1.size _,h1.size⟩,fun Y hY hZ=>?_,h1⟩
 have Z:=below_block b1 hZ
 have og:w1.grownBy (Set9 w1 Y (.slice y.a0 y.s.se.length y.c0) (.slice y.a1 y.s.ra.length y.c1) (.slice y.a2 y.s.fi.length y.c2) (.slice y.a3 y.s.co.length y.c3) (.int .i64 y.s.rf) (.int .i64 y.s.ff) (.int .i64 y.s.ft) (.int .i64 y.s.cf) (.int .i64 y.s.ct)) (some Y):=by
  have:=put9_grown w1 Y 0 y
  simpa [Put9,Set9] using this
 refine ⟨Z,y,?_,oz.keep og (fun k e=>by injection e with e;subst e;exact ⟨_,_,_,Z,by decide,by decide,by decide⟩),hy,h1.grown og h1.size (fun k hk=>by injection hk with hk;omega),hY⟩
 unfold so at Z
 simp [Set9,World.setCell,Array.getElem?_modify,Z,so]
theorem own_shelf {w:World} {lo n:Nat} {v:Value} {xs:List Value} (h:w.ownsRow lo 59 9 v n xs):∀ k,v.ownBlock=some k→∃ (c:Array Value) (t:TypeId) (fr:Nat×Nat),w.heap[k]?=some (.cells c t fr)∧t≠88∧t≠34∧t≠145:=fun k e=>by
 rcases h.2 with ⟨h2,_⟩ | ⟨g,c,cur,hv,_,hh,_⟩
 ·rw [h2] at e;simp [Value.ownBlock] at e
 ·rw [hv] at e
  simp [Value.ownBlock] at e
  subst e
  exact ⟨cur,_,_,hh,by decide,by decide,by decide⟩
theorem RowS.ins {w w':World} {lo N d g' d' p:Nat} {co:Option Addr} {l:List ShT} {y:ShT} (h:RowS w lo (.slice co N d) N l) (hy:ShO lo w y) (own:w'.ownsRow lo 59 9 (.slice (some ⟨g',0,none⟩) (N+1) d') (N+1) ((vcells l).take (p*9)++(y.cells++(vcells l).drop (p*9)))) (gr:w.grownBy w' (Value.slice co N d).ownBlock):RowS w' lo (.slice (some ⟨g',0,none⟩) (N+1) d') (N+1) (l.take p++[y]++l.drop p):=by
 have hr:=own_shelf h.own
 refine ⟨?_,fun x hx=>?_⟩
 ·rw [List.append_assoc,vcells_append,vcells_append,vcells_take,vcells_drop]
  simpa [vcells] using own
 ·rcases List.mem_append.1 hx with e | e
  ·rcases List.mem_append.1 e with e | e
   ·exact (h.shs x (List.mem_of_mem_take e)).keep gr hr
   ·simp at e;rw [e];exact hy.keep gr hr
  ·exact (h.shs x (List.mem_of_mem_drop e)).keep gr hr
theorem own_other {w w':World} {lo N k:Nat} {v:Value} {xs:List Value} {c:Array Value} {t:TypeId} {fr:Nat×Nat} (h:w.ownsRow lo 59 9 v N xs) (gr:w.grownBy w' v.ownBlock) (hk:w.heap[k]?=some (.cells c t fr)) (ht:t≠59):w'.heap[k]?=some (.cells c t fr):=by
 rw [gr.block k (lt_of_block hk) (fun e=>own_far h hk ht e.symm)];exact hk
theorem fr_row {w w':World} {lo N:Nat} {v:Value} {xs:List Value} (h:w.ownsRow lo 59 9 v N xs) (gr:w.grownBy w' v.ownBlock) (hlo:lo≤w.heap.size):Fr lo w w':=by
 cases hv:v.ownBlock with
 | none=>rw [hv] at gr;exact Fr.grown0 gr hlo
 | some g =>
  rw [hv] at gr
  have h1:=own_base h g hv
  obtain ⟨cur,hh⟩:∃ cur,w.heap[g]?=some (.cells cur 59 (0,0)):=by
   rcases h.2 with ⟨h2,_⟩ | ⟨g',c,cur,hv',_,hh,_⟩
   ·rw [h2] at hv;simp [Value.ownBlock] at hv
   ·rw [hv'] at hv
    simp [Value.ownBlock] at hv
    subst hv
    exact ⟨cur,hh⟩
  exact Fr.grown gr h1.1 hlo hh (.inl rfl)
open Go.RowKit Go.GrainU
set_option maxRecDepth 100000 in
set_option maxHeartbeats 4000000 in
theorem bput_any (b:Bs) (i:Nat) (t v:Int) (l:List ShT) (lo B n cap:Nat) (ao:Option Addr) (w:World) (hB:BIn w lo B ao n cap b.hz l) (hL:Lies l b.l) (hi:i<b.l.length) (h8:b.l.length≤8) :
  Calls Tryz.prog 93 #[.pointer (some ⟨B,0,none⟩),.int .i64 i,.agg #[.int .i64 t,.int .i64 v]] w (DPost (putB b i t v) lo B w):=by
 have hn:=hB.row.len
 have hil:i<l.length:=by rw [hL.len];exact hi
 have hin:i<n:=by omega
 have hn8:n≤8:=by rw [hn,hL.len];exact h8
 obtain ⟨g,rfl⟩:∃ g,ao=some ⟨g,0,none⟩:=by
  rcases hB.row.own.2 with ⟨_,h2⟩ | ⟨g,c,cur,hv,_⟩
  ·omega
  ·injection hv with e1 _ _
   exact ⟨g,e1⟩
 obtain ⟨V,hV⟩:∃ V,V=w.alloc (.cells #[.int .i64 t,.int .i64 v] 34):=⟨_,rfl⟩
 have bel:Below w.heap.size w V:=by rw [hV];exact (Below.refl _ _).alloc (Nat.le_refl _) _
 have T0:V.heap[w.heap.size]?=some (.cells #[.int .i64 t,.int .i64 v] 34 (0,0)):=by rw [hV];exact heap_alloc_new w _
 have hlB:lo≤w.heap.size:=by have:=hB.loB;have:=lt_of_block hB.b;omega
 have BV:=hB.below bel
 obtain ⟨x,hx⟩:∃ x,x=sht l i:=⟨_,rfl⟩
 have HXs:Hid (x.s=(kp b.l i).s):=by show _=_;rw [hx];exact hL.at hil
 have c9:Cells9 V g (i*9) x:=by
  obtain ⟨bb,off,e,_,hc⟩:=seg_shelf BV.row.seg hil
  injection e with e
  injection e with e1 e2 _
  have:=hc i hil
  rw [← e1,← e2,Nat.zero_add] at this
  rw [hx];exact this
 have hgl:g<V.heap.size:=World.block_lt_of_cell? V _ c9.1
 have hxV:ShIn V x:=by rw [hx];exact (BV.row.shs _ (sht_mem hil)).shIn
 have HP:Hid (∀ W:World,Below V.heap.size V W→Calls Tryz.prog 127 #[x.v,.agg #[.int .i64 t,.int .i64 v]] W (QA V W (Grain.sapp x.s t v))):=fun W hW=>(sapp_any x t v W (hxV.below hW)).mono fun e w1 h=>qa_of hW h
 obtain ⟨R,hR⟩:∃ R,R=Grain.sapp x.s t v:=⟨_,rfl⟩
 have HC:Hid (∀ W,Below V.heap.size V W→(W.cell? ⟨B,0,none⟩=some (.slice (some ⟨g,0,none⟩) n cap)∧Cells9 W g (i*9) x∧W.cell? ⟨w.heap.size,0,none⟩=some (.int .i64 t)∧W.cell? ⟨w.heap.size,1,none⟩=some (.int .i64 v))):=by
  intro W hW
  have h1:=below_block hW BV.b
  have h2:=below_block hW T0
  exact ⟨by simp [World.cell?,h1],c9.below hW hgl,by simp [World.cell?,h2],by simp [World.cell?,h2]⟩
 have HR:Hid (putB b i t v=if R.2=0 then (⟨b.l.set i ⟨R.1,(kp b.l i).A++[(t,v)]⟩,b.hz⟩,0) else (b,R.2)):=by
  show _=_
  rw [hR,HXs.out];rfl
 rw [← hR] at HP
 have HV:=hide hV
 have HBV:=hide BV
 have HL:=hide hL
 have HI:=hide hil
 obtain ⟨q,c9',s0,s1⟩:=HC.out V (Below.refl _ _)
 obtain ⟨q0,q1,q2,q3,q4,q5,q6,q7,q8⟩:=c9'
 unfold ShT.v at HP
 have hi':(i:Int)<(n:Int):=by omega
 clear hV hB hL hn hil hx HXs c9 hxV hR BV T0 hi h8
 have hws:w.heap.size<V.heap.size:=by rw [HV.out];simp
 have hBs:B<V.heap.size:=lt_of_block HBV.out.b
 have BD:Below V.heap.size V V.drew:=below_drewN (Below.refl _ _) 1
 have BD2:∀ o,Below V.heap.size V (V.drew.alloc o):=fun o=>BD.alloc (Nat.le_refl _) _
 have BD3:∀ o,Below V.heap.size V (V.alloc o).drew:=fun o=>below_drewN ((Below.refl _ _).alloc (Nat.le_refl _) _) 1
 go_enter Tryz.func93,Tryz.ntmps93
 go_upto_region 1 with fail
 rw [← HV.out]
 go_cut [7,8] from 10 to 22 (fun v7 v8 wx=>∃ Y:Nat,v7=.pointer (some ⟨Y,0,none⟩)∧v8=.int .i64 R.2∧AP V R.1 Y wx)
 case first =>
  go_region_with
   (first
    | (go_at_call 127;refine (HP.out _ BD).mono ?_;rintro e w1 ⟨y,rfl,hA,-⟩;have HA:=hide hA;clear hA)
    | (go_at_call 127;refine (HP.out _ (BD3 _)).mono ?_;rintro e w1 ⟨y,rfl,-,hA,-⟩;obtain ⟨Z,hA⟩:=hA _ (Nat.le_refl _) (heap_alloc_new V _);have HA:=hide hA;obtain ⟨z0,z1,z2,z3,z4,z5,z6,z7,z8⟩:=nine_cells Z;obtain ⟨y0,y1,y2,y3,y4,y5,y6,y7,y8⟩:=so_thaw Z;clear hA Z)
    | (go_at_call 127;refine (HP.out _ (BD2 _)).mono ?_;rintro e w1 ⟨y,rfl,-,hA,-⟩;obtain ⟨Z,hA⟩:=hA _ (Nat.le_refl _) (heap_alloc_new V.drew _);have HA:=hide hA;obtain ⟨z0,z1,z2,z3,z4,z5,z6,z7,z8⟩:=nine_cells Z;obtain ⟨y0,y1,y2,y3,y4,y5,y6,y7,y8⟩:=so_thaw Z;clear hA Z))
  all_goals go_wp2
  all_goals go_meet
  all_goals exact ⟨_,rfl,rfl,HA.out⟩
 case rest =>
  obtain ⟨Y,rfl,rfl,y,hY,oy,HY,bx,hYl⟩:=hcut
  have HC2:=HC.out wc bx
  obtain ⟨E,hE⟩:∃ E,E=R.2:=⟨_,rfl⟩
  rw [← hE] at HR ⊢
  have HBx:=hide (HBV.out.below bx)
  have hFx:Fr lo w wc:=(Fr.of bel hlB).trans (Fr.of bx (Nat.le_trans hlB bel.size))
  clear HP HC q q0 q1 q2 q3 q4 q5 q6 q7 q8 s0 s1 hE
  by_cases h0:E=0
  ·subst h0
   obtain ⟨q,c9,s0,s1⟩:=HC2
   obtain ⟨q0,q1,q2,q3,q4,q5,q6,q7,q8⟩:=c9
   obtain ⟨y0,y1,y2,y3,y4,y5,y6,y7,y8⟩:=nine_cells hY
   have fz:∀ j,wc.frozen? ⟨g,j,none⟩=false:=HBx.out.row.own.frozenAt
   have f0:=fz (i*9)
   have f1:=fz (i*9+1)
   have f2:=fz (i*9+2)
   have f3:=fz (i*9+3)
   have f4:=fz (i*9+4)
   have f5:=fz (i*9+5)
   have f6:=fz (i*9+6)
   have f7:=fz (i*9+7)
   have f8:=fz (i*9+8)
   have FIN:Hid (DPost (putB b i t v) lo B w (.returned (.int .i64 0)) (Put9 wc g (i*9) y).drew):=by
    show DPost _ _ _ _ _ _
    rw [HR.out,if_pos rfl]
    have hg:=put9_grown wc g (i*9) y
    have hgo:∃ cur,wc.heap[g]?=some (.cells cur 59 (0,0)):=by
     rcases HBx.out.row.own.2 with ⟨h2,_⟩ | ⟨g',c,cur,hv,_,hh,_⟩
     ·cases h2
     ·injection hv with e1 _ _
      injection e1 with e1
      injection e1 with e1 _ _
      subst e1
      exact ⟨cur,hh⟩
    obtain ⟨cur,hh⟩:=hgo
    have hlg:lo≤g:=(own_base HBx.out.row.own g rfl).1
    have bd:Below (Put9 wc g (i*9) y).heap.size (Put9 wc g (i*9) y) (Put9 wc g (i*9) y).drew:=below_drewN (Below.refl _ _) 1
    have hne:B≠g:=fun e=>by
     have h1:=HBx.out.b
     rw [e,hh] at h1
     injection h1 with h1
     injection h1 with _ h2 _
     exact absurd h2 (by decide)
    have hB2:BIn (Put9 wc g (i*9) y) lo B (some ⟨g,0,none⟩) n cap b.hz (l.set i y) :=
     ⟨by rw [hg.block B (lt_of_block HBx.out.b) (fun e=>hne (by injection e))];exact HBx.out.b,HBx.out.row.put HI.out (oy.lower (by have:=bel.size;omega)),HBx.out.loB⟩
    have hF2:Fr lo w (Put9 wc g (i*9) y):=hFx.trans (Fr.grown hg hlg (Nat.le_trans hlB hFx.size) hh (.inl rfl))
    refine ⟨_,_,_,_,rfl,hB2.below bd,?_,hF2.trans (Fr.of bd (Nat.le_trans hlB hF2.size))⟩
    show Lies _ _
    have hl:=HL.out
    unfold Lies at hl ⊢
    rw [List.map_set,List.map_set,hl,HY.out]
   clear HR HBx hFx HL HY oy hY bx hYl HI
   go_wp2_with fail
   go_region
   all_goals go_wp2
   all_goals exact bodyPost_ret (v:=.int .i64 0) (by simp [results,Tryz.results93,go_sem]) rfl FIN.out
  ·have hne:(E == 0)=false:=by simpa using h0
   have FIN:Hid (DPost (putB b i t v) lo B w (.returned (.int .i64 E)) wc):=by
    show DPost _ _ _ _ _ _
    rw [HR.out,if_neg h0]
    exact ⟨_,_,_,_,rfl,HBx.out,HL.out,hFx⟩
   clear h0 HR HBx hFx HL HY oy hY bx hYl HI HC2
   go_wp2
   exact bodyPost_ret (v:=.int .i64 E) (by simp [results,Tryz.results93,go_sem]) rfl FIN.out
open Go.RowKit Go.GrainU
set_option maxRecDepth 100000 in
set_option maxHeartbeats 8000000 in
theorem bputn_any (b:Bs) (i:Nat) (s:Lb) (t v:Int) (so':Option Addr) (m c':Nat) (l:List ShT) (lo B n cap:Nat) (ao:Option Addr) (w:World) (hB:BIn w lo B ao n cap b.hz l) (hL:Lies l b.l) (hi:i≤b.l.length) (hs:Seg w so' (lcells s)) (hm:m=s.length) (hm4:m≤4) (hf:Fits s) (hnil:so'=none→m=0∧c'=0) :
  Calls Tryz.prog 94 #[.pointer (some ⟨B,0,none⟩),.int .i64 i,.slice so' m c',.agg #[.int .i64 t,.int .i64 v]] w (DPost (putN b i s t v) lo B w):=by
 have hn:=hB.row.len
 have hin:i≤n:=by rw [hn,hL.len];exact hi
 obtain ⟨V,hV⟩:∃ V,V=w.alloc (.cells #[.int .i64 t,.int .i64 v] 34):=⟨_,rfl⟩
 have bel:Below w.heap.size w V:=by rw [hV];exact (Below.refl _ _).alloc (Nat.le_refl _) _
 have T0:V.heap[w.heap.size]?=some (.cells #[.int .i64 t,.int .i64 v] 34 (0,0)):=by rw [hV];exact heap_alloc_new w _
 have hlB:lo≤w.heap.size:=by have:=hB.loB;have:=lt_of_block hB.b;omega
 have BV:=hB.below bel
 have hBs:B<V.heap.size:=lt_of_block BV.b
 have hws:w.heap.size<V.heap.size:=lt_of_block T0
 obtain ⟨z,hz⟩:∃ z,z=b.hz:=⟨_,rfl⟩
 obtain ⟨R,hR⟩:∃ R,R=Grain.sroll (newS s) z:=⟨_,rfl⟩
 obtain ⟨A,hA⟩:∃ A,A=Grain.sapp R.1 t v:=⟨_,rfl⟩
 have HRes:Hid (putN b i s t v=if 8≤n then (b,5) else if R.2≠0 then (b,R.2) else if A.2≠0 then (b,A.2) else (⟨b.l.take i++[⟨A.1,[(t,v)]⟩]++b.l.drop i,z⟩,0)):=by
  show _=_
  unfold putN
  rw [hA,hR,hz,show n=b.l.length from by rw [hn,hL.len]]
 have HN:Hid (∀ W,Below V.heap.size V W→Calls Tryz.prog 128 #[.slice so' m c'] W fun e w1=>∃ y:ShT,e=.returned (.agg #[.slice y.a0 y.s.se.length y.c0,.slice y.a1 y.s.ra.length y.c1,.slice y.a2 y.s.fi.length y.c2,.slice y.a3 y.s.co.length y.c3,.int .i64 y.s.rf,.int .i64 y.s.ff,.int .i64 y.s.ft,.int .i64 y.s.cf,.int .i64 y.s.ct])∧Hid (y.s=newS s)∧ShIn w1 y∧Below V.heap.size V w1∧w1.cell? ⟨B,0,none⟩=some (.slice ao n cap)∧w1.cell? ⟨B,1,none⟩=some (.int .i64 z)∧B<w1.heap.size∧(∀ (Y:Nat) (o:Obj),W.heap[Y]?=some o→w1.heap[Y]?=some o)):=by
  intro W hW
  refine (snew_any s so' m c' W ((hs.below bel).below hW) hm hf (by omega) hnil).mono ?_
  rintro e w1 ⟨y,rfl,hy,oy,b1⟩
  have h1:Below V.heap.size V w1:=hW.trans (b1.mono hW.size)
  have h2:=below_block h1 BV.b
  exact ⟨y,rfl,hy,oy.shIn,h1,by simp [World.cell?,h2],by simp [World.cell?,h2,hz],lt_of_block h2,fun Y o h=>below_block b1 h⟩
 have HRl:Hid (∀ (W:World) (y:ShT),Below V.heap.size V W→Hid (y.s=newS s)→ShIn W y→Calls Tryz.prog 98 #[.agg #[.slice y.a0 y.s.se.length y.c0,.slice y.a1 y.s.ra.length y.c1,.slice y.a2 y.s.fi.length y.c2,.slice y.a3 y.s.co.length y.c3,.int .i64 y.s.rf,.int .i64 y.s.ff,.int .i64 y.s.ft,.int .i64 y.s.cf,.int .i64 y.s.ct],.int .i64 z] W (QA V W R)):=by
  intro W y hW hy hx
  have h:=sroll_any y z W hx
  rw [hy.out,← hR] at h
  exact h.mono fun e w1 h=>qa_of hW h
 have HAp:Hid (∀ (W:World) (y:ShT),Below V.heap.size V W→Hid (y.s=R.1)→ShIn W y→Calls Tryz.prog 127 #[.agg #[.slice y.a0 y.s.se.length y.c0,.slice y.a1 y.s.ra.length y.c1,.slice y.a2 y.s.fi.length y.c2,.slice y.a3 y.s.co.length y.c3,.int .i64 y.s.rf,.int .i64 y.s.ff,.int .i64 y.s.ft,.int .i64 y.s.cf,.int .i64 y.s.ct],.agg #[.int .i64 t,.int .i64 v]] W fun e w1=>∃ y':ShT,e=.returned (.tuple #[.agg #[.slice y'.a0 y'.s.se.length y'.c0,.slice y'.a1 y'.s.ra.length y'.c1,.slice y'.a2 y'.s.fi.length y'.c2,.slice y'.a3 y'.s.co.length y'.c3,.int .i64 y'.s.rf,.int .i64 y'.s.ff,.int .i64 y'.s.ft,.int .i64 y'.s.cf,.int .i64 y'.s.ct],.int .i64 A.2])∧Hid (y'.s=A.1)∧ShO W.heap.size w1 y'∧Below W.heap.size W w1):=by
  intro W y hW hy hx
  refine (sapp_any y t v W hx).mono ?_
  rintro e w1 ⟨y',rfl,hy',oy,b1⟩
  rw [hy.out,← hA] at hy' ⊢
  exact ⟨y',rfl,hy',oy,b1⟩
 have HV:=hide hV
 have HBV:=hide BV
 have HL:=hide hL
 have HZ:=hide hz
 obtain ⟨q0,q1,q2,q3⟩:=two_cells BV.b
 rw [← hz] at q1
 have T0':=hide T0
 clear hV hL hn hR hA hs hm hf hnil BV hi hz T0
 by_cases h8:8≤n
 ·have FIN:Hid (DPost (putN b i s t v) lo B w (.returned (.int .i64 5)) V):=by
   show DPost _ _ _ _ _ _
   rw [HRes.out,if_pos h8]
   exact ⟨_,_,_,_,rfl,HBV.out,HL.out,Fr.of bel hlB⟩
  have h8':((8:Int)≤(n:Int)):=by omega
  rw [HV.out] at FIN q0 q1
  clear HRes HN HRl HAp HBV HL hB h8 hin q2 q3
  go_enter Tryz.func94,Tryz.ntmps94
  go_wp2
  exact bodyPost_ret (v:=.int .i64 5) (by simp [results,Tryz.results94,go_sem]) rfl FIN.out
 ·have h8':¬ ((8:Int)≤(n:Int)):=by omega
  have hn8:n≤8:=by omega
  have BD:Below V.heap.size V V.drew:=below_drewN (Below.refl _ _) 1
  have BD3:∀ o,Below V.heap.size V (V.alloc o).drew:=fun o=>below_drewN ((Below.refl _ _).alloc (Nat.le_refl _) _) 1
  have HRes2:Hid (putN b i s t v=if R.2≠0 then (b,R.2) else if A.2≠0 then (b,A.2) else (⟨b.l.take i++[⟨A.1,[(t,v)]⟩]++b.l.drop i,z⟩,0)):=by
   show _=_
   rw [HRes.out,if_neg h8]
  clear HRes h8 hB
  rw [HV.out] at q0 q1
  go_enter Tryz.func94,Tryz.ntmps94
  go_upto_region 3 with fail
  rw [← HV.out] at q0 q1 ⊢
  go_cut [9,10] from 18 to 29 (fun v9 v10 wx=>∃ Y:Nat,v9=.pointer (some ⟨Y,0,none⟩)∧v10=.int .i64 R.2∧AP V R.1 Y wx)
  case first =>
   have HSk:Hid (∀ W',Below V.heap.size V W'→W'.cell? ⟨B,1,none⟩=some (.int .i64 z)):=fun W' h=>by have h2:=below_block h HBV.out.b;rw [HZ.out];simp [World.cell?,h2]
   have BD0:Below V.heap.size V V:=Below.refl _ _
   go_region_held3 (fun w'=>w'.cell? ⟨B,1,none⟩=some (.int .i64 z)) (first | exact HSk.out _ (by with_reducible assumption) | exact HSk.out _ (AP.bel (by with_reducible assumption)) | go_keep)
    (first
     | (go_at_call 128;refine (HN.out _ BD).mono ?_;rintro e w1 ⟨y0,rfl,h0,i0,bV,k0,k1,kB,-⟩)
     | (go_at_call 128;refine (HN.out _ (BD3 _)).mono ?_;rintro e w1 ⟨y0,rfl,h0,i0,bV,k0,k1,kB,kk⟩;have Z1:w1.heap[V.heap.size]?=some (so szT):=kk _ _ (heap_alloc_new V _);clear kk)
     | (go_at_call 98;refine (HRl.out w1 y0 bV h0 i0).mono ?_;have Z2:=Z1;rintro e w2 ⟨y,rfl,-,hA,bV2⟩;obtain ⟨Z,hA⟩:=hA V.heap.size (Nat.le_refl _) Z2;unfold Set9 at hA;obtain ⟨z0,z1,z2,z3,z4,z5,z6,z7,z8⟩:=nine_cells Z;obtain ⟨y0,y1,y2,y3,y4,y5,y6,y7,y8⟩:=so_thaw Z;clear Z)
     | (go_at_call 98;refine (HRl.out _ y0 (bV.alloc bV.size _) h0 (i0.below ((Below.refl _ _).alloc (Nat.le_refl _) _))).mono ?_;rintro e w2 ⟨y,rfl,-,hA,bV2⟩;obtain ⟨Z,hA⟩:=hA _ bV.size (heap_alloc_new w1 _);unfold Set9 at hA;obtain ⟨z0,z1,z2,z3,z4,z5,z6,z7,z8⟩:=nine_cells Z;obtain ⟨y0,y1,y2,y3,y4,y5,y6,y7,y8⟩:=so_thaw Z;clear Z)
     | (go_at_call 98;refine (HRl.out w1 y0 bV h0 i0).mono ?_;rintro e w2 ⟨y,rfl,hA,-,bV2⟩))
   all_goals go_wp2
   all_goals go_meet
   all_goals refine ⟨_,rfl,rfl,?_⟩
   all_goals with_reducible assumption
  case rest =>
   obtain ⟨Y,rfl,rfl,y,hY,oy,HY,bx,hYl⟩:=hcut
   obtain ⟨E,hE⟩:∃ E,E=R.2:=⟨_,rfl⟩
   rw [← hE] at HRes2 ⊢
   have hBx:=HBV.out.below bx
   have T1:=below_block bx T0'.out
   have hFx:Fr lo w wc:=(Fr.of bel hlB).trans (Fr.of bx (Nat.le_trans hlB bel.size))
   clear HN HRl hE q0 q1 q2 q3
   by_cases h0:E=0
   ·subst h0
    obtain ⟨y0,y1,y2,y3,y4,y5,y6,y7,y8⟩:=nine_cells hY
    obtain ⟨s0,s1,-,-⟩:=two_cells T1
    have P:=hide (HAp.out wc y bx HY oy.shIn)
    have hYs:Y<wc.heap.size:=lt_of_block hY
    clear HAp HY oy
    go_wp2_with fail
    refine P.out.mono ?_
    rintro e w2 ⟨y',rfl,HY2,oy2,b2⟩
    have hY2:=below_block b2 hY
    have hB2:=hBx.below b2
    have hF2:Fr lo w w2:=hFx.trans (Fr.of b2 (Nat.le_trans hlB hFx.size))
    obtain ⟨u0,u1,u2,u3,u4,u5,u6,u7,u8⟩:=nine_cells hY2
    obtain ⟨f0,f1,f2,f3,f4,f5,f6,f7,f8⟩:=so_thaw hY2
    obtain ⟨E2,hE2⟩:∃ E,E=A.2:=⟨_,rfl⟩
    rw [← hE2] at HRes2 ⊢
    have og:w2.grownBy (Set9 w2 Y (.slice y'.a0 y'.s.se.length y'.c0) (.slice y'.a1 y'.s.ra.length y'.c1) (.slice y'.a2 y'.s.fi.length y'.c2) (.slice y'.a3 y'.s.co.length y'.c3) (.int .i64 y'.s.rf) (.int .i64 y'.s.ff) (.int .i64 y'.s.ft) (.int .i64 y'.s.cf) (.int .i64 y'.s.ct)) (some Y):=by
     have:=put9_grown w2 Y 0 y'
     simpa [Put9,Set9] using this
    obtain ⟨W3,hW3⟩:∃ W3,W3=Set9 w2 Y (.slice y'.a0 y'.s.se.length y'.c0) (.slice y'.a1 y'.s.ra.length y'.c1) (.slice y'.a2 y'.s.fi.length y'.c2) (.slice y'.a3 y'.s.co.length y'.c3) (.int .i64 y'.s.rf) (.int .i64 y'.s.ff) (.int .i64 y'.s.ft) (.int .i64 y'.s.cf) (.int .i64 y'.s.ct):=⟨_,rfl⟩
    have hlY:lo≤Y:=by have:=bel.size;omega
    have hY3:W3.heap[Y]?=some (so y'):=by
     rw [hW3]
     unfold so at hY2
     simp [Set9,World.setCell,Array.getElem?_modify,hY2,so]
    rw [← hW3] at og
    have hBne:B≠Y:=by omega
    have hB3:BIn W3 lo B ao n cap b.hz l:=by
     have hne:∀ k,(Value.slice ao n cap).ownBlock=some k→some Y≠some k:=fun k hk e=>by
      injection e with e
      have h1:=(own_base HBV.out.row.own k hk).2
      omega
     refine ⟨by rw [og.block B (lt_of_block hB2.b) (fun e=>hBne (by injection e))];exact hB2.b,⟨own_keep hB2.row.own og hne,fun x hx=>(hB2.row.shs x hx).keep og (fun k e=>by injection e with e;subst e;exact ⟨_,_,_,hY2,by decide,by decide,by decide⟩)⟩,hB2.loB⟩
    have oy3:ShO lo W3 y':=(oy2.lower (by have:=hFx.size;omega)).keep og (fun k e=>by injection e with e;subst e;exact ⟨_,_,_,hY2,by decide,by decide,by decide⟩)
    have hF3:Fr lo w W3:=hF2.trans (Fr.grown og hlY (Nat.le_trans hlB hF2.size) hY2 (.inl rfl))
    have HB3:=hide hB3
    have HY3:=hide hY3
    have HO3:=hide oy3
    have HF3:=hide hF3
    have HW3:Hid (W3=(((((((((w2.setCell ⟨Y,0,none⟩ (.slice y'.a0 y'.s.se.length y'.c0)).setCell ⟨Y,1,none⟩ (.slice y'.a1 y'.s.ra.length y'.c1)).setCell ⟨Y,2,none⟩ (.slice y'.a2 y'.s.fi.length y'.c2)).setCell ⟨Y,3,none⟩ (.slice y'.a3 y'.s.co.length y'.c3)).setCell ⟨Y,4,none⟩ (.int .i64 y'.s.rf)).setCell ⟨Y,5,none⟩ (.int .i64 y'.s.ff)).setCell ⟨Y,6,none⟩ (.int .i64 y'.s.ft)).setCell ⟨Y,7,none⟩ (.int .i64 y'.s.cf)).setCell ⟨Y,8,none⟩ (.int .i64 y'.s.ct))):=hW3
    clear P y0 y1 y2 y3 y4 y5 y6 y7 y8 s0 s1 hY hY2 hB2 hBx hFx hF2 hE2 og hW3 hB3 hY3 oy3 hF3 oy2 b2 T1 bx
    by_cases h2:E2=0
    ·subst h2
     have HRes3:Hid (putN b i s t v=(⟨b.l.take i++[⟨A.1,[(t,v)]⟩]++b.l.drop i,z⟩,0)):=by
      show _=_
      rw [HRes2.out];simp
     have HI:Hid (∀ W:World,Below W3.heap.size W3 W→W.heap[W3.heap.size]?=some (.cells #[.slice y'.a0 y'.s.se.length y'.c0,.slice y'.a1 y'.s.ra.length y'.c1,.slice y'.a2 y'.s.fi.length y'.c2,.slice y'.a3 y'.s.co.length y'.c3,.int .i64 y'.s.rf,.int .i64 y'.s.ff,.int .i64 y'.s.ft,.int .i64 y'.s.cf,.int .i64 y'.s.ct] 59 (0,0))→Calls Tryz.prog 129 #[.slice ao n cap,.int .i64 i,.slice (some ⟨W3.heap.size,0,none⟩) 1 1] W fun e w4=>∃ g d,e=.returned (.slice (some ⟨g,0,none⟩) (n+1) d)∧(w4.cell? ⟨B,0,none⟩=some (.slice ao n cap)∧w4.frozen? ⟨B,0,none⟩=false)∧Hid (DPost (putN b i s t v) lo B w (.returned (.int .i64 0)) (w4.setCell ⟨B,0,none⟩ (.slice (some ⟨g,0,none⟩) (n+1) d)))):=by
      intro W hW hF
      have hBW:=HB3.out.below hW
      have hloW:lo≤W.heap.size:=Nat.le_trans (Nat.le_trans hlB HF3.out.size) hW.size
      refine (ins9_any (vcells l) _ _ _ _ _ _ _ _ _ lo n cap i W3.heap.size ao W hBW.row.own hin hn8 hloW hF (shc_one y') (vcells_one l) ?_).mono ?_
      ·intro e
       have:=(own_base HB3.out.row.own _ e).2
       omega
      ·rintro e w4 ⟨g,d,rfl,own,gr,-⟩
       have hrow:=hBW.row.ins (HO3.out.below hW) own gr
       have hb4:=own_other hBW.row.own gr hBW.b (by decide)
       have hF4:Fr lo w w4:=(HF3.out.trans (Fr.of hW (Nat.le_trans hlB HF3.out.size))).trans (fr_row hBW.row.own gr hloW)
       refine ⟨g,d,rfl,⟨by simp [World.cell?,hb4],by simp [World.frozen?,hb4]⟩,?_⟩
       show DPost _ _ _ _ _ _
       rw [HRes3.out]
       refine ⟨some ⟨g,0,none⟩,n+1,d,l.take i++[y']++l.drop i,rfl,⟨?_,hrow.keep hb4 ⟨by decide,by decide,by decide,by decide⟩ grown_set,hBW.loB⟩,?_,hF4.trans (Fr.grown grown_set hBW.loB (Nat.le_trans hlB hF4.size) hb4 (.inr rfl))⟩
       ·rw [HZ.out];exact fst_set hb4 _
       ·have hl:=HL.out
        have hy:=HY2.out
        unfold Lies at hl ⊢
        simp only [List.map_append,List.map_take,List.map_drop,hl,List.map_cons,List.map_nil,hy]
     obtain ⟨q0,q1,q2,q3⟩:=two_cells HB3.out.b
     obtain ⟨y0,y1,y2,y3,y4,y5,y6,y7,y8⟩:=nine_cells HY3.out
     have hBs3:B<W3.heap.size:=lt_of_block HB3.out.b
     have hYs3:Y<W3.heap.size:=lt_of_block HY3.out
     have bA:∀ o,Below W3.heap.size W3 (W3.alloc o).drew:=fun o=>below_drewN ((Below.refl _ _).alloc (Nat.le_refl _) _) 1
     have bA2:∀ o,Below W3.heap.size W3 (W3.drew.alloc o):=fun o=>(below_drewN (Below.refl _ _) 1).alloc (Nat.le_refl _) _
     have HW4:=HW3
     clear HRes2 HRes3 HO3 HF3 HL HZ HY2
     go_wp2_with fail
     rw [← HW3.out]
     go_region_with
      (first
       | (go_at_call 129;refine (HI.out _ (bA _) (heap_alloc_new W3 _)).mono ?_;rintro e w4 ⟨g,d,rfl,⟨k0,k1⟩,FIN⟩)
       | (go_at_call 129;refine (HI.out _ (bA2 _) (heap_alloc_new W3.drew _)).mono ?_;rintro e w4 ⟨g,d,rfl,⟨k0,k1⟩,FIN⟩))
     all_goals go_wp2
     all_goals exact bodyPost_ret (v:=.int .i64 0) (by simp [results,Tryz.results94,go_sem]) rfl FIN.out
    ·have hne:(E2 != 0)=true:=by simpa using h2
     have FIN:Hid (DPost (putN b i s t v) lo B w (.returned (.int .i64 E2)) W3):=by
      show DPost _ _ _ _ _ _
      rw [HRes2.out,if_neg (by simp),if_pos h2]
      exact ⟨_,_,_,_,rfl,HB3.out,HL.out,HF3.out⟩
     rw [HW3.out] at FIN
     clear h2 HRes2 HB3 HO3 HF3 HY3 HW3
     go_wp2
     exact bodyPost_ret (v:=.int .i64 E2) (by simp [results,Tryz.results94,go_sem]) rfl FIN.out
   ·have hne:(E != 0)=true:=by simpa using h0
    have FIN:Hid (DPost (putN b i s t v) lo B w (.returned (.int .i64 E)) wc):=by
     show DPost _ _ _ _ _ _
     rw [HRes2.out,if_pos h0]
     exact ⟨_,_,_,_,rfl,hBx,HL.out,hFx⟩
    clear h0 HRes2 hBx hFx HL HY oy hY bx hYl HAp T1
    go_wp2
    exact bodyPost_ret (v:=.int .i64 E) (by simp [results,Tryz.results94,go_sem]) rfl FIN.out
open Go.RowKit Go.GrainU
theorem wrongS_four {s:Lb} (h:wrongS s=0):s.length≤4:=by
 unfold wrongS at h
 by_cases h4:4<s.length
 ·rw [if_pos h4] at h;simp at h
 ·omega
set_option maxRecDepth 100000 in
set_option maxHeartbeats 4000000 in
theorem btake_any (b:Bs) (hb:BInv b) (s:Lb) (t v:Int) (so':Option Addr) (m c':Nat) (l:List ShT) (lo B n cap:Nat) (ao:Option Addr) (w:World) (hB:BIn w lo B ao n cap b.hz l) (hL:Lies l b.l) (hs:Seg w so' (lcells s)) (hm:m=s.length) (hf:Fits s) (hnil:so'=none→m=0∧c'=0) :
  Calls Tryz.prog 57 #[.pointer (some ⟨B,0,none⟩),.slice so' m c',.agg #[.int .i64 t,.int .i64 v]] w (DPost (takeB b s t v) lo B w):=by
 obtain ⟨V,hV⟩:∃ V,V=w.alloc (.cells #[.int .i64 t,.int .i64 v] 34):=⟨_,rfl⟩
 have bel:Below w.heap.size w V:=by rw [hV];exact (Below.refl _ _).alloc (Nat.le_refl _) _
 have T0:V.heap[w.heap.size]?=some (.cells #[.int .i64 t,.int .i64 v] 34 (0,0)):=by rw [hV];exact heap_alloc_new w _
 have hlB:lo≤w.heap.size:=by have:=hB.loB;have:=lt_of_block hB.b;omega
 have P1:=hide (nwrong_any s so' m c' V (hs.below bel) hm hf)
 obtain ⟨E,hE⟩:∃ E,E=wrongS s:=⟨_,rfl⟩
 have HT:Hid (takeB b s t v=if E≠0 then (b,E) else if Grain.inR t v=false then (b,3) else if t<b.hz then (b,9) else if bhas b.l s=true then putB b (bpos b.l s) t v else putN b (bpos b.l s) s t v):=by
  show _=_;rw [hE];rfl
 have hm4:E=0→m≤4:=fun h=>by rw [hm];exact wrongS_four (by rw [← hE];exact h)
 rw [← hE] at P1
 obtain ⟨z,hz⟩:∃ z,z=b.hz:=⟨_,rfl⟩
 have HB:=hide hB
 have HL:=hide hL
 have HM:=hide hm
 have HZ:=hide hz
 have HS:=hide hs
 have HF:=hide hf
 have HNI:=hide hnil
 have HV:=hide hV
 rw [← hz] at HT
 clear hV hB hL hm hz hE hs hf hnil
 go_enter Tryz.func57,Tryz.ntmps57
 go_wp2_with fail
 rw [← HV.out]
 refine P1.out.mono ?_
 rintro e w1 ⟨rfl,b1⟩
 have bel1:Below w.heap.size w w1:=bel.trans (b1.mono bel.size)
 have T1:=below_block b1 T0
 clear P1 T0 b1
 by_cases h0:E=0
 ·have hm5:=hm4 h0
  clear hm4
  subst h0
  have HT1:Hid (takeB b s t v=if Grain.inR t v=false then (b,3) else if t<z then (b,9) else if bhas b.l s=true then putB b (bpos b.l s) t v else putN b (bpos b.l s) s t v):=by
   show _=_;rw [HT.out,if_neg (by simp)]
  clear HT
  obtain ⟨s0,s1,-,-⟩:=two_cells T1
  obtain ⟨W1,hW1⟩:∃ W,W=w1.alloc (.cells #[.int .i64 t,.int .i64 v] 34):=⟨_,rfl⟩
  have hbW:Below w1.heap.size w1 W1:=by rw [hW1];exact (Below.refl _ _).alloc (Nat.le_refl _) _
  have sg:Seg W1 (some ⟨w1.heap.size,0,none⟩) (scells [(t,v)]):=by rw [hW1];exact seg_new w1 _ _
  have HW1:=hide hW1
  clear hW1
  go_wp2_with fail
  rw [← HW1.out]
  refine (wrong_len [(t,v)] _ 1 1 W1 sg rfl).mono ?_
  rintro e w2 ⟨rfl,hb2⟩
  rw [Grain.wrong_one]
  have hb12:Below w1.heap.size w1 w2:=hbW.trans (hb2.mono hbW.size)
  have bel2:Below w.heap.size w w2:=bel1.trans (hb12.mono bel1.size)
  have T2:=below_block hb12 T1
  clear HW1 hb2 hbW hb12 sg T1 bel1 s0 s1
  cases hin:Grain.inR t v
  ·have FIN:Hid (DPost (takeB b s t v) lo B w (.returned (.int .i64 3)) (w2.alloc (.cells #[.int .i64 3,.int .i64 0] 43))):=by
    show DPost _ _ _ _ _ _
    rw [HT1.out,if_pos hin]
    have bz:=bel2.alloc bel2.size (.cells #[.int .i64 3,.int .i64 0] 43)
    exact ⟨_,_,_,_,rfl,HB.out.below bz,HL.out,Fr.of bz hlB⟩
   clear HT1 hin
   rw [if_neg (by decide)]
   go_wp2
   exact bodyPost_ret (v:=.int .i64 3) (by simp [results,Tryz.results57,go_sem]) rfl FIN.out
  ·have HT2:Hid (takeB b s t v=if t<z then (b,9) else if bhas b.l s=true then putB b (bpos b.l s) t v else putN b (bpos b.l s) s t v):=by
    show _=_;rw [HT1.out,if_neg (by rw [hin];decide)]
   obtain ⟨W2,hW2⟩:∃ W,W=w2.alloc (.cells #[.int .i64 0,.int .i64 0] 43):=⟨_,rfl⟩
   have hbW:Below w2.heap.size w2 W2:=by rw [hW2];exact (Below.refl _ _).alloc (Nat.le_refl _) _
   have bel3:Below w.heap.size w W2:=bel2.trans (hbW.mono bel2.size)
   have T3:=below_block hbW T2
   have hB3:=HB.out.below bel3
   obtain ⟨q0,q1,-,-⟩:=two_cells hB3.b
   rw [← HZ.out] at q1
   obtain ⟨s0,s1,-,-⟩:=two_cells T3
   have p0:W2.cell? ⟨w2.heap.size,0,none⟩=some (.int .i64 0):=by rw [hW2];simp
   have HW2:=hide hW2
   rw [if_pos rfl]
   clear HT1 hin hW2 hbW T2 bel2
   go_upto_region 5 with fail
   rw [← HW2.out]
   by_cases ht:t<z
   ·have FIN:Hid (DPost (takeB b s t v) lo B w (.returned (.int .i64 9)) W2.drew):=by
     show DPost _ _ _ _ _ _
     rw [HT2.out,if_pos ht]
     have bz:Below w.heap.size w W2.drew:=below_drewN bel3 1
     exact ⟨_,_,_,_,rfl,HB.out.below bz,HL.out,Fr.of bz hlB⟩
    clear HT2
    go_wp2_with fail
    go_region
    all_goals go_wp2
    all_goals exact bodyPost_ret (v:=.int .i64 9) (by simp [results,Tryz.results57,go_sem]) rfl FIN.out
   ·have HT3:Hid (takeB b s t v=if bhas b.l s=true then putB b (bpos b.l s) t v else putN b (bpos b.l s) s t v):=by
     show _=_;rw [HT2.out,if_neg ht]
    have bz:Below w.heap.size w W2.drew:=below_drewN bel3 1
    have hB4:=HB.out.below bz
    have P2:=hide (find_any b hb l s so' m c' lo B n cap ao W2.drew hB4 HL.out (HS.out.below bz) HM.out)
    have HQ:Hid (∀ w4,Below W2.drew.heap.size W2.drew w4→bhas b.l s=true→Calls Tryz.prog 93 #[.pointer (some ⟨B,0,none⟩),.int .i64 (bpos b.l s),.agg #[.int .i64 t,.int .i64 v]] w4 fun e w5=>∃ x,e=.returned (.int .i64 x)∧DPost (takeB b s t v) lo B w e w5):=by
     intro w4 h4 hh
     have b4:=below_step h4 bz
     refine (bput_any b (bpos b.l s) t v l lo B n cap ao w4 (HB.out.below b4) HL.out (bhas_lt hh) hb.len).mono ?_
     rintro e w5 ⟨ao',n',cap',l',rfl,h1,h2,h3⟩
     refine ⟨_,rfl,?_⟩
     rw [HT3.out,if_pos hh]
     exact ⟨_,_,_,_,rfl,h1,h2,(Fr.of b4 hlB).trans h3⟩
    have HQ2:Hid (∀ w4,Below W2.drew.heap.size W2.drew w4→bhas b.l s=false→Calls Tryz.prog 94 #[.pointer (some ⟨B,0,none⟩),.int .i64 (bpos b.l s),.slice so' m c',.agg #[.int .i64 t,.int .i64 v]] w4 fun e w5=>∃ x,e=.returned (.int .i64 x)∧DPost (takeB b s t v) lo B w e w5):=by
     intro w4 h4 hh
     have b4:=below_step h4 bz
     refine (bputn_any b (bpos b.l s) s t v so' m c' l lo B n cap ao w4 (HB.out.below b4) HL.out (bpos_le _ _) (HS.out.below b4) HM.out hm5 HF.out HNI.out).mono ?_
     rintro e w5 ⟨ao',n',cap',l',rfl,h1,h2,h3⟩
     refine ⟨_,rfl,?_⟩
     rw [HT3.out,if_neg (by rw [hh];decide)]
     exact ⟨_,_,_,_,rfl,h1,h2,(Fr.of b4 hlB).trans h3⟩
    have T4:W2.drew.heap[w.heap.size]?=some (.cells #[.int .i64 t,.int .i64 v] 34 (0,0)):=T3
    generalize bpos b.l s=p at P2 HQ HQ2
    generalize bhas b.l s=F at P2 HQ HQ2
    clear HT2 HT3 hB4 hb
    go_wp2_with fail
    go_region
    all_goals go_wp2_with fail
    all_goals refine P2.out.mono ?_
    all_goals rintro e w4 ⟨rfl,b4⟩
    all_goals have T5:=below_block b4 T4
    all_goals obtain ⟨r0,r1,-,-⟩:=two_cells T5
    all_goals cases F
    all_goals first
     | (have P3:=hide (HQ2.out w4 b4 rfl);clear P2 HQ HQ2;go_wp2_with fail;refine P3.out.mono ?_;rintro e w5 ⟨x,rfl,hD⟩;have HD:=hide hD;clear hD P3;go_wp2;exact bodyPost_ret (v:=.int .i64 x) (by simp [results,Tryz.results57,go_sem]) rfl HD.out)
     | (have P3:=hide (HQ.out w4 b4 rfl);clear P2 HQ HQ2;go_wp2_with fail;refine P3.out.mono ?_;rintro e w5 ⟨x,rfl,hD⟩;have HD:=hide hD;clear hD P3;go_wp2;exact bodyPost_ret (v:=.int .i64 x) (by simp [results,Tryz.results57,go_sem]) rfl HD.out)
 ·have hne:(E != 0)=true:=by simpa using h0
  have FIN:Hid (DPost (takeB b s t v) lo B w (.returned (.int .i64 E)) w1):=by
   show DPost _ _ _ _ _ _
   rw [HT.out,if_pos h0]
   exact ⟨_,_,_,_,rfl,HB.out.below bel1,HL.out,Fr.of bel1 hlB⟩
  clear h0 HT hm4 hb
  go_wp2
  exact bodyPost_ret (v:=.int .i64 E) (by simp [results,Tryz.results57,go_sem]) rfl FIN.out
open Go.RowKit Go.GrainU
set_option maxRecDepth 100000 in
set_option maxHeartbeats 4000000 in
theorem bforg_any (b:Bs) (hb:BInv b) (k t:Int) (l:List ShT) (lo B n cap:Nat) (ao:Option Addr) (w:World) (hB:BIn w lo B ao n cap b.hz l) (hL:Lies l b.l) :
  Calls Tryz.prog 59 #[.pointer (some ⟨B,0,none⟩),.int .i64 k,.int .i64 t] w (DPost (forgB b k t) lo B w):=by
 obtain ⟨V,hV⟩:∃ V,V=(w.alloc (.cells #[.int .i64 k] 3)).alloc (.cells #[.int .i64 t] 3):=⟨_,rfl⟩
 have bel:Below w.heap.size w V:=by rw [hV];exact ((Below.refl _ _).alloc (Nat.le_refl _) _).alloc (by simp) _
 have T0:V.heap[w.heap.size]?=some (.cells #[.int .i64 k] 3 (0,0)):=by rw [hV,Below.heap_alloc _ _ _ (by simp)];exact heap_alloc_new w _
 have T1:V.heap[w.heap.size+1]?=some (.cells #[.int .i64 t] 3 (0,0)):=by
  have:=heap_alloc_new (w.alloc (.cells #[.int .i64 k] 3)) (.cells #[.int .i64 t] 3)
  rw [hV];simpa using this
 have c0:V.cell? ⟨w.heap.size,0,none⟩=some (.int .i64 k):=by simp [World.cell?,T0]
 have c1:V.cell? ⟨w.heap.size+1,0,none⟩=some (.int .i64 t):=by simp [World.cell?,T1]
 have hlB:lo≤w.heap.size:=by have:=hB.loB;have:=lt_of_block hB.b;omega
 have HBV:=hide (hB.below bel)
 have HL:=hide hL
 have HV:=hide hV
 have PT:=hide (istime_any t V)
 by_cases hin:0≤t∧t≤1000000
 ·rw [show decide (0≤t∧t≤1000000)=true from by simpa using hin] at PT
  by_cases hk:k=0∨k=1∨k=2
  ·have hE:=hide (enters (P:=Tryz.prog) (f:=99) Tryz.func99 (by kernel_rfl) (by kernel_rfl))
   have P:=hide (each_any (fun s=>Grain.sforg s k t) 99 #[.pointer (some ⟨w.heap.size,0,none⟩),.pointer (some ⟨w.heap.size+1,0,none⟩)] b hb l lo B n cap ao V HBV.out hL hE (fun W x hW hx=>bforg1_any x k t w.heap.size (w.heap.size+1) W hx (by have:=below_block hW T0;simp [World.cell?,this]) (by have:=below_block hW T1;simp [World.cell?,this])))
   have HR:Hid (forgB b k t=match eachB (fun s=>Grain.sforg s k t) b.l with | .error x=>(b,x) | .ok l=>(⟨l,b.hz⟩,0)):=by
    show _=_
    unfold forgB
    rw [if_neg (by omega),if_pos hk] <;> (cases eachB (fun s=>Grain.sforg s k t) b.l <;> rfl)
   obtain ⟨z,hz⟩:∃ z,z=b.hz:=⟨_,rfl⟩
   have HFIN:Hid (∀ e w1,EcPost b (eachB (fun s=>Grain.sforg s k t) b.l) lo B V e w1→∃ x,e=.returned (.int .i64 x)∧DPost (forgB b k t) lo B w e w1):=by
    intro e w1 hh
    rcases hh with ⟨x,ao',n',cap',l',hx,ho,rfl,hB',hL',hF'⟩ | ⟨r,ao',n',cap',l',ho,rfl,hB',hL',hF'⟩
    ·refine ⟨x,rfl,?_⟩
     rw [HR.out,ho]
     exact ⟨_,_,_,_,rfl,hB',hL',(Fr.of bel hlB).trans hF'⟩
    ·refine ⟨0,rfl,?_⟩
     rw [HR.out,ho]
     exact ⟨_,_,_,_,rfl,hB',hL',(Fr.of bel hlB).trans hF'⟩
   clear hV hL hb hB HR T0 T1 hz
   rcases hk with e | e | e
   all_goals
    have hkk:=e
    subst e
    go_enter Tryz.func59,Tryz.ntmps59
    go_wp2_with fail
    rw [← HV.out]
    refine PT.out.mono ?_
    intro e w1 hh
    rw [hh.1,hh.2]
    clear hh PT
    go_wp2_with fail
    refine P.out.mono ?_
    intro e w1 hh
    obtain ⟨x,rfl,hD⟩:=HFIN.out e w1 hh
    have HD:=hide hD
    clear hh P hD HFIN
    go_wp2
    exact bodyPost_ret (v:=.int .i64 x) (by simp [results,Tryz.results59,go_sem]) rfl HD.out
  ·have FIN:Hid (DPost (forgB b k t) lo B w (.returned (.int .i64 1)) V):=by
    show DPost _ _ _ _ _ _
    have e:forgB b k t=(b,1):=by unfold forgB;rw [if_neg (by omega),if_neg hk]
    rw [e]
    exact ⟨_,_,_,_,rfl,HBV.out,HL.out,Fr.of bel hlB⟩
   have k0:(k != 0)=true:=by simp;omega
   have k1:(k != 1)=true:=by simp;omega
   have k2:(k != 2)=true:=by simp;omega
   clear hin hL HL HBV hb hB hk T0 T1 hV
   go_enter Tryz.func59,Tryz.ntmps59
   go_wp2_with fail
   rw [← HV.out]
   refine PT.out.mono ?_
   intro e w1 hh
   rw [hh.1,hh.2]
   clear hh PT
   go_wp2
   exact bodyPost_ret (v:=.int .i64 1) (by simp [results,Tryz.results59,go_sem]) rfl FIN.out
 ·rw [show decide (0≤t∧t≤1000000)=false from by simpa using hin] at PT
  have FIN:Hid (DPost (forgB b k t) lo B w (.returned (.int .i64 3)) V):=by
   show DPost _ _ _ _ _ _
   have e:forgB b k t=(b,3):=by unfold forgB;rw [if_pos (by omega)]
   rw [e]
   exact ⟨_,_,_,_,rfl,HBV.out,HL.out,Fr.of bel hlB⟩
  clear hin hL HL HBV hb hB T0 T1 hV
  go_enter Tryz.func59,Tryz.ntmps59
  go_wp2_with fail
  rw [← HV.out]
  refine PT.out.mono ?_
  intro e w1 hh
  rw [hh.1,hh.2]
  clear hh PT
  go_wp2
  exact bodyPost_ret (v:=.int .i64 3) (by simp [results,Tryz.results59,go_sem]) rfl FIN.out
end Go.Proofs.YtoldmigappbjcaaGreatDoor
