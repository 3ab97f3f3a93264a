import Derived.Deep.Onto
import Derived.Test.YtoldmigappbjcaaGreatDoorK01
import Derived.Test.YtoldmigappbjcaaGreatDoorK02
import Derived.Test.YtoldmigappbjcaaGreatDoorK04
import Derived.Test.YtoldmigappbjcaaGreatDoorK05
import Derived.Test.YtoldmigappbjcaaGreatDoorK06
import Derived.Test.YtoldmigappbjcaaGreatDoorK07
import Derived.Test.YtoldmigappbjcaaGreatDoorK15
import Derived.Test.YtoldmigappbjcaaGreatDoorK17
import Derived.Test.YtoldmigappbjcaaGreatDoorK25
import Derived.Test.YtoldmigappbjcaaGreatDoorK26
import Derived.Test.YtoldmigappbjcaaGreatDoorK28
import Derived.Test.YtoldmigappbjcaaGreatDoorK30
import Derived.Test.YtoldmigappbjcaaGreatDoorK31
namespace Go.GrainU
open Go.RowKit
def lser (l:List Ln) (k:Nat):Lb:=(l.getD k ([],[])).1
theorem cmpS_self (a:Lb):cmpS a a=0:=by rw [cmpS_L];exact cmpL_self a
open Go.RowKit
structure LT where
 ser:Lb
 smp:List (Int×Int)
 sa:Option Addr
 sc:Nat
 pa:Option Addr
 pc:Nat
def LT.ln (x:LT):Ln:=(x.ser,x.smp)
def lt0:LT:=⟨[],[],none,0,none,0⟩
def lt (l:List LT) (k:Nat):LT:=l.getD k lt0
def tcells:List LT→List Value
 | []=>[]
 | x::r=>.slice x.sa x.ser.length x.sc::.slice x.pa x.smp.length x.pc::tcells r
theorem tcells_length (l:List LT):(tcells l).length=l.length*2:=by
 induction l with
 | nil=>rfl
 | cons s r ih=>simp only [tcells,List.length_cons,ih];omega
theorem tcells_at (l:List LT):∀ k,k<l.length→(tcells l)[k*2]?=some (.slice (lt l k).sa (lt l k).ser.length (lt l k).sc)∧(tcells l)[k*2+1]?=some (.slice (lt l k).pa (lt l k).smp.length (lt l k).pc):=by
 induction l with
 | nil=>intro k hk;simp at hk
 | cons s r ih =>
  intro k hk
  match k with
  | 0=>simp [tcells,lt]
  | k+1 =>
   have:=ih k (by simpa using hk)
   rw [show (k+1)*2=k*2+1+1 from by omega]
   simpa [tcells,lt] using this
theorem seg_line {w:World} {ao:Option Addr} {l:List LT} (h:Seg w ao (tcells l)) {k:Nat} (hk:k<l.length) :
  ∃ b off,ao=some ⟨b,off,none⟩∧b<w.heap.size∧∀ j,j<l.length→w.cell? ⟨b,off+j*2,none⟩=some (.slice (lt l j).sa (lt l j).ser.length (lt l j).sc)∧w.cell? ⟨b,off+j*2+1,none⟩=some (.slice (lt l j).pa (lt l j).smp.length (lt l j).pc):=by
 have hs:=tcells_length l
 rcases h with h | ⟨b,off,rfl,h⟩
 ·rw [h] at hs;simp at hs;omega
 ·have hc:∀ j,j<l.length→w.cell? ⟨b,off+j*2,none⟩=some (.slice (lt l j).sa (lt l j).ser.length (lt l j).sc)∧w.cell? ⟨b,off+j*2+1,none⟩=some (.slice (lt l j).pa (lt l j).smp.length (lt l j).pc):=fun j hj=>by
   have:=tcells_at l j hj
   exact ⟨(h (j*2) (by omega)).trans this.1,by rw [Nat.add_assoc];exact (h (j*2+1) (by omega)).trans this.2⟩
  exact ⟨b,off,rfl,World.block_lt_of_cell? w ⟨b,off+k*2,none⟩ (hc k hk).1,hc⟩
theorem lt_mem {l:List LT} {k:Nat} (hk:k<l.length):lt l k∈l:=by
 simp only [lt,List.getD,List.getElem?_eq_getElem hk,Option.getD_some];exact List.getElem_mem hk
def lns (l:List LT):List Ln:=l.map LT.ln
open Go.RowKit
theorem playB_len:∀ (l:List Dn) (b:Bs),(playB b l).2.length=l.length
 | [],b=>rfl
 | x::r,b=>by simp [playB,playB_len r]
open Go.RowKit
theorem putB_no {b:Bs} {i:Nat} {t v:Int} (h:(putB b i t v).2≠0):(putB b i t v).1=b:=by
 unfold putB at *
 by_cases h1:(Grain.sapp (kp b.l i).s t v).2=0
 ·rw [if_pos h1] at h;exact absurd rfl h
 ·rw [if_neg h1]
theorem putN_no {b:Bs} {i:Nat} {s:Lb} {t v:Int} (h:(putN b i s t v).2≠0):(putN b i s t v).1=b:=by
 unfold putN at *
 by_cases h1:8≤b.l.length
 ·rw [if_pos h1]
 rw [if_neg h1] at h ⊢
 by_cases h2:(Grain.sroll (newS s) b.hz).2≠0
 ·rw [if_pos h2]
 rw [if_neg h2] at h ⊢
 by_cases h3:(Grain.sapp (Grain.sroll (newS s) b.hz).1 t v).2≠0
 ·rw [if_pos h3]
 rw [if_neg h3] at h
 exact absurd rfl h
theorem takeB_no {b:Bs} {s:Lb} {t v:Int} (h:(takeB b s t v).2≠0):(takeB b s t v).1=b:=by
 unfold takeB at *
 by_cases h1:wrongS s≠0
 ·rw [if_pos h1]
 rw [if_neg h1] at h ⊢
 by_cases h2:Grain.inR t v=false
 ·rw [if_pos h2]
 rw [if_neg h2] at h ⊢
 by_cases h3:t<b.hz
 ·rw [if_pos h3]
 rw [if_neg h3] at h ⊢
 by_cases h4:bhas b.l s=true
 ·rw [if_pos h4] at h ⊢;exact putB_no h
 ·rw [if_neg h4] at h ⊢;exact putN_no h
theorem rollB_no {b:Bs} {t:Int} (h:(rollB b t).2≠0):(rollB b t).1=b:=by
 unfold rollB at *
 by_cases h1:t<0∨1000000<t
 ·rw [if_pos h1]
 rw [if_neg h1] at h ⊢
 cases he:eachB (fun s=>Grain.sroll s t) b.l with
 | error x=>rfl
 | ok l=>rw [he] at h;exact absurd rfl h
theorem forgB_no {b:Bs} {k t:Int} (h:(forgB b k t).2≠0):(forgB b k t).1=b:=by
 unfold forgB at *
 by_cases h1:t<0∨1000000<t
 ·rw [if_pos h1]
 rw [if_neg h1] at h ⊢
 by_cases h2:k=0∨k=1∨k=2
 ·rw [if_pos h2] at h ⊢
  cases he:eachB (fun s=>Grain.sforg s k t) b.l with
  | error x=>rfl
  | ok l=>rw [he] at h;exact absurd rfl h
 ·rw [if_neg h2]
theorem doB_no {b:Bs} {d:Dn} (h:(doB b d).2.err≠0∨d.kind=4):(doB b d).1=b:=by
 unfold doB at *
 by_cases k1:d.kind=1
 ·rw [if_pos k1] at h ⊢
  rcases h with h | h
  ·exact takeB_no h
  ·omega
 rw [if_neg k1] at h ⊢
 by_cases k2:d.kind=2
 ·rw [if_pos k2] at h ⊢
  rcases h with h | h
  ·exact rollB_no h
  ·omega
 rw [if_neg k2] at h ⊢
 by_cases k3:d.kind=3
 ·rw [if_pos k3] at h ⊢
  rcases h with h | h
  ·exact forgB_no h
  ·omega
 rw [if_neg k3] at h ⊢
 by_cases k4:d.kind=4
 ·rw [if_pos k4]
 ·rw [if_neg k4]
open Go.RowKit
def lnn (o:List Ln) (k:Nat):Ln:=o.getD k ([],[])
def lpos (o:List Ln) (s:Lb):Nat:=(o.takeWhile fun x=>decide (cmpS x.1 s<0)).length
def lhas (o:List Ln) (s:Lb):Bool:=decide (lpos o s<o.length) && decide (cmpS (lnn o (lpos o s)).1 s=0)
def tellP (o:List Ln) (s:Lb) (x:Int×Int):List Ln :=
 if lhas o s=true then o.set (lpos o s) ((lnn o (lpos o s)).1,(lnn o (lpos o s)).2++[x]) else o.take (lpos o s)++[(s,[x])]++o.drop (lpos o s)
def tellS (o:List Ln) (d:Dn) (a:An):List Ln:=if d.kind=1∧a.err=0 then tellP o d.se (d.t,d.v) else o
def toldP:List Ln→List Dn→List An→List Ln
 | o,d::r,a::q=>toldP (tellS o d a) r q
 | o,_,_=>o
theorem toldP_snoc (d:Dn) (a:An):∀ (l:List Dn) (A:List An) (o:List Ln),l.length=A.length→toldP o (l++[d]) (A++[a])=tellS (toldP o l A) d a
 | [],[],o,_=>rfl
 | x::r,b::s,o,h=>by
  simp only [List.cons_append,toldP]
  exact toldP_snoc d a r s _ (by simpa using h)
 | [],b::s,_,h=>by simp at h
 | y::r,[],_,h=>by simp at h
theorem lnsB_len (l:List Kp):(lnsB l).length=l.length:=by simp [lnsB]
theorem lnn_lnsB {l:List Kp} {k:Nat} (h:k<l.length):lnn (lnsB l) k=((kp l k).s.se,(kp l k).A):=by
 rw [kp_get h]
 simp [lnn,lnsB,List.getD,h]
theorem lpos_lnsB (s:Lb):∀ l:List Kp,lpos (lnsB l) s=bpos l s
 | []=>rfl
 | k::r=>by
  have ih:=lpos_lnsB s r
  unfold lpos bpos lnsB at *
  by_cases h:cmpS k.s.se s<0
  ·simp only [List.map_cons,List.takeWhile_cons,h,decide_true,if_true,List.length_cons]
   rw [ih]
  ·simp [h]
theorem lhas_lnsB (l:List Kp) (s:Lb):lhas (lnsB l) s=bhas l s:=by
 unfold lhas bhas
 rw [lpos_lnsB,lnsB_len]
 by_cases h:bpos l s<l.length
 ·rw [lnn_lnsB h]
 ·simp [h]
theorem eachB_se {f:Grain.Shf→Grain.Shf×Int} (hs:∀ s,(f s).2=0→(f s).1.se=s.se):∀ (l l':List Kp),eachB f l=.ok l'→lnsB l'=lnsB l:=by
 intro l
 induction l with
 | nil=>intro l' h;simp [eachB] at h;subst h;rfl
 | cons a r ih =>
  intro l' h
  by_cases ha:(f a.s).2=0
  ·simp only [eachB,ha,if_true] at h
   cases hr:eachB f r with
   | error x=>rw [hr] at h;simp at h
   | ok r' =>
    rw [hr] at h
    simp at h
    subst h
    have:=ih r' hr
    unfold lnsB at this ⊢
    simp [this,hs _ ha]
  ·simp [eachB,ha] at h
theorem lnsB_set (l:List Kp) (i:Nat) (k:Kp):lnsB (l.set i k)=(lnsB l).set i (k.s.se,k.A):=by
 unfold lnsB
 rw [List.map_set]
theorem tell_take {b:Bs} {s:Lb} {t v:Int} (h:(takeB b s t v).2=0):lnsB (takeB b s t v).1.l=tellP (lnsB b.l) s (t,v):=by
 unfold takeB at *
 by_cases h1:wrongS s≠0
 ·rw [if_pos h1] at h;exact absurd h h1
 rw [if_neg h1] at h ⊢
 by_cases h2:Grain.inR t v=false
 ·rw [if_pos h2] at h;exact absurd h (by simp)
 rw [if_neg h2] at h ⊢
 by_cases h3:t<b.hz
 ·rw [if_pos h3] at h;exact absurd h (by simp)
 rw [if_neg h3] at h ⊢
 unfold tellP
 rw [lhas_lnsB,lpos_lnsB]
 by_cases h4:bhas b.l s=true
 ·rw [if_pos h4] at h ⊢
  rw [if_pos h4,lnn_lnsB (bhas_lt h4)]
  unfold putB at *
  by_cases h5:(Grain.sapp (kp b.l (bpos b.l s)).s t v).2=0
  ·rw [if_pos h5]
   show lnsB (b.l.set _ _)=_
   rw [lnsB_set]
   simp only [(sapp_same h5).1]
  ·rw [if_neg h5] at h;exact absurd h h5
 ·rw [if_neg h4] at h ⊢
  rw [if_neg h4]
  unfold putN at *
  by_cases h5:8≤b.l.length
  ·rw [if_pos h5] at h;exact absurd h (by simp)
  rw [if_neg h5] at h ⊢
  by_cases h6:(Grain.sroll (newS s) b.hz).2≠0
  ·rw [if_pos h6] at h;exact absurd h h6
  rw [if_neg h6] at h ⊢
  by_cases h7:(Grain.sapp (Grain.sroll (newS s) b.hz).1 t v).2≠0
  ·rw [if_pos h7] at h;exact absurd h h7
  rw [if_neg h7]
  have e1:=sroll_same (Decidable.not_not.1 h6)
  have e2:=sapp_same (Decidable.not_not.1 h7)
  have ese:(Grain.sapp (Grain.sroll (newS s) b.hz).1 t v).1.se=s:=by rw [e2.1,e1.1];rfl
  show lnsB (b.l.take _++[_]++b.l.drop _)=_
  unfold lnsB
  simp [List.map_append,List.map_take,List.map_drop,ese]
theorem tell_do (b:Bs) (d:Dn):lnsB (doB b d).1.l=tellS (lnsB b.l) d (doB b d).2:=by
 unfold tellS
 by_cases hk:d.kind=1
 ·by_cases he:(doB b d).2.err=0
  ·rw [if_pos ⟨hk,he⟩]
   have e:doB b d=((takeB b d.se d.t d.v).1,⟨(takeB b d.se d.t d.v).2,0,[],0⟩):=by unfold doB;rw [if_pos hk]
   rw [e] at he ⊢
   exact tell_take he
  ·rw [if_neg (fun h=>he h.2),doB_no (.inl he)]
 ·rw [if_neg (fun h=>hk h.1)]
  unfold doB
  rw [if_neg hk]
  by_cases k2:d.kind=2
  ·rw [if_pos k2]
   show lnsB (rollB b d.till).1.l=_
   unfold rollB
   split
   ·rfl
   ·cases he:eachB (fun s=>Grain.sroll s d.till) b.l with
    | error x=>rfl
    | ok l=>exact eachB_se (fun s hz=>(sroll_same hz).1) _ _ he
  rw [if_neg k2]
  by_cases k3:d.kind=3
  ·rw [if_pos k3]
   show lnsB (forgB b d.tier d.till).1.l=_
   unfold forgB
   split
   ·rfl
   ·split
    ·cases he:eachB (fun s=>Grain.sforg s d.tier d.till) b.l with
     | error x=>rfl
     | ok l=>exact eachB_se (fun s hz=>(sforg_same hz).1) _ _ he
    ·rfl
  rw [if_neg k3]
  split <;> rfl
theorem told_play:∀ (l:List Dn) (b:Bs),toldP (lnsB b.l) l (playB b l).2=lnsB (playB b l).1.l
 | [],b=>rfl
 | d::r,b=>by
  have e:(playB b (d::r)).2=(doB b d).2::(playB (doB b d).1 r).2:=rfl
  have e1:(playB b (d::r)).1=(playB (doB b d).1 r).1:=rfl
  rw [e,e1,toldP,← tell_do,told_play r]
theorem playB_take:∀ (l:List Dn) (b:Bs) (i:Nat),(playB b (l.take i)).2=(playB b l).2.take i
 | [],b,i=>by simp [playB]
 | d::r,b,0=>rfl
 | d::r,b,i+1=>by
  simp only [List.take_succ_cons,playB]
  rw [playB_take r]
theorem playB_at {l:List Dn} {b:Bs} {i:Nat} (h:i<l.length):(playB b l).2[i]?=some (doB (playB b (l.take i)).1 l[i]).2:=by
 have h1:=playB_take l b (i+1)
 rw [List.take_add_one,List.getElem?_eq_getElem h] at h1
 simp only [Option.toList_some] at h1
 rw [playB_snoc] at h1
 have h2:=congrArg (fun L=>L[i]?) h1
 simp only at h2
 have hl:(playB b (l.take i)).2.length=i:=by rw [playB_len];simp;omega
 rw [List.getElem?_append_right (by omega),hl,Nat.sub_self] at h2
 rw [List.getElem?_take_of_lt (by omega)] at h2
 exact h2.symm
end Go.GrainU
namespace Go.Proofs.YtoldmigappbjcaaGreatDoor
open Go.RowKit Go.GrainU
set_option maxHeartbeats 1000000 in
theorem ladd_any (h:ByteArray) (t v:Int) (w:World) (hh:h.size≤9223372036854775807) :
  Calls Tryz.prog 34 #[.string h,.int .i64 t,.int .i64 v] w fun e w'=>∃ S:Nat,e=.returned (.agg #[.int .i64 1,.int .i64 0,.int .i64 0,.slice (some ⟨S,0,none⟩) 1 1,.int .i64 t,.int .i64 v,.string ⟨#[]⟩])∧DIn w' ⟨dAdd h t v,some ⟨S,0,none⟩,1⟩∧Below w.heap.size w w':=by
 have FIN:∀ o,Hid (DIn ((w.alloc o).alloc (.cells #[.string hostB,.string h] 88)) ⟨dAdd h t v,some ⟨w.heap.size+1,0,none⟩,1⟩∧Below w.heap.size w ((w.alloc o).alloc (.cells #[.string hostB,.string h] 88))):=by
  intro o
  refine ⟨⟨?_,?_,fun h=>(by cases h),by show (ByteArray.mk #[]).size≤_;decide⟩,((Below.refl _ _).alloc (Nat.le_refl _) _).alloc (by simp) _⟩
  ·have:=seg_new (w.alloc o) #[.string hostB,.string h] 88
   simpa [dAdd,lcells] using this
  ·intro k hk
   have:k=0:=by simp [dAdd] at hk;exact hk
   subst this
   exact ⟨by show hostB.size≤_;decide,hh⟩
 have HF:=hide FIN
 clear FIN hh
 unfold hostB at HF
 go_enter Tryz.func34,Tryz.ntmps34
 go_wp2
 exact bodyPost_ret (v:=.agg #[.int .i64 1,.int .i64 0,.int .i64 0,.slice (some ⟨w.heap.size+1,0,none⟩) 1 1,.int .i64 t,.int .i64 v,.string ⟨#[]⟩]) (by simp [results,Tryz.results34,go_sem]) rfl ⟨_,rfl,(HF.out _).out.1,(HF.out _).out.2⟩
def alive9S:ByteArray:=⟨#[97,108,108,32,115,117,109,32,40,115,117,109,40,123,125,91,54,48,93,41,41]⟩
def alive9L:List Dn:=[dAdd ⟨#[120]⟩ 5 7,dAdd ⟨#[121]⟩ 6 8,dRoll 100,dAsk alive9S 60]
theorem alive9_l:(playB b0 alive9L).1.l.length=2:=by kernel_rfl
theorem alive9_a:(playB b0 alive9L).2.getD 3 ⟨1,0,[],0⟩=⟨0,0,[([],15)],2⟩:=by kernel_rfl
set_option maxRecDepth 20000 in
set_option maxHeartbeats 4000000 in
theorem lalive_any (w:World) (hv:ErrV w):Calls Tryz.prog 13 #[] w fun e w'=>e=.returned (.bool true)∧Below w.heap.size w w':=by
 have P1:=hide (ladd_any ⟨#[120]⟩ 5 7 w (by decide))
 have HV:=hide hv
 clear hv
 go_enter Tryz.func13,Tryz.ntmps13
 go_wp2_with fail
 refine P1.out.mono ?_
 rintro e w1 ⟨S,rfl,d1,b1⟩
 have P2:=hide (ladd_any ⟨#[121]⟩ 6 8 w1 (by decide))
 clear P1
 go_wp2_with fail
 refine P2.out.mono ?_
 rintro e w2 ⟨S2,rfl,d2,b2⟩
 have bel2:Below w.heap.size w w2:=b1.trans (b2.mono b1.size)
 have D1:=d1.below b2
 obtain ⟨W,hW⟩:∃ W,W=w2.alloc (.cells #[.int .i64 1,.int .i64 0,.int .i64 0,.slice (some ⟨S,0,none⟩) 1 1,.int .i64 5,.int .i64 7,.string ⟨#[]⟩,.int .i64 1,.int .i64 0,.int .i64 0,.slice (some ⟨S2,0,none⟩) 1 1,.int .i64 6,.int .i64 8,.string ⟨#[]⟩,.int .i64 2,.int .i64 0,.int .i64 100,.slice none 0 0,.int .i64 0,.int .i64 0,.string ⟨#[]⟩,.int .i64 4,.int .i64 0,.int .i64 60,.slice none 0 0,.int .i64 0,.int .i64 0,.string ⟨#[97,108,108,32,115,117,109,32,40,115,117,109,40,123,125,91,54,48,93,41,41]⟩] 36):=⟨_,rfl⟩
 have bW:Below w2.heap.size w2 W:=by rw [hW];exact (Below.refl _ _).alloc (Nat.le_refl _) _
 have belW:Below w.heap.size w W:=bel2.trans (bW.mono bel2.size)
 obtain ⟨l,hl⟩:∃ l:List DT,l=[⟨dAdd ⟨#[120]⟩ 5 7,some ⟨S,0,none⟩,1⟩,⟨dAdd ⟨#[121]⟩ 6 8,some ⟨S2,0,none⟩,1⟩,⟨dRoll 100,none,0⟩,⟨dAsk alive9S 60,none,0⟩]:=⟨_,rfl⟩
 have hd:dns l=alive9L:=by rw [hl];rfl
 have hl4:l.length=4:=by rw [hl];rfl
 have sg:Seg W (some ⟨w2.heap.size,0,none⟩) (dcells l):=by
  rw [hW,hl];exact seg_new w2 _ _
 have P3:=hide (play_any l (some ⟨w2.heap.size,0,none⟩) 4 4 W sg (fun x hx=>by
  rw [hl] at hx
  simp at hx
  rcases hx with e | e | e | e
  ·rw [e];exact D1.below bW
  ·rw [e];exact d2.below bW
  ·rw [e];exact din_none _ _ rfl (by show (ByteArray.mk #[]).size≤_;decide)
  ·rw [e];exact din_none _ _ rfl (by show alive9S.size≤_;decide)) hl4.symm (HV.out.below belW))
 have HW:=hide hW
 have HD:=hide hd
 have HL4:=hide hl4
 clear P2 d1 d2 D1 b1 b2 bel2 hW sg bW HV hd hl hl4
 go_wp2_with fail
 rw [← HW.out]
 refine P3.out.mono ?_
 intro e w3 hh
 rcases hh with ⟨h120,_⟩ | ⟨h120,ro,oo,rn,rc,d,hz,sl,ys,rfl,hrow,hli,hhz,hout,hys,b3⟩
 ·rw [HL4.out] at h120;exact absurd h120 (by decide)
 ·rw [HD.out] at hli hys
  rw [HL4.out] at hout ⊢
  have bel3:Below w.heap.size w w3:=belW.trans (b3.mono belW.size)
  have hrn:rn=2:=by
   have h1:=hrow.len
   have h2:=hli.len
   rw [h1,h2,alive9_l]
  have hyl:=hout.len
  obtain ⟨y,hy⟩:∃ y,y=ys.getD 3 ⟨⟨1,0,[],0⟩,[],none,0⟩:=⟨_,rfl⟩
  have hmy:3<ys.length:=by omega
  have yin:AnIn w3 y:=by
   rw [hy]
   refine hout.ans _ ?_
   simp only [List.getD,List.getElem?_eq_getElem hmy,Option.getD_some];exact List.getElem_mem hmy
  have ya:y.a=⟨0,0,[([],15)],2⟩:=by
   rw [← alive9_a,← hys,hy]
   simp [List.getD,List.getElem?_eq_getElem hmy]
  obtain ⟨bb,off,hoo,hcs⟩:∃ b off,oo=some ⟨b,off,none⟩∧∀ j,j<(acells4 ys).length→w3.cell? ⟨b,off+j,none⟩=(acells4 ys)[j]?:=by
   rcases own_seg' hout.own with h | ⟨b,off,h1,h2⟩
   ·have:=acells4_length ys
    rw [h] at this
    simp at this
    omega
   ·exact ⟨b,off,h1,h2⟩
  have hal:=acells4_length ys
  have cc:∀ j,j<4→w3.cell? ⟨bb,off+12+j,none⟩=y.cells[j]?:=fun j hj=>by
   rw [hy,← acells4_at ys 3 j hmy hj,Nat.add_assoc];exact hcs (3*4+j) (by omega)
  obtain ⟨ya',cts,co,cap⟩:=y
  simp only at ya
  subst ya
  have hc:=yin.cs
  have hci:=yin.inn
  simp only at hc hci
  have hl1:cts.length=1:=by have:=congrArg List.length hc;simpa [cls] using this
  have hk:0<cts.length:=by omega
  obtain ⟨b,off2,hco,hbb,hcell⟩:=seg_cell hci.seg hk
  have hv0:(ct cts 0).v=15:=by
   match cts,hl1,hc with
   | [c],_,h =>
    simp [cls,CT.cl] at h
    exact h.2
  have q1:w3.cell? ⟨b,off2+1,none⟩=some (.int .i64 15):=by
   have:=(hcell 0 hk).2
   rw [hv0] at this
   simpa using this
  have c2:w3.cell? ⟨bb,off+12+2,none⟩=some (.slice (some ⟨b,off2,none⟩) 1 cap):=by rw [← hco,← hl1];exact cc 2 (by omega)
  have c3:w3.cell? ⟨bb,off+12+3,none⟩=some (.int .i64 2):=cc 3 (by omega)
  have l1:bb<w3.heap.size:=World.block_lt_of_cell? w3 _ c2
  have l2:b<w3.heap.size:=World.block_lt_of_cell? w3 _ q1
  have HB:Hid (∀ o,Below w.heap.size w (w3.alloc o)):=fun o=>bel3.alloc bel3.size _
  subst hoo
  subst hrn
  clear P3 hrow hli hhz hout hys b3 bel3 hcs cc hal yin hc hci hcell hv0 hl1 hk hyl hmy hy h120 HW HD HL4
  go_wp2
  go_ret
  exact ⟨rfl,HB.out _⟩
open Go.RowKit Go.GrainU
def at0:AT:=⟨⟨1,0,[],0⟩,[],none,0⟩
end Go.Proofs.YtoldmigappbjcaaGreatDoor
namespace Go.GrainU
open Go.RowKit
theorem own_beside {w w':World} {base e size n:Nat} {v:Value} {xs:List Value} {r:Option Nat} (h:w.ownsRow base e size v n xs) (hg:w.grownBy w' r) (hne:∀ g,v.ownBlock=some g→r≠some g):w'.ownsRow base e size v n xs:=by
 refine ⟨h.1,?_⟩
 rcases h.2 with h0 | ⟨g,cap,cur,hv,hb,hgb,q⟩
 ·exact .inl h0
 ·refine .inr ⟨g,cap,cur,hv,hb,?_,q⟩
  have hlt:g<w.heap.size:=by
   rcases Nat.lt_or_ge g w.heap.size with h1 | h1
   ·exact h1
   ·rw [Array.getElem?_eq_none h1] at hgb;cases hgb
  rw [hg.block g hlt (fun e=>hne g (by rw [hv];rfl) e.symm)]
  exact hgb
theorem own_is {w:World} {base e size n:Nat} {v:Value} {xs:List Value} (h:w.ownsRow base e size v n xs):∀ k,v.ownBlock=some k→∃ c fr,w.heap[k]?=some (.cells c e fr):=by
 intro k hk
 rcases h.2 with ⟨hv,_⟩ | ⟨g,cap,cur,hv,_,hgb,_⟩
 ·rw [hv] at hk;cases hk
 ·rw [hv] at hk
  injection hk with hk
  subst hk
  exact ⟨_,_,hgb⟩
theorem own_two {w w':World} {base base' e e' size size' n n':Nat} {v v':Value} {xs xs':List Value} (h:w.ownsRow base e size v n xs) (h':w.ownsRow base' e' size' v' n' xs') (hg:w.grownBy w' v'.ownBlock) (hne:e≠e'):w'.ownsRow base e size v n xs:=by
 refine own_beside h hg (fun g h1 h2=>?_)
 obtain ⟨c,fr,k1⟩:=own_is h g h1
 obtain ⟨c',fr',k2⟩:=own_is h' g h2
 rw [k1] at k2
 injection k2 with k2
 injection k2 with _ k3 _
 exact hne k3
end Go.GrainU
namespace Go.Proofs.YtoldmigappbjcaaGreatDoor
open Go.RowKit Go.GrainU
end Go.Proofs.YtoldmigappbjcaaGreatDoor
